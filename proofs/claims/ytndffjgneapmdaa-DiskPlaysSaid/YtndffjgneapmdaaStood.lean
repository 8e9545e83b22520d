/- The law's own 'names' and 'stood': all files, in both disks. No condition but the widths. -/
import Derived.Test.YtndffjgneapmdaaDoesAll
namespace Go.Proofs.Ytndffjgneapmdaa
open Go.RowKit Go.Maps
theorem str_at (k : Str) : ∃ s : ByteArray, encStr k = .string s ∧ s.data.toList = k := ⟨⟨k.toArray⟩, rfl, by simp⟩
set_option maxHeartbeats 800000 in
theorem names_same (A A' : Option Addr) (n c c' : Nat) (ks : List Str) (w : World) (h3 : n ≤ 256) (hA : ∀ i, i < n → ∃ g, A = some ⟨g, 0, none⟩ ∧ w.cell? ⟨g, i, none⟩ = some (encStr (ks.getD i []))) (hA' : ∀ i, i < n → ∃ g, A' = some ⟨g, 0, none⟩ ∧ w.cell? ⟨g, i, none⟩ = some (encStr (ks.getD i []))) :
    Calls Try.prog 38 #[.slice A n c, .slice A' n c'] w fun e w' => e = .returned (.bool true) ∧ ∃ d, w' = w.drewN d := by
  have hne0 : ((n : Int) != (n : Int)) = false := by simp
  have HA := hide hA
  have HA' := hide hA'
  clear hA hA'
  go_enter Try.func38, Try.ntmps38
  go_wp2_with fail
  go_loopw [5] (fun i wr => ∃ k d : Nat, k ≤ n ∧ i = .int .i64 (k : Int) ∧ wr = w.drewN d) (fun i _ => n - (intOf i).toNat)
  case atStart => exact ⟨0, 0, Nat.zero_le _, rfl, rfl⟩
  case round =>
    obtain ⟨k, d, hk, rfl, rfl⟩ := hrel
    by_cases hlt : k < n
    · obtain ⟨g, rfl, q⟩ := HA.out k hlt
      obtain ⟨g', rfl, q'⟩ := HA'.out k hlt
      obtain ⟨s, hs, _⟩ := str_at (ks.getD k [])
      rw [hs] at q q'
      obtain ⟨W, hW⟩ : ∃ W, W = w.drewN d := ⟨_, rfl⟩
      have k1 : W.cell? ⟨g, k, none⟩ = some (.string s) := by rw [hW]; exact q
      have k2 : W.cell? ⟨g', k, none⟩ = some (.string s) := by rw [hW]; exact q'
      rw [← hW]
      have HW := hide hW
      clear hs q q' hW
      go_wp2_with fail
      go_quiet (fail)
      go_wp2_with fail
      go_roundw
      case rel => exact ⟨k + 1, d + _, by omega, by go_num, by rw [HW.out, World.drewN_drewN]⟩
      case measure => simp [intOf]; omega
    · go_wp2_with fail
      go_ret
      exact ⟨rfl, _, rfl⟩
theorem OwnS.rows {w : World} {B n : Nat} {v : Value} {ks : List Str} (h : OwnS w B v ks) (hn : ks.length = n) : ∃ A c, v = .slice A n c ∧ n ≤ c ∧ c ≤ 9223372036854775807 ∧ ∀ i, i < n → ∃ g, A = some ⟨g, 0, none⟩ ∧ w.cell? ⟨g, i, none⟩ = some (encStr (ks.getD i [])) := by
  subst hn
  obtain ⟨A, c, e, h1, h2, h3⟩ := h.form
  exact ⟨A, c, e, h1, h2, fun i hi => by
    obtain ⟨g, e, _, _, q⟩ := h3 i hi
    exact ⟨g, e, q⟩⟩
theorem abs_at {X : List (Str × Fil)} (hr : Rise (absX X)) {j : Nat} (hj : j < X.length) : getK X[j].1 (absX X) = some X[j].2.2 := by
  have h : getK X[j].1 X = some X[j].2 := mem_getK (rise_abs hr) (List.getElem_mem hj)
  rw [absX_get, h]
  rfl
set_option maxRecDepth 100000 in
set_option maxHeartbeats 6400000 in
theorem stood_any (B : Nat) (w : World) (F G : Nat → Prop) (d p room : Nat) (L : DiskL) (hB : Both B w F G d p room L) :
    Calls Try.prog 13 #[.pointer (some ⟨d, 0, none⟩), .pointer (some ⟨p, 0, none⟩)] w fun e w' => e = .returned (.bool true) ∧ Below w.heap.size w w' := by
  have SA := hide hB.disk.sane
  have NM := hide hB.disk.facts.2.2.2.2.2
  have HB := hide hB
  clear hB
  obtain ⟨n, hn⟩ : ∃ n, n = (L.map (·.1)).length := ⟨_, rfl⟩
  have h256 : n ≤ 256 := by rw [hn, List.length_map]; exact SA.out.few
  have hU : (((usedL L : Nat) : Int) != ((usedL L : Nat) : Int)) = false := by simp
  have HN := hide hn
  clear hn
  go_enter Try.func13, Try.ntmps13
  go_wp2_with fail
  refine (list_any F d room L w HB.out.disk).mono ?_
  rintro e w1 ⟨v1, rfl, o1, k1⟩
  obtain ⟨A1, c1, rfl, l1, m1, q1⟩ := o1.rows HN.out.symm
  have K1 := hide k1
  have O1 := hide o1
  clear k1 q1 o1
  go_wp2_with fail
  refine (rlist_at G p room L w1 (HB.out.below K1.out).ref SA.out).mono ?_
  rintro e w2 ⟨v2, rfl, o2, k2⟩
  obtain ⟨A2, c2, rfl, l2, m2, q2⟩ := o2.rows HN.out.symm
  have q1 : ∀ i, i < n → ∃ g, A1 = some ⟨g, 0, none⟩ ∧ w2.cell? ⟨g, i, none⟩ = some (encStr ((L.map (·.1)).getD i [])) := by
    obtain ⟨A3, c3, e3, _, _, q3⟩ := (O1.out.turn (S := fun _ => False) (Turn.of_below _ k2) (fun _ _ => id)).rows HN.out.symm
    cases e3
    exact q3
  have K2 := hide (K1.out.trans (k2.mono K1.out.size))
  clear k2 o2 O1
  go_wp2_with fail
  refine (names_same A1 A2 n c1 c2 (L.map (·.1)) w2 h256 q1 q2).mono ?_
  rintro e w3 ⟨rfl, d3, rfl⟩
  have K3 := hide (below_drewN K2.out d3)
  have BW := hide (HB.out.below K3.out)
  clear q1 q2 K2
  go_wp2_with fail
  refine (used_any F d room L (w2.drewN d3) BW.out.disk).mono ?_
  rintro e w3 ⟨rfl, rfl⟩
  go_wp2_with fail
  refine (rused_at G p room L (w2.drewN d3) BW.out.ref SA.out).mono ?_
  rintro e w3 ⟨rfl, rfl⟩
  obtain ⟨v, X, hX, hx⟩ := BW.out.ref
  obtain ⟨W, hW⟩ : ∃ W, W = w2.drewN d3 := ⟨_, rfl⟩
  rw [← hW] at hx K3 BW ⊢
  clear hW
  obtain ⟨A, c, rfl, hlc, hc63, -, hcell⟩ := hx.form
  have c1' : W.cell? ⟨p, 1, none⟩ = some (.slice A X.length c) := hx.cells.cell 1
  have hpl : p < W.heap.size := hx.low p hx.own
  obtain ⟨M, hM⟩ : ∃ M, M = X.length := ⟨_, rfl⟩
  have hM256 : M ≤ 256 := by rw [hM, ← absX_length, ← hX]; exact SA.out.few
  rw [← hM] at c1' hlc
  have HMM := hide hM
  have HX := hide hX
  have HC := hide hcell
  have HR := hide hx
  clear hM hX hcell hx
  go_wp2_with fail
  go_loopw [5] (fun i wr => ∃ k : Nat, k ≤ M ∧ i = .int .i64 (k : Int) ∧ Hid (Below W.heap.size W wr)) (fun i _ => M - (intOf i).toNat)
  case atStart => exact ⟨0, Nat.zero_le _, rfl, hide (Below.refl _ _)⟩
  case round =>
    obtain ⟨k, hk, rfl, hbel⟩ := hrel
    have c1 := (hbel.out.cell hpl).trans c1'
    by_cases hlt : k < M
    · have hkX : k < X.length := by rw [← HMM.out]; exact hlt
      obtain ⟨g, rfl, _, hgl, q0, q1, q2, _⟩ := HC.out k hkX
      have hoj := HR.out.each X[k] (List.getElem_mem hkX)
      have hg0 := abs_at (HX.out ▸ SA.out.rise) hkX
      rw [← HX.out] at hg0
      have hnm := NM.out (X[k].1, X[k].2.2) (getK_mem hg0)
      obtain ⟨A', cc, e, hIB, h7, h8⟩ := hoj.1.isB.form rfl
      obtain ⟨nm, hnm2⟩ : ∃ nm, nm = X[k].1 := ⟨_, rfl⟩
      obtain ⟨xs, hxs⟩ : ∃ xs, xs = X[k].2.2.1 := ⟨_, rfl⟩
      obtain ⟨l, hl⟩ : ∃ l, l = X[k].2.2.2 := ⟨_, rfl⟩
      have hpe : X[k].2.2 = (xs, l) := by rw [hxs, hl]
      rw [hpe, ← hnm2] at hg0 hnm
      rw [e] at q1
      rw [← hnm2] at q0
      rw [← hxs] at q1 hIB h7
      obtain ⟨s, hs, hs2⟩ := str_at nm
      rw [hs] at q0
      rw [← hs2] at hg0 hnm
      have hxl := SA.out.len hg0
      obtain ⟨m, hm⟩ : ∃ m, m = xs.length := ⟨_, rfl⟩
      rw [← hm] at q1 hIB h7
      have hxl : m ≤ 1073741824 := by rw [hm]; exact hxl
      have hs64 : s.size ≤ 64 := hnm
      have r0 := (hbel.out.cell (p := ⟨g, k * 3, none⟩) hgl).trans q0
      have r1 := (hbel.out.cell (p := ⟨g, k * 3 + 1, none⟩) hgl).trans q1
      have HG := hide hg0
      have HIB := hide hIB
      have HMX := hide hm
      have hmm : ((m : Int) != (m : Int)) = false := by simp
      clear hoj hg0 hnm e hIB hnm2 hxs hl hpe hs hs2 q0 q1 q2 hm
      go_wp2_with fail
      refine (read_some F d room L s xs l wr (BW.out.below hbel.out).disk (by omega) HG.out).mono ?_
      rintro e w4 ⟨v4, rfl, o4, k4⟩
      obtain ⟨A4, c4, rfl, i4, l4, m4⟩ := o4.isB.form HMX.out.symm
      have K4 := hide (hbel.out.trans (k4.mono hbel.out.size))
      have O4 := hide o4
      have t0 := (K4.out.cell (p := ⟨p, 1, none⟩) hpl).trans ((hbel.out.cell (p := ⟨p, 1, none⟩) hpl).symm.trans c1)
      have t1 := (K4.out.cell (p := ⟨g, k * 3, none⟩) hgl).trans ((hbel.out.cell (p := ⟨g, k * 3, none⟩) hgl).symm.trans r0)
      have t2 := (K4.out.cell (p := ⟨g, k * 3 + 1, none⟩) hgl).trans ((hbel.out.cell (p := ⟨g, k * 3 + 1, none⟩) hgl).symm.trans r1)
      clear k4 o4 i4
      go_wp2_with fail
      refine (size_some F d room L s xs l w4 (BW.out.below K4.out).disk (by omega) HG.out).mono ?_
      rintro e w5 ⟨rfl, k5⟩
      rw [← HMX.out]
      have K5 := hide (K4.out.trans (k5.mono K4.out.size))
      have O5 := hide (O4.out.keep k5)
      have p0 := (K5.out.cell (p := ⟨p, 1, none⟩) hpl).trans ((hbel.out.cell (p := ⟨p, 1, none⟩) hpl).symm.trans c1)
      have p2 := (K5.out.cell (p := ⟨g, k * 3 + 1, none⟩) hgl).trans ((hbel.out.cell (p := ⟨g, k * 3 + 1, none⟩) hgl).symm.trans r1)
      clear k5 O4
      go_wp2_with fail
      refine (same_any A4 A' m m c4 cc xs xs w5 O5.out.isB.rd (HIB.out.keep K5.out).rd HMX.out HMX.out (by omega) (by omega)).mono ?_
      rintro e w6 ⟨rfl, d6, rfl⟩
      rw [decide_eq_true (rfl : xs = xs)]
      have K6 := hide (below_drewN K5.out d6)
      have y0 : (w5.drewN d6).cell? ⟨p, 1, none⟩ = some (.slice (some ⟨g, 0, none⟩) M c) := p0
      have y2 : (w5.drewN d6).cell? ⟨g, k * 3 + 1, none⟩ = some (.slice A' m cc) := p2
      go_wp2_with fail
      go_roundw
      case rel => exact ⟨k + 1, by omega, by go_num, K6⟩
      case measure => simp [intOf]; omega
    · go_wp2_with fail
      go_ret
      exact ⟨rfl, K3.out.trans (hbel.out.mono K3.out.size)⟩
end Go.Proofs.Ytndffjgneapmdaa
