/- The document's Crash. No condition but the widths. -/
import Derived.Test.YtndffjgneapmdaaRDraw
import Derived.BigQuiet
namespace Go.Proofs.Ytndffjgneapmdaa
open Go.RowKit Go.Maps
theorem crashTo_succ (draw j : Nat) (L : DiskL) (hj : j < L.length) : crashTo draw (j + 1) L = (crashTo draw j L).set j (L[j].1, crash1 draw j L[j].2) := by
  unfold crashTo
  refine List.ext_getElem (by simp) fun i h1 h2 => ?_
  simp only [List.getElem_mapIdx, List.getElem_set]
  by_cases e : j = i
  · subst e
    simp
  · rw [if_neg e]
    by_cases hl : i < j
    · rw [if_pos (by omega), if_pos hl]
    · rw [if_neg (by omega), if_neg hl]
theorem crashTo_at (draw j : Nat) (L : DiskL) (hj : j < L.length) : (crashTo draw j L)[j]'(by rw [crashTo_length]; exact hj) = L[j] := by
  unfold crashTo
  simp
theorem absX_set (X : List (Str × Fil)) (i : Nat) (q : Str × Fil) : absX (X.set i q) = (absX X).set i (q.1, q.2.2) := by
  unfold absX mapK
  rw [List.map_set]
theorem rround_z (a b c : Nat) (z : Int) (hz : z = (c : Int)) (hc : 0 < c) (hc1 : c ≤ 1099511627776) (w : World) :
    Calls Try.prog 43 #[.int .i64 (a : Int), .int .i64 (b : Int), .int .i64 z] w fun e w' => e = .returned (.int .i64 (((a % c + b) % c : Nat) : Int)) ∧ ∃ d, w' = w.drewN d := by
  rw [hz]
  exact rround_any a b c hc hc1 w
set_option maxRecDepth 100000 in
set_option maxHeartbeats 6400000 in
theorem rcrash_any (G : Nat → Prop) (p room : Nat) (v : Value) (X : List (Str × Fil)) (z : Int) (draw : Nat) (w : World) (h : RShell w G p room v X) (hlen : X.length ≤ 256) (hz : max z 0 = (draw : Int)) (hb : ∀ q ∈ X, q.2.2.2 ≤ q.2.2.1.length) (hbl : ∀ q ∈ X, q.2.2.1.length ≤ 1073741824) :
    Calls Try.prog 14 #[.pointer (some ⟨p, 0, none⟩), .int .i64 z] w fun e w' => e = .returned (.tuple #[]) ∧ ∃ G' v' X', RShell w' G' p room v' X' ∧ absX X' = crashD draw (absX X) ∧ Next G w G' w' := by
  obtain ⟨A, c, rfl, hlc, hc63, hnil, hcell0⟩ := h.form
  obtain ⟨N, hN⟩ : ∃ N, N = X.length := ⟨_, rfl⟩
  have hHX := hide h
  have HN := hide hN
  have HZ := hide hz
  have HB := hide hb
  have HBL := hide hbl
  have HA : Hid (0 < N → ∃ g, A = some ⟨g, 0, none⟩) := fun h0 => by
    obtain ⟨g, e, _⟩ := hcell0 0 (by omega)
    exact ⟨g, e⟩
  rw [← hN] at hlc hlen
  clear h hN hz hb hbl hcell0 hnil
  go_enter Try.func14, Try.ntmps14
  go_wp2_with fail
  go_loopw [4] (fun i wr => ∃ (j : Nat) (G' : Nat → Prop) (Y : List (Str × Fil)), j ≤ N ∧ i = .int .i64 (j : Int) ∧ Hid (Y.length = N) ∧ Hid (RShell wr G' p room (.slice A N c) Y) ∧ Hid (absX Y = crashTo draw j (absX X)) ∧ Hid (Next G w G' wr)) (fun i _ => N - (intOf i).toNat)
  case atStart => exact ⟨0, G, X, Nat.zero_le _, rfl, HN.out.symm, by unfold Hid; rw [HN.out]; exact hHX.out, by unfold Hid; rw [crashTo_zero], Next.refl G w⟩
  case round =>
    obtain ⟨j, G', Y, hj, rfl, hY, hS, hab, hNx⟩ := hrel
    have c1 : wr.cell? ⟨p, 1, none⟩ = some (.slice A N c) := hS.out.cells.cell 1
    by_cases hlt : j < N
    · obtain ⟨g, rfl⟩ := HA.out (by omega)
      have hjY : j < Y.length := by rw [hY.out]; exact hlt
      have hjX : j < X.length := by rw [← HN.out]; exact hlt
      have sY : RShell wr G' p room (.slice (some ⟨g, 0, none⟩) Y.length c) Y := by rw [hY.out]; exact hS.out
      have hGg : G' g := sY.mine g rfl
      obtain ⟨q0, q1, q2, fz⟩ := sY.at_ j hjY
      have hLj : j < (absX X).length := by rw [absX_length]; exact hjX
      have hYX : (Y[j].1, Y[j].2.2) = (X[j].1, X[j].2.2) := by
        have h1 := crashTo_at draw j (absX X) hLj
        have h2 : (absX Y)[j]'(by rw [absX_length]; exact hjY) = (absX X)[j] := by
          rw [← h1]
          congr 1
        simpa [absX, mapK] using h2
      have hm1 := HB.out X[j] (List.getElem_mem hjX)
      have hm2 := HBL.out X[j] (List.getElem_mem hjX)
      have e2 : Y[j].2.2 = X[j].2.2 := (Prod.mk.inj hYX).2
      have e1 : Y[j].1 = X[j].1 := (Prod.mk.inj hYX).1
      rw [← e2] at hm1 hm2
      have hoj := sY.each Y[j] (List.getElem_mem hjY)
      obtain ⟨A', cc, e, hIB, h7, h8⟩ := hoj.1.isB.form rfl
      obtain ⟨k, hk⟩ : ∃ k, k = Y[j].1 := ⟨_, rfl⟩
      obtain ⟨xs, hxs⟩ : ∃ xs, xs = Y[j].2.2.1 := ⟨_, rfl⟩
      obtain ⟨l, hl⟩ : ∃ l, l = Y[j].2.2.2 := ⟨_, rfl⟩
      have HYJ : Hid (Y[j] = (k, (Y[j].2.1, xs, l))) := by unfold Hid; rw [hk, hxs, hl]
      have HXJ : Hid ((absX X)[j] = (k, (xs, l))) := by
        unfold Hid
        rw [hk, hxs, hl, e1, e2]
        simp [absX, mapK]
      rw [e] at q1
      rw [← hk] at q0
      rw [← hxs] at q1 hm1 hm2 hIB h7
      rw [← hl] at q2 hm1
      have hx8 : ∀ x ∈ xs, x < 256 := by rw [hxs]; exact hoj.2.2
      obtain ⟨n, hn⟩ : ∃ n, n = xs.length := ⟨_, rfl⟩
      rw [← hn] at q1 hm1 hm2 hIB h7
      obtain ⟨s, hs⟩ : ∃ s : ByteArray, s.data.toList = k := ⟨⟨k.toArray⟩, by simp⟩
      rw [← hs] at q0
      have q0 : wr.cell? ⟨g, j * 3, none⟩ = some (.string s) := q0
      obtain ⟨r, hr⟩ : ∃ r, r = (draw % (n - l + 1) + j) % (n - l + 1) := ⟨_, rfl⟩
      have hrl : r < n - l + 1 := by rw [hr]; exact Nat.mod_lt _ (by omega)
      obtain ⟨m, hm⟩ : ∃ m, m = l + r := ⟨_, rfl⟩
      have hmn : m ≤ n := by omega
      have C1 : Hid (crash1 draw j (xs, l) = (xs.take m, m)) := by
        unfold Hid crash1
        simp only
        rw [← hn, ← hr, ← hm]
      have HM : Hid ((l : Int) + (r : Int) = (m : Int)) := by unfold Hid; omega
      have HRR := hide hr
      have hw2 : IntKind.i64.wrap ((l : Int) + (r : Int)) = (l : Int) + (r : Int) := by rw [IntKind.wrap_i64]; omega
      have hmc : (m : Int) ≤ (cc : Int) := by omega
      have HNN := hide hn
      have HIB := hide (hIB.take m hmn)
      have H8 : Hid (∀ x ∈ xs.take m, x < 256) := fun x hx => hx8 x (List.mem_of_mem_take hx)
      have HSY := hide sY
      have HGG := hide hGg
      have f1 := hide fz
      have hgl : g < wr.heap.size := cell_lt q1
      have hpl : p < wr.heap.size := cell_lt c1
      have hdz : max 0 z = (draw : Int) := by have := HZ.out; omega
      have HDZ := hide hdz
      have hlm : l ≤ n := hm1
      clear hs hk hxs hl hn hr hm hx8 hoj e1 e2 hYX e hIB sY fz hm1 hdz hS hGg
      go_wp2_with fail
      obtain ⟨w2, h2⟩ : ∃ w2, w2 = wr.alloc (.cells #[.string s, .slice A' n cc, .int .i64 (l : Int)] 57) := ⟨_, rfl⟩
      have k2 : Below wr.heap.size wr w2 := by rw [h2]; exact below_alloc _ _
      have b2 : Blk w2 0 57 wr.heap.size [.string s, .slice A' n cc, .int .i64 (l : Int)] := by rw [h2]; exact Blk.new (B := 0) wr _ _ (Nat.zero_le _)
      have h2' : w2 = wr.alloc (.cells #[.string { data := s.data }, .slice A' n cc, .int .i64 (l : Int)] 57) := h2
      rw [← h2']
      clear h2 h2'
      have u1 : w2.cell? ⟨wr.heap.size, 1, none⟩ = some (.slice A' n cc) := b2.cell 1
      have u2 : w2.cell? ⟨wr.heap.size, 2, none⟩ = some (.int .i64 (l : Int)) := b2.cell 2
      go_quiet (first
        | (go_at_call 44; refine Calls.quiet_of (v := .int .i64 (draw : Int)) ?_; refine (rdraw_any z draw HZ.out _).mono ?_; rintro e w' ⟨rfl, rfl⟩; exact ⟨rfl, 0, rfl⟩)
        | (go_at_call 43; refine Calls.quiet_of (v := .int .i64 (r : Int)) ?_; refine (rround_z draw j (n - l + 1) _ (by omega) (by omega) (by omega) _).mono ?_; rintro e w' ⟨rfl, d9, rfl⟩; exact ⟨by rw [HRR.out], d9, rfl⟩))
      rw [HM.out]
      obtain ⟨w3, h3⟩ : ∃ w3, w3 = w2.drewN nq := ⟨_, rfl⟩
      rw [← h3]
      have k3 : Below wr.heap.size wr w3 := below_step k2 (by rw [h3]; exact below_drewN (Below.refl _ _) _)
      have t1 : w3.cell? ⟨wr.heap.size, 1, none⟩ = some (.slice A' n cc) := by rw [h3]; exact u1
      have c3' : w3.cell? ⟨p, 1, none⟩ = some (.slice (some ⟨g, 0, none⟩) N c) := (k3.cell (p := ⟨p, 1, none⟩) hpl).trans c1
      have q3' : w3.cell? ⟨g, j * 3 + 1, none⟩ = some (.slice A' n cc) := (k3.cell (p := ⟨g, j * 3 + 1, none⟩) hgl).trans q1
      have f3' : w3.frozen? ⟨g, j * 3 + 1, none⟩ = false := (k3.frozen (p := ⟨g, j * 3 + 1, none⟩) hgl).trans (f1.out (j * 3 + 1))
      have hb3l : wr.heap.size < w3.heap.size := cell_lt t1
      have hpl3 : p < w3.heap.size := cell_lt c3'
      have hgl3 : g < w3.heap.size := cell_lt q3'
      have HIB3 := hide (HIB.out.keep k3)
      have HS3 := hide (HSY.out.below k3)
      have N3 := hide (hNx.out.trans (Next.of_below G' k3))
      have HMT : Hid ((xs.take m).length ≤ 1073741824) := by
        unfold Hid
        rw [List.length_take, ← HNN.out]
        omega
      clear h3 k2 b2 u1 u2 k3 q0 q1 q2 c1
      have KA := below_alloc w3 (.cells #[] 5)
      go_wp2_with fail
      go_region_law (first
        | (refine step_append_bytes rfl (.tmp 44) (.tmp 48) rfl w3.heap.size _ [] rfl (own_emptyB (W := w3) (Nat.le_refl _) _ rfl) _ (xs.take m) rfl (HIB3.out.keep ⟨KA.os, KA.tape, KA.output, KA.size, KA.block⟩) (by rw [List.length_nil]; have := HMT.out; omega) KA.size ?_; intro v4 w4 o4 k4; rw [List.nil_append] at o4; have K4 : Below w3.heap.size w3 w4 := (by refine Below.trans ?_ k4; exact ⟨KA.os, KA.tape, KA.output, KA.size, KA.block⟩); obtain ⟨A4, n4, c4, rfl⟩ := o4.shape; have q4 : w4.cell? ⟨g, j * 3 + 1, none⟩ = some (.slice A' n cc) := (by rw [← q3']; exact K4.cell hgl3); have q4c : w4.cell? ⟨p, 1, none⟩ = some (.slice (some ⟨g, 0, none⟩) N c) := (by rw [← c3']; exact K4.cell hpl3); have f4 : w4.frozen? ⟨g, j * 3 + 1, none⟩ = false := (by rw [← f3']; exact K4.frozen hgl3); have O4 := hide o4; have KK4 := hide K4; clear o4 k4 K4))
      all_goals
        obtain ⟨G5, s5, n5, g5⟩ := lay_bytes HS3.out KK4.out HGG.out j hjY O4.out (Nat.le_refl _) H8.out
        rw [HYJ.out] at s5
        obtain ⟨w5, h5⟩ : ∃ w5, w5 = w4.setCell ⟨g, j * 3 + 1, none⟩ (.slice A4 n4 c4) := ⟨_, rfl⟩
        rw [← h5] at s5 n5 ⊢
        clear h5 f4 q4 q4c
        have hl5 : (Y.set j (k, (.slice A4 n4 c4, xs.take m, l))).length = Y.length := List.length_set
        have s6 : RShell w5 G5 p room (.slice (some ⟨g, 0, none⟩) (Y.set j (k, ((.slice A4 n4 c4, xs.take m, l) : Fil))).length c) (Y.set j (k, (.slice A4 n4 c4, xs.take m, l))) := by rw [hl5]; exact s5
        have hj5 : j < (Y.set j (k, ((.slice A4 n4 c4, xs.take m, l) : Fil))).length := by rw [hl5]; exact hjY
        obtain ⟨-, -, t2a, t3a⟩ := s6.at_ j hj5
        rw [List.getElem_set_self] at t2a
        have t2 : w5.cell? ⟨g, j * 3 + 2, none⟩ = some (.int .i64 (l : Int)) := t2a
        have t3 := t3a (j * 3 + 2)
        clear t2a t3a
        have t4 : w5.cell? ⟨p, 1, none⟩ = some (.slice (some ⟨g, 0, none⟩) N c) := by rw [← hY.out]; exact s5.cells.cell 1
        have s7 := s6.set2 j hj5 m
        rw [List.getElem_set_self, List.set_set, hl5, hY.out] at s7
        have S7 : Hid (RShell (w5.setCell ⟨g, j * 3 + 2, none⟩ (.int .i64 (m : Int))) G5 p room (.slice (some ⟨g, 0, none⟩) N c) (Y.set j (k, (.slice A4 n4 c4, xs.take m, m)))) := s7
        have HY7 : Hid ((Y.set j (k, ((.slice A4 n4 c4, xs.take m, m) : Fil))).length = N) := by unfold Hid; rw [List.length_set]; exact hY.out
        have HAB7 : Hid (absX (Y.set j (k, ((.slice A4 n4 c4, xs.take m, m) : Fil))) = crashTo draw (j + 1) (absX X)) := by
          unfold Hid
          rw [crashTo_succ draw j (absX X) hLj, HXJ.out, C1.out, absX_set, hab.out]
        have N7 := hide ((N3.out.trans n5).trans (next_store (i := j * 3 + 2) (u := .int .i64 (m : Int)) g5 (Turn.refl G5 w5)))
        clear s5 n5 hl5 s6 hj5 s7 g5
        go_wp2_with fail
        go_roundw
        case rel => exact ⟨j + 1, G5, _, by omega, by go_num, HY7, S7, HAB7, N7⟩
        case measure => simp [intOf]; omega
    · obtain rfl : j = N := by omega
      have hx := hab.out
      rw [show j = (absX X).length by rw [absX_length]; exact HN.out, crashTo_all] at hx
      have HE := hide (And.intro hS.out (And.intro hx hNx.out))
      clear hx
      go_wp2_with fail
      go_end0
      exact ⟨rfl, G', _, Y, HE.out⟩
end Go.Proofs.Ytndffjgneapmdaa
