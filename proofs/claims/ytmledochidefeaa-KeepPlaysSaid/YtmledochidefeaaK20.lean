/- The document's Crash. No condition but the widths. The document's calls on a disk by the same lists. No condition but the widths. Both disks, the program's and the document's, apart from one another. No condition but the widths. Names in a row of the call's own. No condition. Disks with a file or two, as lists. It names nothing of the program. -/
import Derived.Test.YtmledochidefeaaK19
import Derived.BigQuiet
import Derived.Test.YtmledochidefeaaK16
import Derived.Test.YtmledochidefeaaK18
import Derived.Test.YtmledochidefeaaK4
import Derived.Test.YtmledochidefeaaK13
namespace Go.Proofs.Ytmledochidefeaa
open Go.RowKit Go.Maps
theorem crashTo_succ (draw j : Nat) (L : DiskL) (hj : j < L.length) : crashTo draw (j + 1) L = (crashTo draw j L).set j (L[j].1, crash1 draw j L[j].2) := by
  unfold crashTo
  refine List.ext_getElem (by simp) fun i h1 h2 => ?_
  simp only [List.getElem_mapIdx, List.getElem_set]
  by_cases e : j = i
  · subst e
    simp
  · rw [if_neg e]
    by_cases hl : i < j
    · rw [if_pos (by omega), if_pos hl]
    · rw [if_neg (by omega), if_neg hl]
theorem crashTo_at (draw j : Nat) (L : DiskL) (hj : j < L.length) : (crashTo draw j L)[j]'(by rw [crashTo_length]; exact hj) = L[j] := by
  unfold crashTo
  simp
theorem absX_set (X : List (Str × Fil)) (i : Nat) (q : Str × Fil) : absX (X.set i q) = (absX X).set i (q.1, q.2.2) := by
  unfold absX mapK
  rw [List.map_set]
theorem rround_z (a b c : Nat) (z : Int) (hz : z = (c : Int)) (hc : 0 < c) (hc1 : c ≤ 1099511627776) (w : World) :
    Calls Try.prog 47 #[.int .i64 (a : Int), .int .i64 (b : Int), .int .i64 z] w fun e w' => e = .returned (.int .i64 (((a % c + b) % c : Nat) : Int)) ∧ ∃ d, w' = w.drewN d := by
  rw [hz]
  exact rround_any a b c hc hc1 w
set_option maxRecDepth 100000 in
set_option maxHeartbeats 6400000 in
theorem rcrash_any (G : Nat → Prop) (p room : Nat) (v : Value) (X : List (Str × Fil)) (z : Int) (draw : Nat) (w : World) (h : RShell w G p room v X) (hlen : X.length ≤ 256) (hz : max z 0 = (draw : Int)) (hb : ∀ q ∈ X, q.2.2.2 ≤ q.2.2.1.length) (hbl : ∀ q ∈ X, q.2.2.1.length ≤ 1073741824) :
    Calls Try.prog 25 #[.pointer (some ⟨p, 0, none⟩), .int .i64 z] w fun e w' => e = .returned (.tuple #[]) ∧ ∃ G' v' X', RShell w' G' p room v' X' ∧ absX X' = crashD draw (absX X) ∧ Next G w G' w' := by
  obtain ⟨A, c, rfl, hlc, hc63, hnil, hcell0⟩ := h.form
  obtain ⟨N, hN⟩ : ∃ N, N = X.length := ⟨_, rfl⟩
  have hHX := hide h
  have HN := hide hN
  have HZ := hide hz
  have HB := hide hb
  have HBL := hide hbl
  have HA : Hid (0 < N → ∃ g, A = some ⟨g, 0, none⟩) := fun h0 => by
    obtain ⟨g, e, _⟩ := hcell0 0 (by omega)
    exact ⟨g, e⟩
  rw [← hN] at hlc hlen
  clear h hN hz hb hbl hcell0 hnil
  go_enter Try.func25, Try.ntmps25
  go_wp2_with fail
  go_loopw [4] (fun i wr => ∃ (j : Nat) (G' : Nat → Prop) (Y : List (Str × Fil)), j ≤ N ∧ i = .int .i64 (j : Int) ∧ Hid (Y.length = N) ∧ Hid (RShell wr G' p room (.slice A N c) Y) ∧ Hid (absX Y = crashTo draw j (absX X)) ∧ Hid (Next G w G' wr)) (fun i _ => N - (intOf i).toNat)
  case atStart => exact ⟨0, G, X, Nat.zero_le _, rfl, HN.out.symm, by unfold Hid; rw [HN.out]; exact hHX.out, by unfold Hid; rw [crashTo_zero], Next.refl G w⟩
  case round =>
    obtain ⟨j, G', Y, hj, rfl, hY, hS, hab, hNx⟩ := hrel
    have c1 : wr.cell? ⟨p, 1, none⟩ = some (.slice A N c) := hS.out.cells.cell 1
    by_cases hlt : j < N
    · obtain ⟨g, rfl⟩ := HA.out (by omega)
      have hjY : j < Y.length := by rw [hY.out]; exact hlt
      have hjX : j < X.length := by rw [← HN.out]; exact hlt
      have sY : RShell wr G' p room (.slice (some ⟨g, 0, none⟩) Y.length c) Y := by rw [hY.out]; exact hS.out
      have hGg : G' g := sY.mine g rfl
      obtain ⟨q0, q1, q2, fz⟩ := sY.at_ j hjY
      have hLj : j < (absX X).length := by rw [absX_length]; exact hjX
      have hYX : (Y[j].1, Y[j].2.2) = (X[j].1, X[j].2.2) := by
        have h1 := crashTo_at draw j (absX X) hLj
        have h2 : (absX Y)[j]'(by rw [absX_length]; exact hjY) = (absX X)[j] := by
          rw [← h1]
          congr 1
        simpa [absX, mapK] using h2
      have hm1 := HB.out X[j] (List.getElem_mem hjX)
      have hm2 := HBL.out X[j] (List.getElem_mem hjX)
      have e2 : Y[j].2.2 = X[j].2.2 := (Prod.mk.inj hYX).2
      have e1 : Y[j].1 = X[j].1 := (Prod.mk.inj hYX).1
      rw [← e2] at hm1 hm2
      have hoj := sY.each Y[j] (List.getElem_mem hjY)
      obtain ⟨A', cc, e, hIB, h7, h8⟩ := hoj.1.isB.form rfl
      obtain ⟨k, hk⟩ : ∃ k, k = Y[j].1 := ⟨_, rfl⟩
      obtain ⟨xs, hxs⟩ : ∃ xs, xs = Y[j].2.2.1 := ⟨_, rfl⟩
      obtain ⟨l, hl⟩ : ∃ l, l = Y[j].2.2.2 := ⟨_, rfl⟩
      have HYJ : Hid (Y[j] = (k, (Y[j].2.1, xs, l))) := by unfold Hid; rw [hk, hxs, hl]
      have HXJ : Hid ((absX X)[j] = (k, (xs, l))) := by
        unfold Hid
        rw [hk, hxs, hl, e1, e2]
        simp [absX, mapK]
      rw [e] at q1
      rw [← hk] at q0
      rw [← hxs] at q1 hm1 hm2 hIB h7
      rw [← hl] at q2 hm1
      have hx8 : ∀ x ∈ xs, x < 256 := by rw [hxs]; exact hoj.2.2
      obtain ⟨n, hn⟩ : ∃ n, n = xs.length := ⟨_, rfl⟩
      rw [← hn] at q1 hm1 hm2 hIB h7
      obtain ⟨s, hs⟩ : ∃ s : ByteArray, s.data.toList = k := ⟨⟨k.toArray⟩, by simp⟩
      rw [← hs] at q0
      have q0 : wr.cell? ⟨g, j * 3, none⟩ = some (.string s) := q0
      obtain ⟨r, hr⟩ : ∃ r, r = (draw % (n - l + 1) + j) % (n - l + 1) := ⟨_, rfl⟩
      have hrl : r < n - l + 1 := by rw [hr]; exact Nat.mod_lt _ (by omega)
      obtain ⟨m, hm⟩ : ∃ m, m = l + r := ⟨_, rfl⟩
      have hmn : m ≤ n := by omega
      have C1 : Hid (crash1 draw j (xs, l) = (xs.take m, m)) := by
        unfold Hid crash1
        simp only
        rw [← hn, ← hr, ← hm]
      have HM : Hid ((l : Int) + (r : Int) = (m : Int)) := by unfold Hid; omega
      have HRR := hide hr
      have hw2 : IntKind.i64.wrap ((l : Int) + (r : Int)) = (l : Int) + (r : Int) := by rw [IntKind.wrap_i64]; omega
      have hmc : (m : Int) ≤ (cc : Int) := by omega
      have HNN := hide hn
      have HIB := hide (hIB.take m hmn)
      have H8 : Hid (∀ x ∈ xs.take m, x < 256) := fun x hx => hx8 x (List.mem_of_mem_take hx)
      have HSY := hide sY
      have HGG := hide hGg
      have f1 := hide fz
      have hgl : g < wr.heap.size := cell_lt q1
      have hpl : p < wr.heap.size := cell_lt c1
      have hdz : max 0 z = (draw : Int) := by have := HZ.out; omega
      have HDZ := hide hdz
      have hlm : l ≤ n := hm1
      clear hs hk hxs hl hn hr hm hx8 hoj e1 e2 hYX e hIB sY fz hm1 hdz hS hGg
      go_wp2_with fail
      obtain ⟨w2, h2⟩ : ∃ w2, w2 = wr.alloc (.cells #[.string s, .slice A' n cc, .int .i64 (l : Int)] 70) := ⟨_, rfl⟩
      have k2 : Below wr.heap.size wr w2 := by rw [h2]; exact below_alloc _ _
      have b2 : Blk w2 0 70 wr.heap.size [.string s, .slice A' n cc, .int .i64 (l : Int)] := by rw [h2]; exact Blk.new (B := 0) wr _ _ (Nat.zero_le _)
      have h2' : w2 = wr.alloc (.cells #[.string { data := s.data }, .slice A' n cc, .int .i64 (l : Int)] 70) := h2
      rw [← h2']
      clear h2 h2'
      have u1 : w2.cell? ⟨wr.heap.size, 1, none⟩ = some (.slice A' n cc) := b2.cell 1
      have u2 : w2.cell? ⟨wr.heap.size, 2, none⟩ = some (.int .i64 (l : Int)) := b2.cell 2
      go_quiet (first
        | (go_at_call 48; refine Calls.quiet_of (v := .int .i64 (draw : Int)) ?_; refine (rdraw_any z draw HZ.out _).mono ?_; rintro e w' ⟨rfl, rfl⟩; exact ⟨rfl, 0, rfl⟩)
        | (go_at_call 47; refine Calls.quiet_of (v := .int .i64 (r : Int)) ?_; refine (rround_z draw j (n - l + 1) _ (by omega) (by omega) (by omega) _).mono ?_; rintro e w' ⟨rfl, d9, rfl⟩; exact ⟨by rw [HRR.out], d9, rfl⟩))
      rw [HM.out]
      obtain ⟨w3, h3⟩ : ∃ w3, w3 = w2.drewN nq := ⟨_, rfl⟩
      rw [← h3]
      have k3 : Below wr.heap.size wr w3 := below_step k2 (by rw [h3]; exact below_drewN (Below.refl _ _) _)
      have t1 : w3.cell? ⟨wr.heap.size, 1, none⟩ = some (.slice A' n cc) := by rw [h3]; exact u1
      have c3' : w3.cell? ⟨p, 1, none⟩ = some (.slice (some ⟨g, 0, none⟩) N c) := (k3.cell (p := ⟨p, 1, none⟩) hpl).trans c1
      have q3' : w3.cell? ⟨g, j * 3 + 1, none⟩ = some (.slice A' n cc) := (k3.cell (p := ⟨g, j * 3 + 1, none⟩) hgl).trans q1
      have f3' : w3.frozen? ⟨g, j * 3 + 1, none⟩ = false := (k3.frozen (p := ⟨g, j * 3 + 1, none⟩) hgl).trans (f1.out (j * 3 + 1))
      have hb3l : wr.heap.size < w3.heap.size := cell_lt t1
      have hpl3 : p < w3.heap.size := cell_lt c3'
      have hgl3 : g < w3.heap.size := cell_lt q3'
      have HIB3 := hide (HIB.out.keep k3)
      have HS3 := hide (HSY.out.below k3)
      have N3 := hide (hNx.out.trans (Next.of_below G' k3))
      have HMT : Hid ((xs.take m).length ≤ 1073741824) := by
        unfold Hid
        rw [List.length_take, ← HNN.out]
        omega
      clear h3 k2 b2 u1 u2 k3 q0 q1 q2 c1
      have KA := below_alloc w3 (.cells #[] 5)
      go_wp2_with fail
      go_region_law (first
        | (refine step_append_bytes rfl (.tmp 44) (.tmp 48) rfl w3.heap.size _ [] rfl (own_emptyB (W := w3) (Nat.le_refl _) _ rfl) _ (xs.take m) rfl (HIB3.out.keep ⟨KA.os, KA.tape, KA.output, KA.size, KA.block⟩) (by rw [List.length_nil]; have := HMT.out; omega) KA.size ?_; intro v4 w4 o4 k4; rw [List.nil_append] at o4; have K4 : Below w3.heap.size w3 w4 := (by refine Below.trans ?_ k4; exact ⟨KA.os, KA.tape, KA.output, KA.size, KA.block⟩); obtain ⟨A4, n4, c4, rfl⟩ := o4.shape; have q4 : w4.cell? ⟨g, j * 3 + 1, none⟩ = some (.slice A' n cc) := (by rw [← q3']; exact K4.cell hgl3); have q4c : w4.cell? ⟨p, 1, none⟩ = some (.slice (some ⟨g, 0, none⟩) N c) := (by rw [← c3']; exact K4.cell hpl3); have f4 : w4.frozen? ⟨g, j * 3 + 1, none⟩ = false := (by rw [← f3']; exact K4.frozen hgl3); have O4 := hide o4; have KK4 := hide K4; clear o4 k4 K4))
      all_goals
        obtain ⟨G5, s5, n5, g5⟩ := lay_bytes HS3.out KK4.out HGG.out j hjY O4.out (Nat.le_refl _) H8.out
        rw [HYJ.out] at s5
        obtain ⟨w5, h5⟩ : ∃ w5, w5 = w4.setCell ⟨g, j * 3 + 1, none⟩ (.slice A4 n4 c4) := ⟨_, rfl⟩
        rw [← h5] at s5 n5 ⊢
        clear h5 f4 q4 q4c
        have hl5 : (Y.set j (k, (.slice A4 n4 c4, xs.take m, l))).length = Y.length := List.length_set
        have s6 : RShell w5 G5 p room (.slice (some ⟨g, 0, none⟩) (Y.set j (k, ((.slice A4 n4 c4, xs.take m, l) : Fil))).length c) (Y.set j (k, (.slice A4 n4 c4, xs.take m, l))) := by rw [hl5]; exact s5
        have hj5 : j < (Y.set j (k, ((.slice A4 n4 c4, xs.take m, l) : Fil))).length := by rw [hl5]; exact hjY
        obtain ⟨-, -, t2a, t3a⟩ := s6.at_ j hj5
        rw [List.getElem_set_self] at t2a
        have t2 : w5.cell? ⟨g, j * 3 + 2, none⟩ = some (.int .i64 (l : Int)) := t2a
        have t3 := t3a (j * 3 + 2)
        clear t2a t3a
        have t4 : w5.cell? ⟨p, 1, none⟩ = some (.slice (some ⟨g, 0, none⟩) N c) := by rw [← hY.out]; exact s5.cells.cell 1
        have s7 := s6.set2 j hj5 m
        rw [List.getElem_set_self, List.set_set, hl5, hY.out] at s7
        have S7 : Hid (RShell (w5.setCell ⟨g, j * 3 + 2, none⟩ (.int .i64 (m : Int))) G5 p room (.slice (some ⟨g, 0, none⟩) N c) (Y.set j (k, (.slice A4 n4 c4, xs.take m, m)))) := s7
        have HY7 : Hid ((Y.set j (k, ((.slice A4 n4 c4, xs.take m, m) : Fil))).length = N) := by unfold Hid; rw [List.length_set]; exact hY.out
        have HAB7 : Hid (absX (Y.set j (k, ((.slice A4 n4 c4, xs.take m, m) : Fil))) = crashTo draw (j + 1) (absX X)) := by
          unfold Hid
          rw [crashTo_succ draw j (absX X) hLj, HXJ.out, C1.out, absX_set, hab.out]
        have N7 := hide ((N3.out.trans n5).trans (next_store (i := j * 3 + 2) (u := .int .i64 (m : Int)) g5 (Turn.refl G5 w5)))
        clear s5 n5 hl5 s6 hj5 s7 g5
        go_wp2_with fail
        go_roundw
        case rel => exact ⟨j + 1, G5, _, by omega, by go_num, HY7, S7, HAB7, N7⟩
        case measure => simp [intOf]; omega
    · obtain rfl : j = N := by omega
      have hx := hab.out
      rw [show j = (absX X).length by rw [absX_length]; exact HN.out, crashTo_all] at hx
      have HE := hide (And.intro hS.out (And.intro hx hNx.out))
      clear hx
      go_wp2_with fail
      go_end0
      exact ⟨rfl, G', _, Y, HE.out⟩
end Go.Proofs.Ytmledochidefeaa
namespace Go.Proofs.Ytmledochidefeaa
open Go.RowKit Go.Maps
theorem RAt.drawn {w : World} {G : Nat → Prop} {p room : Nat} {L : DiskL} (h : RAt w G p room L) (n : Nat) : RAt (w.drewN n) G p room L := h.turn (S := fun _ => False) ((Turn.refl _ w).drewN n) (fun _ _ => id)
section
variable (G : Nat → Prop) (p room : Nat) (L : DiskL) (s : ByteArray) (w : World) (hR : RAt w G p room L) (hS : Sane room L)
include hR hS
theorem rsync_any : Calls Try.prog 43 #[.pointer (some ⟨p, 0, none⟩), .string s] w fun e w' => e = .returned (.int .i64 ((syncL s.data.toList L).2 : Nat)) ∧ ∃ G', RAt w' G' p room (syncL s.data.toList L).1 ∧ Next G w G' w' := by
  obtain ⟨v, X, rfl, hx⟩ := hR
  have hr := rise_abs hS.rise
  unfold syncL
  rw [absX_get]
  rcases hg : getK s.data.toList X with _ | a
  · refine (rsync_none G p room v X s w hx hr hg).mono ?_
    rintro e w' ⟨rfl, d, rfl⟩
    exact ⟨rfl, G, RAt.drawn ⟨v, X, rfl, hx⟩ d, (Next.refl G w).drewN d⟩
  · refine (rsync_some G p room v X s a w hx hr hg).mono ?_
    rintro e w' ⟨rfl, G', v', h', n⟩
    exact ⟨rfl, G', ⟨v', _, by rw [absX_put]; rfl, h'⟩, n⟩
theorem rremove_at : Calls Try.prog 42 #[.pointer (some ⟨p, 0, none⟩), .string s] w fun e w' => e = .returned (.int .i64 ((remL s.data.toList L).2 : Nat)) ∧ ∃ G', RAt w' G' p room (remL s.data.toList L).1 ∧ Next G w G' w' := by
  obtain ⟨v, X, rfl, hx⟩ := hR
  have hr := rise_abs hS.rise
  have hlen := hS.few
  rw [absX_length] at hlen
  unfold remL
  rw [absX_get]
  rcases hg : getK s.data.toList X with _ | a
  · refine (rremove_none G p room v X s w hx hr hg).mono ?_
    rintro e w' ⟨rfl, d, rfl⟩
    exact ⟨rfl, G, RAt.drawn ⟨v, X, rfl, hx⟩ d, (Next.refl G w).drewN d⟩
  · refine (rremove_some G p room v X s a w hx hlen hr hg).mono ?_
    rintro e w' ⟨rfl, G', v', h', n, _⟩
    exact ⟨rfl, G', ⟨v', _, by rw [absX_del]; rfl, h'⟩, n⟩
theorem rrename_at (t : ByteArray) (ht : t.size ≤ 1099511627776) : Calls Try.prog 44 #[.pointer (some ⟨p, 0, none⟩), .string s, .string t] w fun e w' => e = .returned (.int .i64 ((renL s.data.toList t.data.toList L).2 : Nat)) ∧ ∃ G', RAt w' G' p room (renL s.data.toList t.data.toList L).1 ∧ Next G w G' w' := by
  obtain ⟨v, X, rfl, hx⟩ := hR
  have hr := rise_abs hS.rise
  have hlen := hS.few
  rw [absX_length] at hlen
  have hl : t.data.toList.length = t.size := rfl
  by_cases hn : 1 ≤ t.size ∧ t.size ≤ 64
  · have e : renL s.data.toList t.data.toList (absX X) = (match getK s.data.toList (absX X) with | none => (absX X, 7) | some a => (putK t.data.toList a (delK s.data.toList (absX X)), 0)) := by unfold renL; rw [if_neg (fun h => h (by rw [hl]; exact hn))] <;> rfl
    rw [e, absX_get]
    rcases hg : getK s.data.toList X with _ | a
    · refine (rrename_none G p room v X s w hx hr hg t hn).mono ?_
      rintro e w' ⟨rfl, d, rfl⟩
      exact ⟨rfl, G, RAt.drawn ⟨v, X, rfl, hx⟩ d, (Next.refl G w).drewN d⟩
    · by_cases hst : s = t
      · subst hst
        refine (rrename_same G p room v X s a w hx hr hg hn).mono ?_
        rintro e w' ⟨rfl, d, rfl⟩
        have e2 : putK s.data.toList a.2 (delK s.data.toList (absX X)) = absX X := by
          have h1 : getK s.data.toList (absX X) = some a.2 := by rw [absX_get, hg]; rfl
          have h2 : putK s.data.toList a.2 (delK s.data.toList (absX X)) = putK s.data.toList a.2 (absX X) := by
            unfold putK
            congr 1
            unfold delK
            rw [List.filter_filter]
            simp
          rw [h2]
          exact putK_same hS.rise h1
        refine ⟨rfl, G, ?_, (Next.refl G w).drewN d⟩
        show RAt _ _ _ _ (putK s.data.toList a.2 (delK s.data.toList (absX X)))
        rw [e2]
        exact RAt.drawn ⟨v, X, rfl, hx⟩ d
      · refine (rrename_ok G p room v X s t a w hx hlen hr hg hn hst).mono ?_
        rintro e w' ⟨rfl, G', v', h', n⟩
        exact ⟨rfl, G', ⟨v', _, by rw [absX_put, absX_del]; rfl, h'⟩, n⟩
  · have e : renL s.data.toList t.data.toList (absX X) = (absX X, 1) := by unfold renL; rw [if_pos (by rw [hl]; exact hn)]
    rw [e]
    refine (rrename_arg p s t w hn (by omega)).mono ?_
    rintro e w' ⟨rfl, rfl⟩
    exact ⟨rfl, G, ⟨v, X, rfl, hx⟩, Next.refl G w⟩
theorem rcut_any (z : Int) : Calls Try.prog 28 #[.pointer (some ⟨p, 0, none⟩), .string s, .int .i64 z] w fun e w' => e = .returned (.int .i64 ((cutL s.data.toList z L).2 : Nat)) ∧ ∃ G', RAt w' G' p room (cutL s.data.toList z L).1 ∧ Next G w G' w' := by
  obtain ⟨v, X, rfl, hx⟩ := hR
  have hr := rise_abs hS.rise
  unfold cutL
  rcases hg : getK s.data.toList X with _ | a
  · rw [absX_get, hg]
    refine (rcut_none G p room v X s w hx hr hg z).mono ?_
    rintro e w' ⟨rfl, d, rfl⟩
    exact ⟨rfl, G, RAt.drawn ⟨v, X, rfl, hx⟩ d, (Next.refl G w).drewN d⟩
  · have hg2 : getK s.data.toList (absX X) = some a.2 := by rw [absX_get, hg]; rfl
    have hl := hS.len hg2
    rw [hg2]
    dsimp only
    by_cases hz : z < 0 ∨ (a.2.1.length : Int) < z
    · rw [if_pos hz]
      refine (rcut_arg G p room v X s a z w hx hr hg hz).mono ?_
      rintro e w' ⟨rfl, d, rfl⟩
      exact ⟨rfl, G, RAt.drawn ⟨v, X, rfl, hx⟩ d, (Next.refl G w).drewN d⟩
    · rw [if_neg hz]
      obtain ⟨k, rfl⟩ : ∃ k : Nat, z = (k : Int) := ⟨z.toNat, by omega⟩
      refine (rcut_ok G p room v X s a k w hx hr hg (by omega) (by omega)).mono ?_
      rintro e w' ⟨rfl, G', v', u, h', n⟩
      exact ⟨rfl, G', ⟨v', _, by rw [absX_put]; rfl, h'⟩, n⟩
theorem rrot_any (z : Int) (y : Nat) (hy : y < 256) : Calls Try.prog 26 #[.pointer (some ⟨p, 0, none⟩), .string s, .int .i64 z, .int .u8 (y : Int)] w fun e w' => e = .returned (.int .i64 ((rotL s.data.toList z y L).2 : Nat)) ∧ ∃ G', RAt w' G' p room (rotL s.data.toList z y L).1 ∧ Next G w G' w' := by
  obtain ⟨v, X, rfl, hx⟩ := hR
  have hr := rise_abs hS.rise
  unfold rotL
  rcases hg : getK s.data.toList X with _ | a
  · rw [absX_get, hg]
    refine (rrot_none G p room v X s w hx hr hg z y).mono ?_
    rintro e w' ⟨rfl, d, rfl⟩
    exact ⟨rfl, G, RAt.drawn ⟨v, X, rfl, hx⟩ d, (Next.refl G w).drewN d⟩
  · have hg2 : getK s.data.toList (absX X) = some a.2 := by rw [absX_get, hg]; rfl
    have hl := hS.len hg2
    rw [hg2]
    dsimp only
    by_cases hz : z < 0 ∨ (a.2.1.length : Int) ≤ z
    · rw [if_pos hz]
      refine (rrot_out G p room v X s a z y w hx hr hg hz).mono ?_
      rintro e w' ⟨rfl, d, rfl⟩
      exact ⟨rfl, G, RAt.drawn ⟨v, X, rfl, hx⟩ d, (Next.refl G w).drewN d⟩
    · rw [if_neg hz]
      obtain ⟨k, rfl⟩ : ∃ k : Nat, z = (k : Int) := ⟨z.toNat, by omega⟩
      refine (rrot_ok G p room v X s a k y w hx hr hg (by omega) hy (by omega)).mono ?_
      rintro e w' ⟨rfl, G', v', u, h', n⟩
      exact ⟨rfl, G', ⟨v', _, by rw [absX_put]; rfl, h'⟩, n⟩
theorem rread_any : Calls Try.prog 45 #[.pointer (some ⟨p, 0, none⟩), .string s] w fun e w' => ∃ v, e = .returned (.tuple #[v, .int .i64 ((readL s.data.toList L).2 : Nat)]) ∧ Own w' w.heap.size v (readL s.data.toList L).1 ∧ Below w.heap.size w w' := by
  obtain ⟨v, X, rfl, hx⟩ := hR
  have hr := rise_abs hS.rise
  unfold readL
  rcases hg : getK s.data.toList X with _ | a
  · rw [absX_get, hg]
    refine (rread_none G p room v X s w hx hr hg).mono ?_
    rintro e w' ⟨rfl, d, rfl⟩
    exact ⟨_, rfl, World.ownsRow_nil _ _ _ _, below_drewN (Below.refl _ _) d⟩
  · have hg2 : getK s.data.toList (absX X) = some a.2 := by rw [absX_get, hg]; rfl
    have hl := hS.len hg2
    rw [hg2]
    exact rread_some G p room v X s a w hx hr hg (by omega)
theorem rappend_at (P : Option Addr) (m cp : Nat) (ps : List Nat) (hPB : IsB w (.slice P m cp) ps) (hPM : ps.length = m) (hP8 : ∀ x ∈ ps, x < 256) (hPG : ps ≠ [] → Off G (.slice P m cp)) (hs : s.size ≤ 1099511627776) (hmr : m ≤ 1099511627776) :
    Calls Try.prog 30 #[.pointer (some ⟨p, 0, none⟩), .string s, .slice P m cp] w fun e w' => e = .returned (.int .i64 ((appL room s.data.toList ps L).2 : Nat)) ∧ ∃ G', RAt w' G' p room (appL room s.data.toList ps L).1 ∧ Next G w G' w' := by
  obtain ⟨v, X, rfl, hx⟩ := hR
  have hr := rise_abs hS.rise
  have hmost := hS.most
  have hused := hS.used
  have hl : s.data.toList.length = s.size := rfl
  have hu : sumK filL X = usedL (absX X) := (absX_used X).symm
  have hln : X.length = (absX X).length := (absX_length X).symm
  by_cases hn : 1 ≤ s.size ∧ s.size ≤ 64
  · by_cases hf : (getK s.data.toList (absX X) = none ∧ 256 ≤ (absX X).length) ∨ room < usedL (absX X) + ps.length
    · have e : appL room s.data.toList ps (absX X) = (absX X, 6) := by unfold appL; rw [if_neg (fun h => h (by rw [hl]; exact hn)), if_pos hf]
      rw [e]
      refine (rappend_full G p room v X s P m cp w hx hr hn (by omega) (by omega) hmr ?_).mono ?_
      · rcases hg : getK s.data.toList X with _ | a
        · by_cases h6 : 256 ≤ X.length
          · exact .inr ⟨rfl, h6⟩
          · refine .inl ⟨.inr ⟨rfl, by omega⟩, ?_⟩
            rcases hf with ⟨_, h⟩ | h
            · omega
            · omega
        · refine .inl ⟨.inl rfl, ?_⟩
          rcases hf with ⟨h, _⟩ | h
          · rw [absX_get, hg] at h; cases h
          · omega
      · rintro e w' ⟨rfl, d, rfl⟩
        exact ⟨rfl, G, RAt.drawn ⟨v, X, rfl, hx⟩ d, (Next.refl G w).drewN d⟩
    · have e : appL room s.data.toList ps (absX X) = (putK s.data.toList (oldB s.data.toList (absX X) ++ ps, oldN s.data.toList (absX X)) (absX X), 0) := by unfold appL; rw [if_neg (fun h => h (by rw [hl]; exact hn)), if_neg hf]
      rw [e]
      have hroom : sumK filL X + m ≤ room := by
        have : ¬ room < usedL (absX X) + ps.length := fun h => hf (.inr h)
        omega
      rcases hg : getK s.data.toList X with _ | a
      · have hg2 : getK s.data.toList (absX X) = none := by rw [absX_get, hg]; rfl
        have hfew : X.length < 256 := by
          have : ¬ 256 ≤ (absX X).length := fun h => hf (.inl ⟨hg2, h⟩)
          omega
        have e1 : oldB s.data.toList (absX X) = [] := by unfold oldB; rw [hg2]; rfl
        have e2 : oldN s.data.toList (absX X) = 0 := by unfold oldN; rw [hg2]; rfl
        rw [e1, e2]
        refine (rappend_new G p room v X s P m cp ps w hx hr hg hfew hn (by omega) (by omega) hmr hroom hPB hPM hP8 hPG).mono ?_
        rintro e w' ⟨rfl, G', v', u, h', n⟩
        exact ⟨rfl, G', ⟨v', _, by rw [absX_put, List.nil_append], h'⟩, n⟩
      · have hg2 : getK s.data.toList (absX X) = some a.2 := by rw [absX_get, hg]; rfl
        have hl2 := hS.len hg2
        have e1 : oldB s.data.toList (absX X) = a.2.1 := by unfold oldB; rw [hg2]; rfl
        have e2 : oldN s.data.toList (absX X) = a.2.2 := by unfold oldN; rw [hg2]; rfl
        rw [e1, e2]
        refine (rappend_old G p room v X s a P m cp ps w hx hr hg hn (by omega) (by omega) hmr hroom hPB hPM hP8 (by omega)).mono ?_
        rintro e w' ⟨rfl, G', v', u, h', n⟩
        exact ⟨rfl, G', ⟨v', _, by rw [absX_put], h'⟩, n⟩
  · have e : appL room s.data.toList ps (absX X) = (absX X, 1) := by unfold appL; rw [if_pos (by rw [hl]; exact hn)]
    rw [e]
    refine (rappend_arg p s _ w hn (by omega)).mono ?_
    rintro e w' ⟨rfl, rfl⟩
    exact ⟨rfl, G, ⟨v, X, rfl, hx⟩, Next.refl G w⟩
omit s in
theorem rcrash_at (z : Int) : Calls Try.prog 25 #[.pointer (some ⟨p, 0, none⟩), .int .i64 z] w fun e w' => e = .returned (.tuple #[]) ∧ ∃ G', RAt w' G' p room (crashD z.toNat L) ∧ Next G w G' w' := by
  obtain ⟨v, X, rfl, hx⟩ := hR
  have hlen := hS.few
  rw [absX_length] at hlen
  have hr := rise_abs hS.rise
  refine (rcrash_any G p room v X z z.toNat w hx hlen (by omega) (fun q hq => ?_) (fun q hq => ?_)).mono ?_
  · exact hS.last (q.1, q.2.2) (List.mem_map.2 ⟨q, hq, rfl⟩)
  · have hg : getK q.1 (absX X) = some q.2.2 := by rw [absX_get, mem_getK hr hq]; rfl
    exact hS.len hg
  · rintro e w' ⟨rfl, G', v', X', h', e', n⟩
    exact ⟨rfl, G', ⟨v', X', e'.symm, h'⟩, n⟩
omit s in
theorem rused_at : Calls Try.prog 52 #[.pointer (some ⟨p, 0, none⟩)] w fun e w' => e = .returned (.int .i64 ((usedL L : Nat) : Int)) ∧ w = w' := by
  obtain ⟨v, X, rfl, hx⟩ := hR
  have h1 := hS.used
  have h2 := hS.most
  have hu : usedL (absX X) = sumK filL X := absX_used X
  rw [hu]
  exact rused_any G p room v X w hx (by omega)
end
end Go.Proofs.Ytmledochidefeaa
namespace Go.Proofs.Ytmledochidefeaa
open Go.RowKit Go.Maps
structure Both (B : Nat) (w : World) (F G : Nat → Prop) (d p room : Nat) (L : DiskL) : Prop where
  disk : DiskAt w F d room L
  ref : RAt w G p room L
  apart : ∀ k, F k → ¬ G k
  upF : ∀ k, F k → B ≤ k
  upG : ∀ k, G k → B ≤ k
  base : B ≤ w.heap.size
/-- Behind the program's call the document's disk stands as it was. -/
theorem Both.first {B : Nat} {w w1 : World} {F G F' : Nat → Prop} {d p room : Nat} {L : DiskL} (h : Both B w F G d p room L) (n : Next F w F' w1) :
    RAt w1 G p room L ∧ (∀ k, F' k → ¬ G k) ∧ (∀ k, F' k → B ≤ k) ∧ Below B w w1 := by
  refine ⟨h.ref.turn n.turn (fun g hg hf => h.apart g hf hg), fun k hk hg => ?_, n.up h.base h.upF, n.below h.base h.upF⟩
  rcases n.foot k hk with h1 | h1
  · exact h.apart k h1 hg
  · have := h.ref.low k hg
    omega
theorem both_second {B : Nat} {w1 w2 : World} {F' G G' : Nat → Prop} {d p room : Nat} {L' : DiskL} (hD : DiskAt w1 F' d room L') (ha : ∀ k, F' k → ¬ G k) (hF : ∀ k, F' k → B ≤ k) (hG : ∀ k, G k → B ≤ k) (hB : B ≤ w1.heap.size)
    (hR : RAt w2 G' p room L') (n : Next G w1 G' w2) : Both B w2 F' G' d p room L' := by
  refine ⟨hD.turn n.turn (fun g hf hg => ha g hf hg), hR, fun k hk hg => ?_, hF, n.up hB hG, Nat.le_trans hB n.turn.size⟩
  rcases n.foot k hg with h1 | h1
  · exact ha k hk h1
  · have := hD.low k hk
    omega
theorem Both.below {B : Nat} {w w1 : World} {F G : Nat → Prop} {d p room : Nat} {L : DiskL} (h : Both B w F G d p room L) (k : Below w.heap.size w w1) : Both B w1 F G d p room L :=
  ⟨h.disk.below k, h.ref.below k, h.apart, h.upF, h.upG, Nat.le_trans h.base k.size⟩
theorem Both.drawn {B : Nat} {w : World} {F G : Nat → Prop} {d p room : Nat} {L : DiskL} (h : Both B w F G d p room L) (n : Nat) : Both B (w.drewN n) F G d p room L :=
  h.below (below_drewN (Below.refl _ _) n)
theorem abs_at {X : List (Str × Fil)} (hr : Rise (absX X)) {j : Nat} (hj : j < X.length) : getK X[j].1 (absX X) = some X[j].2.2 := by
  have h : getK X[j].1 X = some X[j].2 := mem_getK (rise_abs hr) (List.getElem_mem hj)
  rw [absX_get, h]
  rfl
end Go.Proofs.Ytmledochidefeaa
namespace Go.Proofs.Ytmledochidefeaa
open Go.RowKit
theorem str_at (k : Str) : ∃ s : ByteArray, encStr k = .string s ∧ s.data.toList = k := ⟨⟨k.toArray⟩, rfl, by simp⟩
theorem OwnS.rows {w : World} {B n : Nat} {v : Value} {ks : List Str} (h : OwnS w B v ks) (hn : ks.length = n) : ∃ A c, v = .slice A n c ∧ n ≤ c ∧ c ≤ 9223372036854775807 ∧ ∀ i, i < n → ∃ g, A = some ⟨g, 0, none⟩ ∧ w.cell? ⟨g, i, none⟩ = some (encStr (ks.getD i [])) := by
  subst hn
  obtain ⟨A, c, e, h1, h2, h3⟩ := h.form
  exact ⟨A, c, e, h1, h2, fun i hi => by
    obtain ⟨g, e, _, _, q⟩ := h3 i hi
    exact ⟨g, e, q⟩⟩
end Go.Proofs.Ytmledochidefeaa
namespace Go.Proofs.Ytmledochidefeaa
open Go.RowKit
theorem getK_one {α : Type} (k : Str) (a : α) : getK k [(k, a)] = some a := by simp [getK]
theorem putK_nil {α : Type} (k : Str) (a : α) : putK k a ([] : List (Str × α)) = [(k, a)] := rfl
theorem putK_one {α : Type} (k : Str) (a b : α) : putK k a [(k, b)] = [(k, a)] := by simp [putK, delK, insK]
theorem usedL_one (k : Str) (xs : List Nat) (l : Nat) : usedL [(k, (xs, l))] = xs.length := by simp [usedL, sumK]
theorem appL_new {room : Nat} {k : Str} {p : List Nat} (hk : 1 ≤ k.length ∧ k.length ≤ 64) (h : p.length ≤ room) : appL room k p [] = ([(k, (p, 0))], 0) := by
  unfold appL
  rw [if_neg (fun h => h hk), if_neg]
  · rfl
  · rintro (⟨_, h'⟩ | h')
    · simp at h'
    · have : usedL [] = 0 := rfl
      omega
theorem appL_more {room : Nat} {k : Str} {xs p : List Nat} {l : Nat} (hk : 1 ≤ k.length ∧ k.length ≤ 64) (h : xs.length + p.length ≤ room) : appL room k p [(k, (xs, l))] = ([(k, (xs ++ p, l))], 0) := by
  unfold appL
  rw [if_neg (fun h => h hk), if_neg]
  · unfold oldB oldN
    rw [getK_one, putK_one]
    rfl
  · rw [getK_one, usedL_one]
    rintro (⟨h', _⟩ | h')
    · cases h'
    · omega
theorem crashD_one (draw : Nat) (k : Str) (xs ys : List Nat) : ∃ m, xs.length ≤ m ∧ m ≤ (xs ++ ys).length ∧ crashD draw [(k, (xs ++ ys, xs.length))] = [(k, ((xs ++ ys).take m, m))] := by
  have h := crash1_le draw 0 (xs ++ ys, xs.length) (by simp)
  exact ⟨_, Nat.le_add_right _ _, h, rfl⟩
end Go.Proofs.Ytmledochidefeaa
