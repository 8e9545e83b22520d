/- The walk of the law NeedleDecodes: it returns true for any bytes. Condition: no row is longer than the form's reach. -/
import Derived.Test.YtkgkhielfodmmaaNdKnow
import Derived.Test.YtkgkhielfodmmaaRNdDecA
import Derived.Test.YtkgkhielfodmmaaRoomy
import Derived.Test.YtkgkhielfodmmaaSpoilB
namespace Go.Proofs.Ytkgkhielfodmmaa
open Go.RowKit
theorem ndDec_len (b : List Nat) : (ndDec b).1.2.2.2.length ≤ b.length := by
  unfold ndDec
  split
  · exact Nat.zero_le _
  · split
    · exact Nat.zero_le _
    · split
      · exact Nat.zero_le _
      · split
        · exact Nat.zero_le _
        · show ((b.drop 24).take (hLen b)).length ≤ b.length
          rw [List.length_take, List.length_drop]
          omega
theorem decAns_open (w : World) (k c : Nat) (d : Bool) (xs : List Nat) (n er : Nat) (e : Ending) (w' : World) (h : DecAns w ((k, c, d, xs), n, er) e w') : ∃ s, e = .returned (.tuple #[.agg #[.int .u64 (k : Int), .int .u32 (c : Int), .bool d, s], .int .i64 (n : Int), .int .i64 (er : Int)]) ∧ Own w' w.heap.size s xs ∧ Below w.heap.size w w' := h
set_option maxRecDepth 100000 in
set_option maxHeartbeats 3200000 in
theorem needleDecodes_core (A : Option Addr) (n c : Nat) (b : List Nat) (w : World) (hA : IsB w (.slice A n c) b) (hn : b.length = n) (hb : ∀ x ∈ b, x < 256) (h7 : n ≤ 70000) :
    Calls Try.prog 4 #[.slice A n c] w fun e w' => e = .returned (.bool true) ∧ Below w.heap.size w w' := by
  obtain ⟨r, hr⟩ : ∃ r, r = ndDec b := ⟨_, rfl⟩
  have hrl : r.1.2.2.2.length ≤ n := by rw [hr, ← hn]; exact ndDec_len b
  obtain ⟨⟨rk, rc, rd, rx⟩, rn, re⟩ := r
  obtain ⟨xn, hxn⟩ : ∃ q, q = rx.length := ⟨_, rfl⟩
  have hrl : xn ≤ n := by rw [hxn]; exact hrl
  have HR := hide hr
  have HA := hide hA
  have HN := hide hn
  have HB := hide hb
  have HX := hide hxn
  have q1 : ((rn : Int) != (rn : Int)) = false := by simp
  have q2 : ((re : Int) != (re : Int)) = false := by simp
  clear hr hA hn hb hxn
  go_enter Try.func4, Try.ntmps4
  go_wp2_with fail
  refine (roomy_any A n c b w HA.out HN.out (by omega)).mono ?_
  rintro e w1 ⟨A1, c1, rfl, i1, l1, m1, k1⟩
  have IT : Hid (IsB w1 (.slice A1 n c1) b) := hide (by have h9 := i1.take n (by omega); rwa [List.take_left' HN.out] at h9)
  have I1 := hide i1
  have K1 := hide k1
  have hnc : (n : Int) ≤ (c1 : Int) := by omega
  clear i1 k1
  go_wp2_with fail
  refine (nddec_any A1 n c1 b w1 IT.out HB.out (by omega)).mono ?_
  intro e w2 hda
  rw [← HR.out] at hda
  obtain ⟨s2, rfl, o2, k2⟩ := decAns_open _ _ _ _ _ _ _ _ _ hda
  obtain ⟨A2, c2, rfl, i2, _, _⟩ := o2.isB.form (n := xn) HX.out.symm
  have ka := below_alloc w2 (.cells #[.int .u64 (rk : Int), .int .u32 (rc : Int), .bool rd, .slice A2 xn c2] 26)
  have NB := Blk.new w2 26 #[.int .u64 (rk : Int), .int .u32 (rc : Int), .bool rd, .slice A2 xn c2] (Nat.le_refl w2.heap.size)
  have O2 := hide (o2.keep ka)
  have J2 := hide (below_step k2 ka)
  clear hda o2 k2 i2 IT ka
  go_wp2_with fail
  obtain ⟨g2, hg2⟩ : ∃ g, g = w2.heap.size := ⟨_, rfl⟩
  obtain ⟨W2, hW2⟩ : ∃ W, W = w2.alloc (.cells #[.int .u64 (rk : Int), .int .u32 (rc : Int), .bool rd, .slice A2 xn c2] 26) := ⟨_, rfl⟩
  rw [← hg2, ← hW2] at NB
  rw [← hW2] at O2 J2
  rw [← hg2, ← hW2]
  have NB2 := hide NB
  clear hg2 hW2 NB
  refine (rnddec_any A n c b W2 (HA.out.keep (below_step K1.out J2.out)) HB.out (by omega)).mono ?_
  intro e w3 hda
  rw [← HR.out] at hda
  obtain ⟨s3, rfl, o3, k3⟩ := decAns_open _ _ _ _ _ _ _ _ _ hda
  obtain ⟨A3, c3, rfl, i3, _, _⟩ := o3.isB.form (n := xn) HX.out.symm
  have ka := below_alloc w3 (.cells #[.int .u64 (rk : Int), .int .u32 (rc : Int), .bool rd, .slice A3 xn c3] 26)
  have kk := below_step k3 ka
  have NB3 := hide ((NB2.out.keep kk))
  have O2 := hide (O2.out.keep kk)
  have I3 := hide (i3.keep ka)
  have J3 := hide (below_step J2.out kk)
  have x0 := (NB2.out.keep k3).cell 0
  have x1 := (NB2.out.keep k3).cell 1
  have x2 := (NB2.out.keep k3).cell 2
  have x3 := (NB2.out.keep k3).cell 3
  have xl := (NB2.out.keep k3).lt
  dsimp only [List.getElem?_cons_succ, List.getElem?_cons_zero] at x0 x1 x2 x3
  clear hda o3 k3 i3 ka kk NB2 J2
  go_wp2_with fail
  refine (needles_same rk rc rd A2 A3 xn c2 c3 rx _ O2.out.isB I3.out).mono ?_
  rintro e w5 ⟨rfl, k5⟩
  have y3 := (NB3.out.keep k5).cell 3
  dsimp only [List.getElem?_cons_succ, List.getElem?_cons_zero] at y3
  have O5 := hide (O2.out.keep k5)
  have J5 := hide (below_step J3.out k5)
  clear x0 x1 x2 x3 xl k5 NB3 O2 J3 I3
  go_wp2_with fail
  refine (spoil_any A2 xn c2 rx w5 w1.heap.size O5.out HX.out.symm J5.out.size (by omega)).mono ?_
  rintro e w6 ⟨rfl, k6⟩
  have J6 := hide (J5.out.trans k6)
  clear k6 y3
  go_wp2_with fail
  refine (stands_any A1 c1 A n c b w6 (I1.out.keep J6.out) (HA.out.keep (below_step K1.out J6.out)) HN.out (by omega) l1 m1).mono ?_
  rintro e w7 ⟨rfl, d7, rfl⟩
  have J7 := hide (below_drewN J6.out d7)
  go_wp2_with fail
  refine (known_any _).mono ?_
  rintro e w8 ⟨rfl, k8⟩
  go_wp2_with fail
  go_ret
  exact ⟨rfl, below_step (below_step K1.out J7.out) k8⟩
theorem needleDecodes_long (A : Option Addr) (n c : Nat) (w : World) (h : ¬ n ≤ 70000) (_h : n ≤ 140737488351232) :
    Calls Try.prog 4 #[.slice A n c] w fun e w' => e = .returned (.bool true) ∧ Below w.heap.size w w' := by
  go_enter Try.func4, Try.ntmps4
  go_wp2_with fail
  go_ret
  exact ⟨rfl, Below.refl _ _⟩
theorem needleDecodes_walk (A : Option Addr) (n c : Nat) (b : List Nat) (w : World) (hA : IsB w (.slice A n c) b) (hn : b.length = n) (hb : ∀ x ∈ b, x < 256) (hl : n ≤ 140737488351232) :
    Calls Try.prog 4 #[.slice A n c] w fun e w' => e = .returned (.bool true) ∧ Below w.heap.size w w' := by
  by_cases h : n ≤ 70000
  · exact needleDecodes_core A n c b w hA hn hb h
  · exact needleDecodes_long A n c w h hl
end Go.Proofs.Ytkgkhielfodmmaa
