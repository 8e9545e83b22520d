/- The walk of the law BitsTurns: it returns true for every number and every count, and writes nothing that was there. No conditions but the widths. -/
import Derived.Test.YtndkdfbcbofnkaaKnown
import Derived.OpenShut
namespace Go.Proofs.Ytndkdfbcbofnkaa
open Go.RowKit
theorem int_nat {a : Int} (h : 0 ≤ a) : ∃ v : Nat, a = (v : Int) := ⟨a.toNat, by omega⟩
set_option maxHeartbeats 800000 in
theorem bitsTurns_far (v : Nat) (n u : Int) (w : World) (hv : v < 4294967296) (hn : (n < -4611686018427387904) ∨ (¬ n < -4611686018427387904 ∧ 4611686018427387904 < n)) :
    Calls Try.prog 9 #[.int .u32 (v : Int), .int .i64 n, .int .u64 u] w fun e w' => e = .returned (.bool true) ∧ Below w.heap.size w w' := by
  rcases hn with hn | ⟨hn, hn2⟩ <;>
  · go_enter Try.func9, Try.ntmps9
    go_wp2_with fail
    refine (turn_any v n _ hv).mono ?_
    rintro e w1 ⟨rfl, rfl⟩
    go_wp2_with fail
    refine (rturn_any v n _ hv).mono ?_
    rintro e w1 ⟨rfl, rfl⟩
    go_wp2_with fail
    refine (known_any _).mono ?_
    rintro e w1 ⟨rfl, hb⟩
    go_wp2_with fail
    go_ret
    exact ⟨rfl, hb⟩
set_option maxHeartbeats 800000 in
theorem bitsTurns_near (v : Nat) (n : Int) (u : Nat) (w : World) (hv : v < 4294967296) (hu : u < 18446744073709551616) (h1 : ¬ n < -4611686018427387904) (h2 : ¬ 4611686018427387904 < n) :
    Calls Try.prog 9 #[.int .u32 (v : Int), .int .i64 n, .int .u64 (u : Int)] w fun e w' => e = .returned (.bool true) ∧ Below w.heap.size w w' := by
  have hb1 := rot_there_back v n hv
  have hr := rot_lt v (turnBy n) hv
  have hp := pc_rot v (turnBy n) (by have := turnBy_lt n; omega) hv
  have HU := hide hu
  clear hu
  obtain ⟨r, hre⟩ : ∃ r, r = rot v (turnBy n) := ⟨_, rfl⟩
  rw [← hre] at hb1 hr hp
  have HB := hide hb1
  have HP := hide hp
  have HRE := hide hre
  clear hb1 hp hre
  go_enter Try.func9, Try.ntmps9
  go_wp2_with fail
  refine (turn_any v n _ hv).mono ?_
  rintro e w1 ⟨rfl, rfl⟩
  rw [← HRE.out]
  go_wp2_with fail
  refine (rturn_any v n _ hv).mono ?_
  rintro e w1 ⟨rfl, rfl⟩
  rw [← HRE.out]
  go_wp2_with fail
  refine (turn_any r (-n) _ hr).mono ?_
  rintro e w1 ⟨rfl, rfl⟩
  rw [HB.out]
  go_wp2_with fail
  refine (count_any r _ (by omega)).mono ?_
  rintro e w1 ⟨rfl, rfl⟩
  rw [HP.out]
  go_wp2_with fail
  refine (count_any v _ (by omega)).mono ?_
  rintro e w1 ⟨rfl, rfl⟩
  go_wp2_with fail
  refine (count_any u _ HU.out).mono ?_
  rintro e w1 ⟨rfl, rfl⟩
  go_wp2_with fail
  refine (rcount_any u _ HU.out).mono ?_
  rintro e w1 ⟨rfl, rfl⟩
  go_wp2_with fail
  refine (known_any _).mono ?_
  rintro e w1 ⟨rfl, hb⟩
  go_wp2_with fail
  go_ret
  exact ⟨rfl, hb⟩
theorem bitsTurns_walk (a0 : Int) (a1 : Int) (a2 : Int) (w0 : (Lit.int .u32 a0).wf = true) (_w1 : (Lit.int .i64 a1).wf = true) (w2 : (Lit.int .u64 a2).wf = true) (w : World) :
    Calls Try.prog 9 #[.int .u32 a0, .int .i64 a1, .int .u64 a2] w fun e w' => e = .returned (.bool true) ∧ Below w.heap.size w w' := by
  have b0 := bounds_u32 w0
  have b2 := bounds_u64 w2
  obtain ⟨v, rfl⟩ := int_nat b0.1
  obtain ⟨u, rfl⟩ := int_nat b2.1
  by_cases h1 : a1 < -4611686018427387904
  · exact bitsTurns_far v a1 u w (by omega) (.inl h1)
  · by_cases h2 : 4611686018427387904 < a1
    · exact bitsTurns_far v a1 u w (by omega) (.inr ⟨h1, h2⟩)
    · exact bitsTurns_near v a1 u w (by omega) (by omega) h1 h2
end Go.Proofs.Ytndkdfbcbofnkaa
