/- The walk of the law NeedleSizes: it returns true for any number. No condition. -/
import Derived.Test.YtkgkhielfodmmaaNdKnow
import Derived.Test.YtkgkhielfodmmaaRNdSize
namespace Go.Proofs.Ytkgkhielfodmmaa
open Go.RowKit
set_option maxRecDepth 100000 in
set_option maxHeartbeats 1600000 in
theorem needleSizes_core (z : Int) (w : World) (h0 : -9223372036854775808 ≤ z) (h1 : z ≤ 9223372036854775807) :
    Calls Try.prog 6 #[.int .i64 z] w fun e w' => e = .returned (.bool true) ∧ Below w.heap.size w w' := by
  obtain ⟨m, hm⟩ : ∃ m, m = ndSize z.toNat := ⟨_, rfl⟩
  have hle := ndSize_le z.toNat
  have hmod := ndSize_mod z.toNat
  rw [← hm] at hle hmod
  have hne : ((m : Int) != (m : Int)) = false := by simp
  have hm8 : (((m : Int) % 8) != 0) = false := by simp only [bne_eq_false_iff_eq]; omega
  have HM := hide hm
  have hlim : m ≤ 65568 := hle.1
  by_cases hs : z < 0
  · clear hm hle hmod
    go_enter Try.func6, Try.ntmps6
    go_wp2_with fail
    refine (ndsize_any z w h0 h1).mono ?_
    rintro e w1 ⟨rfl, rfl⟩
    rw [← HM.out]
    go_wp2_with fail
    refine (rndsize_any z _ h0 h1).mono ?_
    rintro e w1 ⟨rfl, rfl⟩
    rw [← HM.out]
    go_wp2_with fail
    refine (known_any _).mono ?_
    rintro e w3 ⟨rfl, k3⟩
    go_wp2_with fail
    go_ret
    exact ⟨rfl, k3⟩
  · by_cases hb : 65536 ≤ z
    · clear hm hle hmod
      go_enter Try.func6, Try.ntmps6
      go_wp2_with fail
      refine (ndsize_any z w h0 h1).mono ?_
      rintro e w1 ⟨rfl, rfl⟩
      rw [← HM.out]
      go_wp2_with fail
      refine (rndsize_any z _ h0 h1).mono ?_
      rintro e w1 ⟨rfl, rfl⟩
      rw [← HM.out]
      go_wp2_with fail
      refine (known_any _).mono ?_
      rintro e w3 ⟨rfl, k3⟩
      go_wp2_with fail
      go_ret
      exact ⟨rfl, k3⟩
    · have hg := ndSize_ge z.toNat (by omega)
      rw [← hm] at hg
      have q1 : z + 28 ≤ (m : Int) := by omega
      have q2 : (m : Int) < z + 36 := by omega
      obtain ⟨k, hk⟩ : ∃ k, k = ndSize (z + 1).toNat := ⟨_, rfl⟩
      have q3 : (m : Int) ≤ (k : Int) := by
        have := ndSize_mono z.toNat (z + 1).toNat (by omega)
        omega
      have HK := hide hk
      clear hm hle hmod hg hk
      go_enter Try.func6, Try.ntmps6
      go_wp2_with fail
      refine (ndsize_any z w h0 h1).mono ?_
      rintro e w1 ⟨rfl, rfl⟩
      rw [← HM.out]
      go_wp2_with fail
      refine (rndsize_any z _ h0 h1).mono ?_
      rintro e w1 ⟨rfl, rfl⟩
      rw [← HM.out]
      go_wp2_with fail
      refine (ndsize_any (z + 1) _ (by omega) (by omega)).mono ?_
      rintro e w1 ⟨rfl, rfl⟩
      rw [← HK.out]
      go_wp2_with fail
      refine (known_any _).mono ?_
      rintro e w3 ⟨rfl, k3⟩
      go_wp2_with fail
      go_ret
      exact ⟨rfl, k3⟩
theorem needleSizes_walk (a0 : Int) (W : World) (w0 : (Lit.int .i64 a0).wf = true) :
    Calls Try.prog 6 #[.int .i64 a0] W fun e w' => e = .returned (.bool true) ∧ Below W.heap.size W w' := by
  have hb := bounds_i64 w0
  exact needleSizes_core a0 W (by omega) (by omega)
end Go.Proofs.Ytkgkhielfodmmaa
