/- The walk of the law BitsZigs: it returns true for every number of either sign and every number without, and writes nothing that was there. No conditions but the widths. -/
import Derived.Test.YtndkdfbcbofnkaaKnown
import Derived.Test.YtndkdfbcbofnkaaZig
import Derived.OpenShut
namespace Go.Proofs.Ytndkdfbcbofnkaa
open Go.RowKit
theorem zagS_bd (u : Int) (h0 : 0 ≤ u) (h1 : u < 18446744073709551616) : -9223372036854775808 ≤ zagS u ∧ zagS u < 9223372036854775808 := by unfold zagS; split <;> omega
theorem zigS_bd (v : Int) (h0 : -9223372036854775808 ≤ v) (h1 : v < 9223372036854775808) : 0 ≤ zigS v ∧ zigS v < 18446744073709551616 := by unfold zigS; split <;> omega
theorem zigS_small_pos (v : Int) (h : 0 ≤ v) : zigS v = 2 * v := by unfold zigS; rw [if_pos h]
theorem zigS_small_neg (v : Int) (h : v < 0) : zigS v = -2 * v - 1 := by unfold zigS; rw [if_neg (by omega)]
set_option maxHeartbeats 1000000 in
theorem bitsZigs_core (v u z y : Int) (w : World) (h0 : -9223372036854775808 ≤ v) (h1 : v < 9223372036854775808) (g0 : 0 ≤ u) (g1 : u < 18446744073709551616)
    (hz : Hid (z = zigS v)) (hy : Hid (y = zagS u)) (z0 : 0 ≤ z) (z1 : z < 18446744073709551616)
    (hv : 1099511627776 ≤ v ∨ (v ≤ -1099511627776) ∨ (0 ≤ v ∧ v < 1099511627776 ∧ z ≤ 2 * v) ∨ (v < 0 ∧ -1099511627776 < v ∧ z ≤ 2 * (-v))) :
    Calls Try.prog 5 #[.int .i64 v, .int .u64 u] w fun e w' => e = .returned (.bool true) ∧ Below w.heap.size w w' := by
  rcases hv with hv | hv | ⟨hv, hv2, hv3⟩ | ⟨hv, hv2, hv3⟩ <;>
  · go_enter Try.func5, Try.ntmps5
    go_wp2_with fail
    refine (zig_any v _ h0 h1).mono ?_
    rintro e w1 ⟨rfl, rfl⟩
    rw [← hz.out]
    go_wp2_with fail
    refine (rzig_any v _ h0 h1).mono ?_
    rintro e w1 ⟨rfl, rfl⟩
    rw [← hz.out]
    go_wp2_with fail
    refine (zag_any z _ z0 z1).mono ?_
    rintro e w1 ⟨rfl, rfl⟩
    rw [hz.out, zag_zig, ← hz.out]
    go_wp2_with fail
    refine (zag_any u _ g0 g1).mono ?_
    rintro e w1 ⟨rfl, rfl⟩
    rw [← hy.out]
    go_wp2_with fail
    refine (rzag_any u _ g0 g1).mono ?_
    rintro e w1 ⟨rfl, rfl⟩
    rw [← hy.out]
    go_wp2_with fail
    refine (zag_any u _ g0 g1).mono ?_
    rintro e w1 ⟨rfl, rfl⟩
    go_wp2_with fail
    refine (zig_any _ _ (zagS_bd u g0 g1).1 (zagS_bd u g0 g1).2).mono ?_
    rintro e w1 ⟨rfl, rfl⟩
    rw [zig_zag u g0]
    go_wp2_with fail
    refine (known_any _).mono ?_
    rintro e w1 ⟨rfl, hb⟩
    go_wp2_with fail
    go_ret
    exact ⟨rfl, hb⟩
theorem bitsZigs_walk (a0 : Int) (a1 : Int) (w0 : (Lit.int .i64 a0).wf = true) (w1 : (Lit.int .u64 a1).wf = true) (w : World) :
    Calls Try.prog 5 #[.int .i64 a0, .int .u64 a1] w fun e w' => e = .returned (.bool true) ∧ Below w.heap.size w w' := by
  have b0 := bounds_i64 w0
  have b1 := bounds_u64 w1
  have z := zigS_bd a0 (by omega) (by omega)
  refine bitsZigs_core a0 a1 (zigS a0) (zagS a1) w (by omega) (by omega) (by omega) (by omega) rfl rfl z.1 z.2 ?_
  rcases Int.lt_or_le a0 0 with h | h
  · have := zigS_small_neg a0 h
    omega
  · have := zigS_small_pos a0 h
    omega
end Go.Proofs.Ytndkdfbcbofnkaa
