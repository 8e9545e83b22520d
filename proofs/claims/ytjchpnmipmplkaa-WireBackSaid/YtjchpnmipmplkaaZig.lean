/- The contracts of bits.Zig, bits.Zag and of the document's own: numbers of both signs among those without. No conditions but the widths. -/
import Derived.Test.YtjchpnmipmplkaaNums
import Derived.WalkSpells
import Derived.WalkLawsBesides
namespace Go.Proofs.Ytjchpnmipmplkaa
open Go.RowKit
def zigS (v : Int) : Int := if 0 ≤ v then 2 * v else -2 * v - 1
def zagS (u : Int) : Int := if u % 2 = 0 then u / 2 else -(u / 2) - 1
theorem zag_zig (v : Int) : zagS (zigS v) = v := by unfold zagS zigS; split <;> split <;> omega
theorem zig_zag (u : Int) (h : 0 ≤ u) : zigS (zagS u) = u := by unfold zagS zigS; split <;> split <;> omega
theorem xor_none64 (a : Int) (h0 : 0 ≤ a) (h1 : a < 18446744073709551616) : bits .xor .u64 a 0 = a := by
  rw [u64_xor _ _ h0 h1 (by decide) (by decide)]
  have : (0 : Int).toNat = 0 := rfl
  rw [this, Nat.xor_zero]
  omega
theorem xor_all64 (a : Nat) (h1 : a < 18446744073709551616) : bits .xor .u64 (a : Int) 18446744073709551615 = 18446744073709551615 - (a : Int) := by
  show IntKind.u64.wrap ((BitVec.ofInt 64 (a : Int) ^^^ BitVec.ofInt 64 18446744073709551615).toNat : Int) = _
  have h2 : BitVec.ofInt 64 18446744073709551615 = BitVec.allOnes 64 := by decide
  rw [h2, BitVec.xor_allOnes, BitVec.toNat_not, ofInt_u64 a h1, IntKind.wrap_u64]
  omega
theorem zig_pos_eq (v : Int) (h0 : 0 ≤ v) (h1 : v < 9223372036854775808) : bits .xor .u64 (v * 2) (v / 9223372036854775808) = zigS v := by
  have e : v / 9223372036854775808 = 0 := by omega
  rw [e, xor_none64 _ (by omega) (by omega)]
  unfold zigS
  rw [if_pos h0]
  omega
theorem zig_neg_eq (v : Int) (h0 : v < 0) (h1 : -9223372036854775808 ≤ v) :
    bits .xor .u64 (IntKind.u64.wrap (IntKind.u64.wrap v * 2)) (IntKind.u64.wrap (v / 9223372036854775808)) = zigS v := by
  have e : v / 9223372036854775808 = -1 := by omega
  simp only [e, IntKind.wrap_u64]
  have e2 : (-1 : Int) % 18446744073709551616 = 18446744073709551615 := by decide
  rw [e2]
  obtain ⟨a, ha⟩ : ∃ a : Nat, v % 18446744073709551616 * 2 % 18446744073709551616 = (a : Int) := ⟨(v % 18446744073709551616 * 2 % 18446744073709551616).toNat, by omega⟩
  rw [ha, xor_all64 a (by omega)]
  unfold zigS
  rw [if_neg (by omega)]
  omega
theorem wrap64_zero : wrap64 (-wrap64 0) = 0 := by decide +kernel
theorem wrap64_one : wrap64 (-wrap64 1) = -1 := by decide +kernel
theorem xor_none_i64 (a : Nat) (h1 : a < 9223372036854775808) : bits .xor .i64 (a : Int) 0 = (a : Int) := by
  show IntKind.i64.wrap ((BitVec.ofInt 64 (a : Int) ^^^ BitVec.ofInt 64 0).toNat : Int) = _
  have h2 : BitVec.ofInt 64 0 = 0#64 := by decide
  rw [h2, BitVec.xor_zero, ofInt_u64 a (by omega), IntKind.wrap_i64]
  omega
theorem xor_all_i64 (a : Nat) (h1 : a < 9223372036854775808) : bits .xor .i64 (a : Int) (-1) = -1 - (a : Int) := by
  show IntKind.i64.wrap ((BitVec.ofInt 64 (a : Int) ^^^ BitVec.ofInt 64 (-1)).toNat : Int) = _
  have h2 : BitVec.ofInt 64 (-1) = BitVec.allOnes 64 := by decide
  rw [h2, BitVec.xor_allOnes, BitVec.toNat_not, ofInt_u64 a (by omega), IntKind.wrap_i64]
  omega
theorem zag_eq (u : Int) (h0 : 0 ≤ u) (h1 : u < 18446744073709551616) : bits .xor .i64 (u / 2) (wrap64 (-wrap64 (bits .and .u64 u 1))) = zagS u := by
  rw [u64_and _ _ h0 h1 (by decide) (by decide)]
  have : (1 : Int).toNat = 1 := rfl
  rw [this, nat_mask1]
  obtain ⟨a, ha⟩ : ∃ a : Nat, u / 2 = (a : Int) := ⟨(u / 2).toNat, by omega⟩
  unfold zagS
  rw [ha]
  by_cases h : u % 2 = 0
  · have e : ((u.toNat % 2 : Nat) : Int) = 0 := by omega
    rw [e, wrap64_zero, if_pos h, xor_none_i64 a (by omega)]
  · have e : ((u.toNat % 2 : Nat) : Int) = 1 := by omega
    rw [e, wrap64_one, if_neg h, xor_all_i64 a (by omega)]
    omega
set_option maxHeartbeats 400000 in
theorem zig_any (v : Int) (w : World) (h0 : -9223372036854775808 ≤ v) (h1 : v < 9223372036854775808) :
    Calls Try.prog 20 #[.int .i64 v] w fun e w' => e = .returned (.int .u64 (zigS v)) ∧ w = w' := by
  rcases Int.lt_or_le v 0 with h | h
  · clear h1
    go_enter Try.func20, Try.ntmps20
    go_wp2
    go_ret
    exact ⟨ret_int (zig_neg_eq v h h0), rfl⟩
  · clear h0
    go_enter Try.func20, Try.ntmps20
    go_wp2
    go_ret
    exact ⟨ret_int (zig_pos_eq v h h1), rfl⟩
set_option maxHeartbeats 400000 in
theorem zag_any (u : Int) (w : World) (h0 : 0 ≤ u) (h1 : u < 18446744073709551616) :
    Calls Try.prog 47 #[.int .u64 u] w fun e w' => e = .returned (.int .i64 (zagS u)) ∧ w = w' := by
  go_enter Try.func47, Try.ntmps47
  go_wp2
  go_ret
  exact ⟨ret_int (zag_eq u h0 h1), rfl⟩
theorem rzig_pos (v : Int) (h : 0 ≤ v) : 2 * v = zigS v := by unfold zigS; rw [if_pos h]
theorem rzig_neg (v : Int) (h : v < 0) : 2 * -(v + 1) + 1 = zigS v := by unfold zigS; rw [if_neg (by omega)]; omega
set_option maxHeartbeats 400000 in
theorem rzig_any (v : Int) (w : World) (h0 : -9223372036854775808 ≤ v) (h1 : v < 9223372036854775808) :
    Calls Try.prog 35 #[.int .i64 v] w fun e w' => e = .returned (.int .u64 (zigS v)) ∧ w = w' := by
  rcases Int.lt_or_le v 0 with h | h
  · go_enter Try.func35, Try.ntmps35
    go_wp2
    go_ret
    exact ⟨ret_int (rzig_neg v h), rfl⟩
  · go_enter Try.func35, Try.ntmps35
    go_wp2
    go_ret
    exact ⟨ret_int (rzig_pos v h), rfl⟩
theorem rzag_pos (u : Int) (h : u % 2 = 0) : u / 2 = zagS u := by unfold zagS; rw [if_pos h]
theorem rzag_neg (u : Int) (h : ¬ u % 2 = 0) : -(u / 2) - 1 = zagS u := by unfold zagS; rw [if_neg h]
set_option maxHeartbeats 400000 in
theorem rzag_any (u : Int) (w : World) (h0 : 0 ≤ u) (h1 : u < 18446744073709551616) :
    Calls Try.prog 28 #[.int .u64 u] w fun e w' => e = .returned (.int .i64 (zagS u)) ∧ w = w' := by
  by_cases h : u % 2 = 0
  · have ht : (u % 2 == 0) = true := by simp [h]
    have HH := hide h
    clear h
    go_enter Try.func28, Try.ntmps28
    go_wp2
    go_ret
    exact ⟨ret_int (rzag_pos u HH.out), rfl⟩
  · have ht : (u % 2 == 0) = false := by simp [h]
    have HH := hide h
    clear h
    go_enter Try.func28, Try.ntmps28
    go_wp2
    go_ret
    exact ⟨ret_int (rzag_neg u HH.out), rfl⟩
end Go.Proofs.Ytjchpnmipmplkaa
