/- A number as bytes of seven digits. It names nothing of the program. The number at the beginning of bytes. It names nothing of the program. -/
import Derived.Test.YtedlibkkeegnaaaGreatRows
namespace Go.Proofs.YtedlibkkeegnaaaGreat
variable {c k : Nat}
def uvl (v : Nat) : List Nat := if h : v < 128 then [v] else (v % 128 + 128) :: uvl (v / 128)
theorem uvl_low {v : Nat} (h : v < 128) : uvl v = [v] := by rw [uvl, dif_pos h]
theorem uvl_high {v : Nat} (h : ¬ v < 128) : uvl v = (v % 128 + 128) :: uvl (v / 128) := by rw [uvl, dif_neg h]
theorem uvl_len (k : Nat) : ∀ v, v < 128 ^ (k + 1) -> (uvl v).length <= k + 1 := by
 induction k with
 | zero => intro v h; rw [uvl_low (by simpa using h)]; simp
 | succ k ih =>
  intro v h;by_cases h0 : v < 128
  ·rw [uvl_low h0]; simp
  ·rw [uvl_high h0, List.length_cons];have := ih (v / 128) (by rw [Nat.pow_succ] at h; omega);omega
theorem uvl_len64 (v : Nat) (h : v < 18446744073709551616) : (uvl v).length <= 10 := uvl_len 9 v (Nat.lt_of_lt_of_le h (by decide))
theorem uvl_byte : ∀ v, ∀ x ∈ uvl v, x < 256 := by
 intro v
 induction v using Nat.strongRecOn with
 | _ v ih =>
  by_cases h0 : v < 128
  ·rw [uvl_low h0]; intro x hx; simp at hx; omega
  ·rw [uvl_high h0];intro x hx;rcases List.mem_cons.1 hx with rfl | hx
   ·omega
   ·exact ih (v / 128) (by omega) x hx
def rvl : Nat -> Nat -> List Nat -> Nat × Nat × Nat
 | _, _, [] => (0, 0, 2)
 | k, v, c :: cs =>
  if k = 9 /\ 1 < c then (0, 0, 3)
  else if 128 <= c then rvl (k + 1) (v + c % 128 * 2 ^ (7 * k)) cs
  else if c = 0 /\ 0 < k then (0, 0, 3)
  else (v + c % 128 * 2 ^ (7 * k), k + 1, 0)
theorem rvl_nil (k v : Nat) : rvl k v [] = (0, 0, 2) := rfl
theorem rvl_last {v : Nat} {cs : List Nat} (h9 : k = 9) (h1 : 1 < c) : rvl k v (c :: cs) = (0, 0, 3) := by rw [rvl, if_pos ⟨h9, h1⟩]
theorem rvl_more {v : Nat} {cs : List Nat} (h9 : k < 9) (h1 : 128 <= c) : rvl k v (c :: cs) = rvl (k + 1) (v + c % 128 * 2 ^ (7 * k)) cs := by rw [rvl, if_neg (by omega), if_pos h1]
theorem rvl_zero {v : Nat} {cs : List Nat} (h0 : c = 0) (h1 : 0 < k) : rvl k v (c :: cs) = (0, 0, 3) := by rw [rvl, if_neg (by omega), if_neg (by omega), if_pos ⟨h0, h1⟩]
theorem rvl_end {v : Nat} {cs : List Nat} (h9 : ¬ (k = 9 /\ 1 < c)) (h1 : c < 128) (h0 : ¬ (c = 0 /\ 0 < k)) : rvl k v (c :: cs) = (v + c % 128 * 2 ^ (7 * k), k + 1, 0) := by rw [rvl, if_neg h9, if_neg (by omega), if_neg h0]
theorem step_lt {v : Nat} (hv : v < 2 ^ (7 * k)) : v + c % 128 * 2 ^ (7 * k) < 2 ^ (7 * (k + 1)) := by
 have e : 2 ^ (7 * (k + 1)) = 128 * 2 ^ (7 * k) := by rw [show 7 * (k + 1) = 7 * k + 7 from by omega, Nat.pow_add, Nat.mul_comm]
 rw [e];have : c % 128 * 2 ^ (7 * k) <= 127 * 2 ^ (7 * k) := Nat.mul_le_mul_right _ (by omega);omega
theorem sh_lt (hk : k <= 9) (h9 : k = 9 -> c <= 1) : c % 128 * 2 ^ (7 * k) < 18446744073709551616 := by
 by_cases h : k = 9
 ·subst h;have := h9 rfl;have : c % 128 * 2 ^ (7 * 9) <= 1 * 2 ^ (7 * 9) := Nat.mul_le_mul_right _ (by omega);have e : 1 * 2 ^ (7 * 9) = 9223372036854775808 := by decide
  omega
 ·have h1 : c % 128 * 2 ^ (7 * k) < 128 * 2 ^ (7 * k) := Nat.mul_lt_mul_of_pos_right (by omega) (Nat.two_pow_pos _);have h2 : 2 ^ (7 * k) <= 2 ^ 56 := Nat.pow_le_pow_right (by decide) (by omega);have e : (2 : Nat) ^ 56 = 72057594037927936 := by decide
  omega
theorem v_lt {v : Nat} (hk : k <= 9) (hv : v < 2 ^ (7 * k)) : v < 9223372036854775808 := by
 have h2 : 2 ^ (7 * k) <= 2 ^ 63 := Nat.pow_le_pow_right (by decide) (by omega);have e : (2 : Nat) ^ 63 = 9223372036854775808 := by decide
 omega
end Go.Proofs.YtedlibkkeegnaaaGreat
