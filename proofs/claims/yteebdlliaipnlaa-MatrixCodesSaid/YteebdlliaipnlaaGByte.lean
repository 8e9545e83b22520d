/- Bytes by their digits: what the walks of products lean on. It names nothing of the program. -/
import Derived.Test.YteebdlliaipnlaaGf
import Derived.Test.YteebdlliaipnlaaBytes
namespace Go.Proofs.Yteebdlliaipnlaa
open Go.RowKit
theorem and_one8 (y : Nat) (hy : y < 256) : bits .and .u8 (y : Int) 1 = ((y % 2 : Nat) : Int) := by
  rw [u8_and _ _ (by omega) (by omega) (by decide) (by decide)]
  have : (1 : Int).toNat = 1 := rfl
  rw [this, nat_mask1, Int.toNat_natCast]
theorem and_none8 (x : Nat) (hx : x < 256) : bits .and .u8 (x : Int) 0 = 0 := by
  rw [u8_and _ _ (by omega) (by omega) (by decide) (by decide)]
  simp
theorem and_all8 (x : Nat) (hx : x < 256) : bits .and .u8 (x : Int) 255 = (x : Int) := by
  rw [u8_and _ _ (by omega) (by omega) (by decide) (by decide)]
  have : (255 : Int).toNat = 2 ^ 8 - 1 := rfl
  rw [this, Nat.and_two_pow_sub_one_eq_mod, Int.toNat_natCast, Nat.mod_eq_of_lt (by simpa using hx)]
theorem xor_none8 (x : Nat) (hx : x < 256) : bits .xor .u8 (x : Int) 0 = (x : Int) := by
  have := u8_xor_nat x 0 hx (by decide)
  simpa using this
theorem low_none : bits .and .u8 29 0 = 0 := by decide +kernel
theorem low_all : bits .and .u8 29 255 = 29 := by decide +kernel
theorem xt_low : ∀ x < 128, x * 2 = xt x := by decide +kernel
theorem xt_high : ∀ x < 256, ¬ x < 128 → (x * 2 % 256) ^^^ 29 = xt x := by decide +kernel
theorem xt_walk0 {x : Nat} (h : x < 128) : bits .xor .u8 ((x : Int) * 2) 0 = ((xt x : Nat) : Int) := by
  rw [← xt_low x h]
  have e : (x : Int) * 2 = ((x * 2 : Nat) : Int) := by omega
  rw [e]
  exact xor_none8 _ (by omega)
theorem xt_walk1 {x : Nat} (hx : x < 256) (h : ¬ x < 128) : bits .xor .u8 ((x : Int) * 2 % 256) 29 = ((xt x : Nat) : Int) := by
  rw [← xt_high x hx h, ← u8_xor_nat _ 29 (by omega) (by decide)]
  congr 1
theorem gm_step {k a b : Nat} {y : Nat} (hy : y = b / 2 ^ k) : gm (k + 1) a b = gm k a b ^^^ y % 2 * pw k a := by rw [hy]; rfl
theorem half_next {k b : Nat} : b / 2 ^ (k + 1) = b / 2 ^ k / 2 := by rw [Nat.div_div_eq_div_mul, Nat.pow_succ]
end Go.Proofs.Yteebdlliaipnlaa
