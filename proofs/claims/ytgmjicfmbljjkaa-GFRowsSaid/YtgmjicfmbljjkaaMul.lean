/- The contracts of gf.Mul and of the document's own: both tell the product of the field. No condition but the widths. -/
import Derived.Test.YtgmjicfmbljjkaaGf
import Derived.Test.YtgmjicfmbljjkaaBytes
namespace Go.Proofs.Ytgmjicfmbljjkaa
open Go.RowKit
theorem and_one8 (y : Nat) (hy : y < 256) : bits .and .u8 (y : Int) 1 = ((y % 2 : Nat) : Int) := by
  rw [u8_and _ _ (by omega) (by omega) (by decide) (by decide)]
  have : (1 : Int).toNat = 1 := rfl
  rw [this, nat_mask1, Int.toNat_natCast]
theorem and_none8 (x : Nat) (hx : x < 256) : bits .and .u8 (x : Int) 0 = 0 := by
  rw [u8_and _ _ (by omega) (by omega) (by decide) (by decide)]
  simp
theorem and_all8 (x : Nat) (hx : x < 256) : bits .and .u8 (x : Int) 255 = (x : Int) := by
  rw [u8_and _ _ (by omega) (by omega) (by decide) (by decide)]
  have : (255 : Int).toNat = 2 ^ 8 - 1 := rfl
  rw [this, Nat.and_two_pow_sub_one_eq_mod, Int.toNat_natCast, Nat.mod_eq_of_lt (by simpa using hx)]
theorem xor_none8 (x : Nat) (hx : x < 256) : bits .xor .u8 (x : Int) 0 = (x : Int) := by
  have := u8_xor_nat x 0 hx (by decide)
  simpa using this
theorem low_none : bits .and .u8 29 0 = 0 := by decide +kernel
theorem low_all : bits .and .u8 29 255 = 29 := by decide +kernel
theorem xt_low : ∀ x < 128, x * 2 = xt x := by decide +kernel
theorem xt_high : ∀ x < 256, ¬ x < 128 → (x * 2 % 256) ^^^ 29 = xt x := by decide +kernel
theorem xt_walk0 {x : Nat} (h : x < 128) : bits .xor .u8 ((x : Int) * 2) 0 = ((xt x : Nat) : Int) := by
  rw [← xt_low x h]
  have e : (x : Int) * 2 = ((x * 2 : Nat) : Int) := by omega
  rw [e]
  exact xor_none8 _ (by omega)
theorem xt_walk1 {x : Nat} (hx : x < 256) (h : ¬ x < 128) : bits .xor .u8 ((x : Int) * 2 % 256) 29 = ((xt x : Nat) : Int) := by
  rw [← xt_high x hx h, ← u8_xor_nat _ 29 (by omega) (by decide)]
  congr 1
theorem gm_step {k a b : Nat} {y : Nat} (hy : y = b / 2 ^ k) : gm (k + 1) a b = gm k a b ^^^ y % 2 * pw k a := by rw [hy]; rfl
theorem half_next {k b : Nat} : b / 2 ^ (k + 1) = b / 2 ^ k / 2 := by rw [Nat.div_div_eq_div_mul, Nat.pow_succ]
set_option maxHeartbeats 800000 in
theorem mul_any (a b : Nat) (w : World) (ha : a < 256) (hb : b < 256) :
    Calls Try.prog 8 #[.int .u8 (a : Int), .int .u8 (b : Int)] w fun e w' => e = .returned (.int .u8 (gmul a b : Nat)) ∧ w = w' := by
  have ln := low_none
  have la := low_all
  go_enter Try.func8, Try.ntmps8
  go_wp2
  go_loop [0, 1, 5, 6] (fun x y p i => ∃ k : Nat, k ≤ 8 ∧ x = .int .u8 (pw k a : Nat) ∧ y = .int .u8 ((b / 2 ^ k : Nat) : Int) ∧ p = .int .u8 (gm k a b : Nat) ∧ i = .int .i64 (k : Int)) (fun _ _ _ i => 8 - (intOf i).toNat)
  case atStart => exact ⟨0, Nat.zero_le _, rfl, by simp, rfl, rfl⟩
  case round =>
    obtain ⟨k, hk, rfl, rfl, rfl, rfl⟩ := hrel
    by_cases hlt : k < 8
    · have hp := gm_lt k b ha
      have hx := pw_lt k ha
      have hy : b / 2 ^ k < 256 := Nat.lt_of_le_of_lt (Nat.div_le_self _ _) hb
      have hgs : gm (k + 1) a b = gm k a b ^^^ b / 2 ^ k % 2 * pw k a := rfl
      have hps : pw (k + 1) a = xt (pw k a) := rfl
      have hys : b / 2 ^ (k + 1) = b / 2 ^ k / 2 := half_next
      obtain ⟨y, hye⟩ : ∃ y, y = b / 2 ^ k := ⟨_, rfl⟩
      obtain ⟨x, hxe⟩ : ∃ x, x = pw k a := ⟨_, rfl⟩
      obtain ⟨p, hpe⟩ : ∃ p, p = gm k a b := ⟨_, rfl⟩
      rw [← hye] at hy hgs hys ⊢
      rw [← hxe] at hx hps hgs ⊢
      rw [← hpe] at hp hgs ⊢
      have HGS := hide hgs
      have HPS := hide hps
      have HYS := hide hys
      clear hgs hps hys hye hxe hpe
      have o1 := and_one8 y hy
      by_cases hd : y % 2 = 0
      · rw [hd] at o1
        have a1 := and_none8 x hx
        have x1 := xor_none8 p hp
        by_cases hh : x < 128
        · have h7 : (x : Int) / 128 = 0 := by omega
          have HX := hide (xt_walk0 hh)
          go_wp2
          go_round
          case rel => exact ⟨k + 1, by omega, by rw [HPS.out]; exact congrArg _ HX.out, by rw [HYS.out]; go_num, by rw [HGS.out, hd]; simp, by go_num⟩
          case measure => simp [intOf]; omega
        · have h7 : (x : Int) / 128 = 1 := by omega
          have HX := hide (xt_walk1 hx hh)
          go_wp2
          go_round
          case rel => exact ⟨k + 1, by omega, by rw [HPS.out]; exact congrArg _ HX.out, by rw [HYS.out]; go_num, by rw [HGS.out, hd]; simp, by go_num⟩
          case measure => simp [intOf]; omega
      · have hd1 : y % 2 = 1 := by omega
        rw [hd1] at o1
        have a1 := and_all8 x hx
        have x1 := u8_xor_nat p x hp hx
        by_cases hh : x < 128
        · have h7 : (x : Int) / 128 = 0 := by omega
          have HX := hide (xt_walk0 hh)
          go_wp2
          go_round
          case rel => exact ⟨k + 1, by omega, by rw [HPS.out]; exact congrArg _ HX.out, by rw [HYS.out]; go_num, by rw [HGS.out, hd1, Nat.one_mul], by go_num⟩
          case measure => simp [intOf]; omega
        · have h7 : (x : Int) / 128 = 1 := by omega
          have HX := hide (xt_walk1 hx hh)
          go_wp2
          go_round
          case rel => exact ⟨k + 1, by omega, by rw [HPS.out]; exact congrArg _ HX.out, by rw [HYS.out]; go_num, by rw [HGS.out, hd1, Nat.one_mul], by go_num⟩
          case measure => simp [intOf]; omega
    · obtain rfl : k = 8 := by omega
      go_wp2
      go_ret
      exact ⟨rfl, rfl⟩
end Go.Proofs.Ytgmjicfmbljjkaa
