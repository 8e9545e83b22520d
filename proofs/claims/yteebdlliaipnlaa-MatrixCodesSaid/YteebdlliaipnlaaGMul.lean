/- The contract of gf.Mul: the product of the field. No condition but the widths. -/
import Derived.Test.YteebdlliaipnlaaGByte
namespace Go.Proofs.Yteebdlliaipnlaa
open Go.RowKit
set_option maxHeartbeats 800000 in
theorem mul_any (a b : Nat) (w : World) (ha : a < 256) (hb : b < 256) :
    Calls Try.prog 39 #[.int .u8 (a : Int), .int .u8 (b : Int)] w fun e w' => e = .returned (.int .u8 (gmul a b : Nat)) ∧ w = w' := by
  have ln := low_none
  have la := low_all
  go_enter Try.func39, Try.ntmps39
  go_wp2
  go_loop [0, 1, 5, 6] (fun x y p i => ∃ k : Nat, k ≤ 8 ∧ x = .int .u8 (pw k a : Nat) ∧ y = .int .u8 ((b / 2 ^ k : Nat) : Int) ∧ p = .int .u8 (gm k a b : Nat) ∧ i = .int .i64 (k : Int)) (fun _ _ _ i => 8 - (intOf i).toNat)
  case atStart => exact ⟨0, Nat.zero_le _, rfl, by simp, rfl, rfl⟩
  case round =>
    obtain ⟨k, hk, rfl, rfl, rfl, rfl⟩ := hrel
    by_cases hlt : k < 8
    · have hp := gm_lt k b ha
      have hx := pw_lt k ha
      have hy : b / 2 ^ k < 256 := Nat.lt_of_le_of_lt (Nat.div_le_self _ _) hb
      have hgs : gm (k + 1) a b = gm k a b ^^^ b / 2 ^ k % 2 * pw k a := rfl
      have hps : pw (k + 1) a = xt (pw k a) := rfl
      have hys : b / 2 ^ (k + 1) = b / 2 ^ k / 2 := half_next
      obtain ⟨y, hye⟩ : ∃ y, y = b / 2 ^ k := ⟨_, rfl⟩
      obtain ⟨x, hxe⟩ : ∃ x, x = pw k a := ⟨_, rfl⟩
      obtain ⟨p, hpe⟩ : ∃ p, p = gm k a b := ⟨_, rfl⟩
      rw [← hye] at hy hgs hys ⊢
      rw [← hxe] at hx hps hgs ⊢
      rw [← hpe] at hp hgs ⊢
      have HGS := hide hgs
      have HPS := hide hps
      have HYS := hide hys
      clear hgs hps hys hye hxe hpe
      have o1 := and_one8 y hy
      by_cases hd : y % 2 = 0
      · rw [hd] at o1
        have a1 := and_none8 x hx
        have x1 := xor_none8 p hp
        by_cases hh : x < 128
        · have h7 : (x : Int) / 128 = 0 := by omega
          have HX := hide (xt_walk0 hh)
          go_wp2
          go_round
          case rel => exact ⟨k + 1, by omega, by rw [HPS.out]; exact congrArg _ HX.out, by rw [HYS.out]; go_num, by rw [HGS.out, hd]; simp, by go_num⟩
          case measure => simp [intOf]; omega
        · have h7 : (x : Int) / 128 = 1 := by omega
          have HX := hide (xt_walk1 hx hh)
          go_wp2
          go_round
          case rel => exact ⟨k + 1, by omega, by rw [HPS.out]; exact congrArg _ HX.out, by rw [HYS.out]; go_num, by rw [HGS.out, hd]; simp, by go_num⟩
          case measure => simp [intOf]; omega
      · have hd1 : y % 2 = 1 := by omega
        rw [hd1] at o1
        have a1 := and_all8 x hx
        have x1 := u8_xor_nat p x hp hx
        by_cases hh : x < 128
        · have h7 : (x : Int) / 128 = 0 := by omega
          have HX := hide (xt_walk0 hh)
          go_wp2
          go_round
          case rel => exact ⟨k + 1, by omega, by rw [HPS.out]; exact congrArg _ HX.out, by rw [HYS.out]; go_num, by rw [HGS.out, hd1, Nat.one_mul], by go_num⟩
          case measure => simp [intOf]; omega
        · have h7 : (x : Int) / 128 = 1 := by omega
          have HX := hide (xt_walk1 hx hh)
          go_wp2
          go_round
          case rel => exact ⟨k + 1, by omega, by rw [HPS.out]; exact congrArg _ HX.out, by rw [HYS.out]; go_num, by rw [HGS.out, hd1, Nat.one_mul], by go_num⟩
          case measure => simp [intOf]; omega
    · obtain rfl : k = 8 := by omega
      go_wp2
      go_ret
      exact ⟨rfl, rfl⟩
end Go.Proofs.Yteebdlliaipnlaa
