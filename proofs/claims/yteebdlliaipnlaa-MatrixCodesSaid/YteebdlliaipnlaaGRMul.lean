/- The contract of the document's own product: that of the polynomials, and what is left of it. No condition but the widths. -/
import Derived.Test.YteebdlliaipnlaaGByte
namespace Go.Proofs.Yteebdlliaipnlaa
open Go.RowKit
theorem xor_i64 (a b : Nat) (ha : a < 32768) (hb : b < 32768) : bits .xor .i64 (a : Int) (b : Int) = ((a ^^^ b : Nat) : Int) := by
  have hx : a ^^^ b < 32768 := xor_lt15 ha hb
  show IntKind.i64.wrap ((BitVec.ofInt 64 (a : Int) ^^^ BitVec.ofInt 64 (b : Int)).toNat : Int) = _
  rw [BitVec.toNat_xor, ofInt_u64 a (by omega), ofInt_u64 b (by omega), IntKind.wrap_i64]
  omega
theorem and_one_i64 (a : Nat) (ha : a < 32768) : bits .and .i64 (a : Int) 1 = ((a % 2 : Nat) : Int) := by
  show IntKind.i64.wrap ((BitVec.ofInt 64 (a : Int) &&& BitVec.ofInt 64 1).toNat : Int) = _
  have h1 : (BitVec.ofInt 64 1).toNat = 1 := by decide
  rw [BitVec.toNat_and, ofInt_u64 a (by omega), h1, nat_mask1, IntKind.wrap_i64]
  omega
theorem cast_pow (b k : Nat) : (b : Int) / 2 ^ k = ((b / 2 ^ k : Nat) : Int) := by simp
theorem cast_mul_pow (b k : Nat) : (b : Int) * 2 ^ k = ((b * 2 ^ k : Nat) : Int) := by simp
theorem shl_small {a k : Nat} (ha : a < 256) (hk : k < 8) : IntKind.i64.wrap ((a : Int) * 2 ^ k) = ((a * 2 ^ k : Nat) : Int) := by
  have h2 := pow_lt8 hk
  have h3 : a * 2 ^ k ≤ 255 * 128 := Nat.mul_le_mul (by omega) h2
  rw [cast_mul_pow, IntKind.wrap_i64]
  omega
set_option maxHeartbeats 800000 in
theorem rmul_any (a b : Nat) (w : World) (ha : a < 256) (hb : b < 256) :
    Calls Try.prog 40 #[.int .u8 (a : Int), .int .u8 (b : Int)] w fun e w' => e = .returned (.int .u8 (gmul a b : Nat)) ∧ w = w' := by
  go_enter Try.func40, Try.ntmps40
  go_wp2
  go_loop [5, 6] (fun p i => ∃ k : Nat, k ≤ 8 ∧ p = .int .i64 (cl k a b : Nat) ∧ i = .int .i64 (k : Int)) (fun _ i => 8 - (intOf i).toNat)
  case atStart => exact ⟨0, Nat.zero_le _, rfl, rfl⟩
  case round =>
    obtain ⟨k, hk, rfl, rfl⟩ := hrel
    by_cases hlt : k < 8
    · have hp := cl_lt b ha k (by omega)
      have hy : b / 2 ^ k < 256 := Nat.lt_of_le_of_lt (Nat.div_le_self _ _) hb
      have hcs : cl (k + 1) a b = cl k a b ^^^ b / 2 ^ k % 2 * (a * 2 ^ k) := rfl
      have hsh := shl_small ha hlt
      have hz : a * 2 ^ k < 32768 := by
        have h2 := pow_lt8 hlt
        have h3 : a * 2 ^ k ≤ 255 * 128 := Nat.mul_le_mul (by omega) h2
        omega
      have hb' := cast_pow b k
      obtain ⟨y, hye⟩ : ∃ y, y = b / 2 ^ k := ⟨_, rfl⟩
      obtain ⟨z, hze⟩ : ∃ z, z = a * 2 ^ k := ⟨_, rfl⟩
      obtain ⟨p, hpe⟩ : ∃ p, p = cl k a b := ⟨_, rfl⟩
      rw [← hye] at hy hcs hb'
      rw [← hze] at hcs hsh hz
      rw [← hpe] at hp hcs ⊢
      have HCS := hide hcs
      clear hcs hye hze hpe
      have o1 := and_one8 y hy
      by_cases hd : y % 2 = 0
      · rw [hd] at o1
        go_wp2
        go_round
        case rel => exact ⟨k + 1, by omega, by rw [HCS.out, hd]; simp, by go_num⟩
        case measure => simp [intOf]; omega
      · have hd1 : y % 2 = 1 := by omega
        rw [hd1] at o1
        have x1 := xor_i64 p z hp hz
        go_wp2
        go_round
        case rel => exact ⟨k + 1, by omega, by rw [HCS.out, hd1, Nat.one_mul], by go_num⟩
        case measure => simp [intOf]; omega
    · obtain rfl : k = 8 := by omega
      have hq := cl_lt b ha 8 (Nat.le_refl _)
      have hfin := red_cl b ha 8 (Nat.le_refl _)
      obtain ⟨q, hqe⟩ : ∃ q, q = cl 8 a b := ⟨_, rfl⟩
      rw [← hqe] at hq hfin ⊢
      have HF := hide hfin
      clear hfin hqe hlt hk
      go_wp2
      go_loop [5, 7] (fun p i => ∃ k j : Nat, k + j = 14 ∧ 7 ≤ j ∧ p = .int .i64 (red k q : Nat) ∧ i = .int .i64 (j : Int)) (fun _ i => (intOf i).toNat)
      case atStart => exact ⟨0, 14, rfl, by omega, rfl, rfl⟩
      case round =>
        obtain ⟨k, j, hkj, hj, rfl, rfl⟩ := hrel
        have hp := red_lt hq k (by omega)
        by_cases hlt : 7 < j
        · obtain ⟨m, rfl⟩ : ∃ m, j = m + 8 := ⟨j - 8, by omega⟩
          have hrs : red (k + 1) q = red k q ^^^ red k q / 2 ^ (m + 8) % 2 * (285 * 2 ^ m) := by
            show red1 (14 - k) (red k q) = _
            unfold red1
            have e1 : 14 - k = m + 8 := by omega
            rw [e1, Nat.add_sub_cancel]
          have h2 : 2 ^ m ≤ 64 := by
            have : ∀ k < 7, 2 ^ k ≤ 64 := by decide
            exact this m (by omega)
          have hz : 285 * 2 ^ m < 32768 := by omega
          have hm : ((m + 8 : Nat) : Int) - 8 = (m : Int) := by omega
          have hm2 : (m : Int) + 8 - 8 = (m : Int) := by omega
          have hsh : IntKind.i64.wrap (285 * 2 ^ m) = ((285 * 2 ^ m : Nat) : Int) := by
            have : (285 : Int) * 2 ^ m = ((285 * 2 ^ m : Nat) : Int) := by simp
            rw [this, IntKind.wrap_i64]
            omega
          have hy : red k q / 2 ^ (m + 8) < 32768 := Nat.lt_of_le_of_lt (Nat.div_le_self _ _) hp
          obtain ⟨p, hpe⟩ : ∃ p, p = red k q := ⟨_, rfl⟩
          rw [← hpe] at hp hrs hy ⊢
          have hb' := cast_pow p (m + 8)
          obtain ⟨y, hye⟩ : ∃ y, y = p / 2 ^ (m + 8) := ⟨_, rfl⟩
          obtain ⟨z, hze⟩ : ∃ z, z = 285 * 2 ^ m := ⟨_, rfl⟩
          rw [← hye] at hy hrs hb'
          rw [← hze] at hrs hsh hz
          have HRS := hide hrs
          clear hrs hye hze hpe h2
          have o1 := and_one_i64 y hy
          by_cases hd : y % 2 = 0
          · rw [hd] at o1
            go_wp2
            go_round
            case rel => exact ⟨k + 1, m + 7, by omega, by omega, by rw [HRS.out, hd]; simp, by go_num⟩
            case measure => simp [intOf]; omega
          · have hd1 : y % 2 = 1 := by omega
            rw [hd1] at o1
            have x1 := xor_i64 p z hp hz
            go_wp2
            go_round
            case rel => exact ⟨k + 1, m + 7, by omega, by omega, by rw [HRS.out, hd1, Nat.one_mul], by go_num⟩
            case measure => simp [intOf]; omega
        · obtain rfl : j = 7 := by omega
          obtain rfl : k = 7 := by omega
          have hl := gm_lt 8 b ha
          go_wp2
          go_ret
          rw [HF.out]
          refine ⟨ret_int ?_, rfl⟩
          show _ = ((gm 8 a b : Nat) : Int)
          omega
end Go.Proofs.Yteebdlliaipnlaa
