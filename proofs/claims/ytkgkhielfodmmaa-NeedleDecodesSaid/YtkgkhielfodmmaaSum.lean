/- The contract of bits.Sum: of any bytes it is the CRC, reckoned digit by digit. Condition: no row is longer than a slice may be. -/
import Derived.Test.YtkgkhielfodmmaaApp
namespace Go.Proofs.Ytkgkhielfodmmaa
open Go.RowKit
def crcStep (s : Nat) : Nat := if s % 2 = 1 then s / 2 ^^^ 3988292384 else s / 2
def crcB (s : Nat) : Nat → Nat
  | 0 => s
  | k + 1 => crcStep (crcB s k)
def crcF (s : Nat) (xs : List Nat) : Nat := xs.foldl (fun s c => crcB (s ^^^ c) 8) s
def sumS (xs : List Nat) : Nat := 4294967295 - crcF 4294967295 xs
theorem xor_lt32 {a b : Nat} (ha : a < 4294967296) (hb : b < 4294967296) : a ^^^ b < 4294967296 := Nat.xor_lt_two_pow (n := 32) ha hb
theorem crcStep_lt {s : Nat} (h : s < 4294967296) : crcStep s < 4294967296 := by
  unfold crcStep
  split
  · exact xor_lt32 (by omega) (by decide)
  · omega
theorem crcB_lt {s : Nat} (h : s < 4294967296) : ∀ k, crcB s k < 4294967296
  | 0 => h
  | k + 1 => crcStep_lt (crcB_lt h k)
theorem crcF_lt {s : Nat} (h : s < 4294967296) {xs : List Nat} (hx : ∀ x ∈ xs, x < 256) : crcF s xs < 4294967296 := by
  unfold crcF
  induction xs generalizing s with
  | nil => exact h
  | cons x xs ih =>
    rw [List.foldl_cons]
    exact ih (crcB_lt (xor_lt32 h (by have := hx x (by simp); omega)) 8) (fun y hy => hx y (by simp [hy]))
theorem crcF_snoc (s : Nat) (xs : List Nat) (k : Nat) (h : k < xs.length) : crcF s (xs.take (k + 1)) = crcB (crcF s (xs.take k) ^^^ xs.getD k 0) 8 := by
  unfold crcF
  rw [List.take_succ_eq_append_getElem h, List.foldl_append]
  simp [h]
theorem sumS_known : sumS [49, 50, 51, 52, 53, 54, 55, 56, 57] = 3421780262 := by decide +kernel
theorem and_one32 (x : Nat) (hx : x < 4294967296) : bits .and .u32 (x : Int) 1 = ((x % 2 : Nat) : Int) := by
  rw [u32_and _ _ (by omega) (by omega) (by decide) (by decide)]
  have : (1 : Int).toNat = 1 := rfl
  rw [this, nat_mask1, Int.toNat_natCast]
theorem xor32 (a b : Nat) (ha : a < 4294967296) (hb : b < 4294967296) : bits .xor .u32 (a : Int) (b : Int) = ((a ^^^ b : Nat) : Int) := u32_xor_nat a b ha hb
theorem half_poly (t : Nat) (ht : t < 4294967296) (h : t % 2 = 1) : bits .xor .u32 ((t : Int) / 2) 3988292384 = (crcStep t : Nat) := by
  unfold crcStep
  rw [if_pos h, ← xor32 (t / 2) 3988292384 (by omega) (by decide)]
  simp
theorem half_none (t : Nat) (ht : t < 4294967296) (h : t % 2 = 0) : bits .xor .u32 ((t : Int) / 2) 0 = (crcStep t : Nat) := by
  unfold crcStep
  rw [if_neg (by omega)]
  have := xor32 (t / 2) 0 (by omega) (by decide)
  simpa using this
theorem not32 (a : Nat) (ha : a < 4294967296) : bits .xor .u32 IntKind.u32.max (a : Int) = ((4294967295 - a : Nat) : Int) := by
  show IntKind.u32.wrap ((BitVec.ofInt 32 IntKind.u32.max ^^^ BitVec.ofInt 32 (a : Int)).toNat : Int) = _
  have h1 : BitVec.ofInt 32 IntKind.u32.max = BitVec.allOnes 32 := by decide
  rw [h1, BitVec.allOnes_xor, BitVec.toNat_not, ofInt_u32 a (by omega), IntKind.wrap_u32]
  omega
theorem poly_none : bits .and .u32 3988292384 0 = 0 := by decide +kernel
theorem poly_all : bits .and .u32 3988292384 4294967295 = 3988292384 := by decide +kernel
set_option maxHeartbeats 400000 in
theorem sum_any (A : Option Addr) (n ca : Nat) (xs : List Nat) (w : World) (hA : Rd w A xs) (hn : n = xs.length) (hb : ∀ x ∈ xs, x < 256) (ln : n ≤ 9223372036854775807) :
    Calls Try.prog 32 #[.slice A n ca] w fun e w' => e = .returned (.int .u32 (sumS xs : Nat)) ∧ w = w' := by
  have HN := hide hn
  clear hn
  have pn := poly_none
  have pa := poly_all
  go_enter Try.func32, Try.ntmps32
  go_wp2
  go_loop [3, 8] (fun s i => ∃ k : Nat, k ≤ n ∧ i = .int .i64 (k : Int) ∧ s = .int .u32 (crcF 4294967295 (xs.take k) : Nat)) (fun _ i => n - (intOf i).toNat)
  case atStart => exact ⟨0, Nat.zero_le _, rfl, rfl⟩
  case round =>
    obtain ⟨k, hk, rfl, rfl⟩ := hrel
    have hs := crcF_lt (s := 4294967295) (by decide) (xs := xs.take k) (fun x hx => hb x (List.mem_of_mem_take hx))
    by_cases hlt : k < n
    · obtain ⟨b1, o1, rfl, c1⟩ := hA (by intro e; rw [HN.out, e] at hlt; simp at hlt)
      have k1 := c1 k (by rw [← HN.out]; exact hlt)
      have hsn := crcF_snoc 4294967295 xs k (by rw [← HN.out]; exact hlt)
      have hx : xs.getD k 0 < 256 := by
        have hl : k < xs.length := by rw [← HN.out]; exact hlt
        have : xs.getD k 0 = xs[k] := by simp [hl]
        rw [this]; exact hb _ (List.getElem_mem hl)
      obtain ⟨x, hxe⟩ : ∃ x, x = xs.getD k 0 := ⟨_, rfl⟩
      obtain ⟨s, hse⟩ : ∃ s, s = crcF 4294967295 (xs.take k) := ⟨_, rfl⟩
      rw [← hxe] at k1 hx hsn
      rw [← hse] at hs hsn ⊢
      have HSN := hide hsn
      clear hsn hxe hse c1 hA
      have hxor := xor32 s x hs (by omega)
      have hs2 := xor_lt32 hs (show x < 4294967296 by omega)
      go_wp2
      go_loop [3, 16] (fun t i => ∃ j : Nat, j ≤ 8 ∧ i = .int .i64 (j : Int) ∧ t = .int .u32 (crcB (s ^^^ x) j : Nat)) (fun _ i => 8 - (intOf i).toNat)
      case atStart => exact ⟨0, Nat.zero_le _, rfl, rfl⟩
      case round =>
        obtain ⟨j, hj, rfl, rfl⟩ := hrel
        have ht := crcB_lt hs2 j
        by_cases hj8 : j < 8
        · have hst : crcB (s ^^^ x) (j + 1) = crcStep (crcB (s ^^^ x) j) := rfl
          obtain ⟨t, hte⟩ : ∃ t, t = crcB (s ^^^ x) j := ⟨_, rfl⟩
          rw [← hte] at ht hst ⊢
          have HST := hide hst
          clear hst hte
          have h1 := and_one32 t ht
          by_cases hodd : t % 2 = 1
          · rw [hodd] at h1
            have h2 := half_poly t ht hodd
            go_wp2
            go_round
            case rel => exact ⟨j + 1, by omega, by go_num, by rw [HST.out]⟩
            case measure => simp [intOf]; omega
          · have h0 : t % 2 = 0 := by omega
            rw [h0] at h1
            have h2 := half_none t ht h0
            go_wp2
            go_round
            case rel => exact ⟨j + 1, by omega, by go_num, by rw [HST.out]⟩
            case measure => simp [intOf]; omega
        · obtain rfl : j = 8 := by omega
          go_wp2
          go_round
          case rel => exact ⟨k + 1, by omega, by go_num, by rw [HSN.out]⟩
          case measure => simp [intOf]; omega
    · go_wp2
      go_ret
      have he : xs.take k = xs := List.take_of_length_le (by rw [← HN.out]; omega)
      rw [he] at hs
      rw [he]
      exact ⟨ret_int (by unfold sumS; exact not32 _ hs), rfl⟩
end Go.Proofs.Ytkgkhielfodmmaa
