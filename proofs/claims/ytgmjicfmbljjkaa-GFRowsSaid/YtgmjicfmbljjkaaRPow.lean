/- The contracts of the document's own powers, and of what the law knows. No condition but the widths. -/
import Derived.Test.YtgmjicfmbljjkaaPow
namespace Go.Proofs.Ytgmjicfmbljjkaa
open Go.RowKit
theorem rem_down {n : Int} (h : n.tmod 255 < 0) : ((n % 255).toNat : Int) = n.tmod 255 + 255 := by
  rcases tmod_cases n 255 with ⟨_, e⟩ | ⟨_, e⟩ <;> rw [e] at h ⊢ <;> omega
theorem rem_up {n : Int} (h : ¬ n.tmod 255 < 0) : ((n % 255).toNat : Int) = n.tmod 255 := by
  rcases tmod_cases n 255 with ⟨_, e⟩ | ⟨_, e⟩ <;> rw [e] at h ⊢ <;> omega
theorem rpow_zero (n : Int) (w : World) :
    Calls Try.prog 13 #[.int .u8 0, .int .i64 n] w fun e w' => e = .returned (.int .u8 (powS 0 n : Nat)) ∧ w = w' := by
  by_cases h : n = 0
  · subst h
    go_enter Try.func13, Try.ntmps13
    go_wp2
    go_ret
    exact ⟨rfl, rfl⟩
  · have e : powS 0 n = 0 := by unfold powS; rw [if_pos rfl, if_neg h]
    rw [e]
    have hne : (n == 0) = false := by simp [h]
    clear e h
    go_enter Try.func13, Try.ntmps13
    go_wp2
    go_ret
    exact ⟨rfl, rfl⟩
set_option maxHeartbeats 800000 in
theorem rpow_some (a : Nat) (n : Int) (w : World) (ha : a < 256) (h0 : a ≠ 0) :
    Calls Try.prog 13 #[.int .u8 (a : Int), .int .i64 n] w fun e w' => e = .returned (.int .u8 (powS a n : Nat)) ∧ w = w' := by
  have e : powS a n = gpow a (n % 255).toNat := by unfold powS; rw [if_neg h0]
  rw [e]
  have hne : ((a : Int) == 0) = false := by simp; omega
  have hk : (n % 255).toNat < 255 := by omega
  have go : ∀ m : Int, n.tmod 255 = m → ((m < 0 ∧ ((n % 255).toNat : Int) = m + 255) ∨ (0 ≤ m ∧ ((n % 255).toNat : Int) = m)) → Calls Try.prog 13 #[.int .u8 (a : Int), .int .i64 n] w fun e w' => e = .returned (.int .u8 (gpow a (n % 255).toNat : Nat)) ∧ w = w' := by
    intro m hm hc
    obtain ⟨k, hke⟩ : ∃ k, k = (n % 255).toNat := ⟨_, rfl⟩
    rw [← hke] at hc hk ⊢
    clear hke e h0
    rcases hc with ⟨hneg, hke⟩ | ⟨hpos, hke⟩
    · obtain rfl : m = (k : Int) - 255 := by omega
      have hadd : (k : Int) - 255 + 255 = (k : Int) := by omega
      clear hke
      go_enter Try.func13, Try.ntmps13
      go_wp2
      go_loop [6, 7] (fun p i => ∃ j : Nat, j ≤ k ∧ p = .int .u8 (gpow a j : Nat) ∧ i = .int .i64 (j : Int)) (fun _ i => k - (intOf i).toNat)
      case atStart => exact ⟨0, Nat.zero_le _, rfl, rfl⟩
      case round =>
        obtain ⟨j, hj, rfl, rfl⟩ := hrel
        by_cases hlt : j < k
        · go_wp2_with fail
          refine (rmul_any (gpow a j) a _ (gpow_lt ha j) ha).mono ?_
          rintro e w1 ⟨rfl, rfl⟩
          go_wp2_with fail
          go_round
          case rel => exact ⟨j + 1, by omega, rfl, by go_num⟩
          case measure => simp [intOf]; omega
        · obtain rfl : j = k := by omega
          go_wp2
          go_ret
          exact ⟨rfl, rfl⟩
    · obtain rfl : m = (k : Int) := by omega
      clear hke
      go_enter Try.func13, Try.ntmps13
      go_wp2
      go_loop [6, 7] (fun p i => ∃ j : Nat, j ≤ k ∧ p = .int .u8 (gpow a j : Nat) ∧ i = .int .i64 (j : Int)) (fun _ i => k - (intOf i).toNat)
      case atStart => exact ⟨0, Nat.zero_le _, rfl, rfl⟩
      case round =>
        obtain ⟨j, hj, rfl, rfl⟩ := hrel
        by_cases hlt : j < k
        · go_wp2_with fail
          refine (rmul_any (gpow a j) a _ (gpow_lt ha j) ha).mono ?_
          rintro e w1 ⟨rfl, rfl⟩
          go_wp2_with fail
          go_round
          case rel => exact ⟨j + 1, by omega, rfl, by go_num⟩
          case measure => simp [intOf]; omega
        · obtain rfl : j = k := by omega
          go_wp2
          go_ret
          exact ⟨rfl, rfl⟩
  by_cases h : n.tmod 255 < 0
  · exact go _ rfl (.inl ⟨h, rem_down h⟩)
  · exact go _ rfl (.inr ⟨by omega, rem_up h⟩)
theorem rpow_any (a : Nat) (n : Int) (w : World) (ha : a < 256) :
    Calls Try.prog 13 #[.int .u8 (a : Int), .int .i64 n] w fun e w' => e = .returned (.int .u8 (powS a n : Nat)) ∧ w = w' := by
  by_cases h : a = 0
  · subst h; exact rpow_zero n w
  · exact rpow_some a n w ha h
theorem known_mul : gmul 2 128 = 29 := by decide +kernel
theorem known_inv : ginv 2 = 142 := by decide +kernel
theorem known_pow : powS 2 8 = 29 := by decide +kernel
set_option maxHeartbeats 800000 in
theorem known_any (w : World) :
    Calls Try.prog 10 #[] w fun e w' => e = .returned (.bool true) ∧ w = w' := by
  go_enter Try.func10, Try.ntmps10
  go_wp2_with fail
  refine (inv_some 2 _ (by decide) (by decide)).mono ?_
  rintro e w1 ⟨rfl, rfl⟩
  rw [known_inv]
  go_wp2_with fail
  refine (mul_any 2 128 _ (by decide) (by decide)).mono ?_
  rintro e w1 ⟨rfl, rfl⟩
  rw [known_mul]
  go_wp2_with fail
  refine (pow_any 2 8 _ (by decide) (by decide) (by decide)).mono ?_
  rintro e w1 ⟨rfl, rfl⟩
  rw [known_pow]
  go_wp2_with fail
  go_ret
  exact ⟨rfl, rfl⟩
end Go.Proofs.Ytgmjicfmbljjkaa
