/- The contract of gf.Dot. Condition: there are at most 1000000 bytes. -/
import Derived.Test.YteebdlliaipnlaaGPart
import Derived.Test.YteebdlliaipnlaaGMul
namespace Go.Proofs.Yteebdlliaipnlaa
open Go.RowKit
set_option maxHeartbeats 1600000 in
theorem dot_any (A B : Option Addr) (n c d : Nat) (xs ys : List Nat) (w : World) (hA : Rd w A xs) (hB : Rd w B ys) (hn : xs.length = n) (hm : ys.length = n) (hb : ∀ x ∈ xs, x < 256) (hc : ∀ y ∈ ys, y < 256) (h3 : n ≤ 1000000) :
    Calls Try.prog 23 #[.slice A n c, .slice B n d] w fun e w' => e = .returned (.tuple #[.int .u8 (dotS xs ys n : Nat), .int .i64 0]) ∧ w = w' := by
  have HA := hide hA
  have HN := hide hn
  have HB := hide hb
  have HA2 := hide hB
  have HN2 := hide hm
  have HB2 := hide hc
  have hne0 : ((n : Int) != (n : Int)) = false := by simp
  clear hA hn hb hB hm hc
  go_enter Try.func23, Try.ntmps23
  go_wp2_with fail
  go_loop [6, 16] (fun s i => ∃ k : Nat, k ≤ n ∧ i = .int .i64 (k : Int) ∧ s = .int .u8 (dotS xs ys k : Nat)) (fun _ i => n - (intOf i).toNat)
  case atStart => exact ⟨0, Nat.zero_le _, rfl, rfl⟩
  case round =>
    obtain ⟨k, hk, rfl, rfl⟩ := hrel
    by_cases hlt : k < n
    · obtain ⟨b', off', rfl, ck, hx⟩ := at_place HA.out HN.out HB.out k hlt
      obtain ⟨b2', off2', rfl, ck2, hy⟩ := at_place HA2.out HN2.out HB2.out k hlt
      have hs := dotS_lt (ys := ys) HB.out k
      have hds : dotS xs ys (k + 1) = dotS xs ys k ^^^ gmul (xs.getD k 0) (ys.getD k 0) := rfl
      obtain ⟨x, hxe⟩ : ∃ x, x = xs.getD k 0 := ⟨_, rfl⟩
      obtain ⟨y, hye⟩ : ∃ y, y = ys.getD k 0 := ⟨_, rfl⟩
      obtain ⟨s, hse⟩ : ∃ s, s = dotS xs ys k := ⟨_, rfl⟩
      rw [← hxe] at ck hx hds
      rw [← hye] at ck2 hy hds
      rw [← hse] at hs hds ⊢
      have hxo := u8_xor_nat s (gmul x y) hs (gmul_lt y hx)
      rw [← hds] at hxo
      clear hds hxe hye hse
      go_wp2_with fail
      refine (mul_any x y _ hx hy).mono ?_
      rintro e w1 ⟨rfl, rfl⟩
      go_wp2_with fail
      go_round
      case rel => exact ⟨k + 1, by omega, by go_num, rfl⟩
      case measure => simp [intOf]; omega
    · obtain rfl : k = n := by omega
      go_wp2_with fail
      go_ret2
      exact ⟨rfl, rfl⟩
theorem dot_unlike (A B : Option Addr) (n m c d : Nat) (w : World) (h : n ≠ m) :
    Calls Try.prog 23 #[.slice A n c, .slice B m d] w fun e w' => e = .returned (.tuple #[.int .u8 0, .int .i64 1]) ∧ w = w' := by
  have hne0 : ((n : Int) != (m : Int)) = true := by simp; omega
  go_enter Try.func23, Try.ntmps23
  go_wp2_with fail
  go_ret2
  exact ⟨rfl, rfl⟩
end Go.Proofs.Yteebdlliaipnlaa
