/- The contract of the document's own Dot. Condition: there are at most 1000000 bytes. -/
import Derived.Test.YteebdlliaipnlaaGPart
import Derived.Test.YteebdlliaipnlaaGRMul
namespace Go.Proofs.Yteebdlliaipnlaa
open Go.RowKit
set_option maxHeartbeats 1600000 in
theorem rdot_any (A B : Option Addr) (n c d : Nat) (xs ys : List Nat) (w : World) (hA : Rd w A xs) (hB : Rd w B ys) (hn : xs.length = n) (hm : ys.length = n) (hb : ∀ x ∈ xs, x < 256) (hc : ∀ y ∈ ys, y < 256) (h3 : n ≤ 1000000) :
    Calls Try.prog 24 #[.slice A n c, .slice B n d] w fun e w' => e = .returned (.tuple #[.int .u8 (dotS xs ys n : Nat), .int .i64 0]) ∧ ∃ q, w' = w.drewN q := by
  have HA := hide hA
  have HN := hide hn
  have HB := hide hb
  have HA2 := hide hB
  have HN2 := hide hm
  have HB2 := hide hc
  have hne0 : ((n : Int) != (n : Int)) = false := by simp
  clear hA hn hb hB hm hc
  go_enter Try.func24, Try.ntmps24
  go_wp2_with fail
  go_loopw [6, 7] (fun s i wr => ∃ k q : Nat, k ≤ n ∧ i = .int .i64 (k : Int) ∧ s = .int .u8 (dotS xs ys k : Nat) ∧ wr = w.drewN q) (fun _ i _ => n - (intOf i).toNat)
  case atStart => exact ⟨0, 0, Nat.zero_le _, rfl, rfl, rfl⟩
  case round =>
    obtain ⟨k, q, hk, rfl, rfl, rfl⟩ := hrel
    by_cases hlt : k < n
    · obtain ⟨b', off', rfl, ck, hx⟩ := at_place (HA.out.drewN q) HN.out HB.out k hlt
      obtain ⟨b2', off2', rfl, ck2, hy⟩ := at_place (HA2.out.drewN q) HN2.out HB2.out k hlt
      have hs := dotS_lt (ys := ys) HB.out k
      have hds : dotS xs ys (k + 1) = dotS xs ys k ^^^ gmul (xs.getD k 0) (ys.getD k 0) := rfl
      obtain ⟨x, hxe⟩ : ∃ x, x = xs.getD k 0 := ⟨_, rfl⟩
      obtain ⟨y, hye⟩ : ∃ y, y = ys.getD k 0 := ⟨_, rfl⟩
      obtain ⟨s, hse⟩ : ∃ s, s = dotS xs ys k := ⟨_, rfl⟩
      rw [← hxe] at ck hx hds
      rw [← hye] at ck2 hy hds
      rw [← hse] at hs hds ⊢
      have hxo := u8_xor_nat s (gmul x y) hs (gmul_lt y hx)
      rw [← hds] at hxo
      obtain ⟨W, hW⟩ : ∃ W, W = w.drewN q := ⟨_, rfl⟩
      rw [← hW] at ck ck2 ⊢
      have HW := hide hW
      clear hds hxe hye hse hW
      go_wp2_with fail
      go_quiet ((go_at_call 40; refine Calls.quiet_of (v := .int .u8 (gmul x y : Nat)) ?_; refine (rmul_any x y _ hx hy).mono ?_; rintro e w' ⟨rfl, rfl⟩; exact ⟨rfl, 0, rfl⟩))
      go_wp2_with fail
      go_roundw
      case rel => exact ⟨k + 1, q + _, by omega, by go_num, rfl, by rw [HW.out, World.drewN_drewN]⟩
      case measure => simp [intOf]; omega
    · obtain rfl : k = n := by omega
      go_wp2_with fail
      go_ret2
      exact ⟨rfl, _, rfl⟩
theorem rdot_unlike (A B : Option Addr) (n m c d : Nat) (w : World) (h : n ≠ m) :
    Calls Try.prog 24 #[.slice A n c, .slice B m d] w fun e w' => e = .returned (.tuple #[.int .u8 0, .int .i64 1]) ∧ w = w' := by
  have hne0 : ((n : Int) != (m : Int)) = true := by simp; omega
  go_enter Try.func24, Try.ntmps24
  go_wp2_with fail
  go_ret2
  exact ⟨rfl, rfl⟩
end Go.Proofs.Yteebdlliaipnlaa
