/- The contract of the document's own inverse in the field (a search). No condition but the widths. -/
import Derived.Test.YteebdlliaipnlaaGRMul
namespace Go.Proofs.Yteebdlliaipnlaa
open Go.RowKit
theorem ginv_of {a i : Nat} (ha : a < 256) (hi : i < 256) (h : gmul a i = 1) : i = ginv a := by
  have h0 : a ≠ 0 := by
    rintro rfl
    rw [zero_gmul] at h
    cases h
  have h1 := gmul_inv ha h0
  have h2 : gmul (ginv a) (gmul a i) = gmul (ginv a) 1 := by rw [h]
  rw [gmul_assoc (ginv_lt ha) ha hi, gmul_comm (ginv_lt ha) ha, h1, one_gmul hi, gmul_one (ginv_lt ha)] at h2
  exact h2
theorem ginv_ne {a : Nat} (ha : a < 256) (h0 : a ≠ 0) : ginv a ≠ 0 := by
  intro e
  have h1 := gmul_inv ha h0
  rw [e, gmul_zero] at h1
  cases h1
set_option maxHeartbeats 800000 in
theorem rinv_some (a : Nat) (w : World) (ha : a < 256) (h0 : a ≠ 0) :
    Calls Try.prog 34 #[.int .u8 (a : Int)] w fun e w' => e = .returned (.int .u8 (ginv a : Nat)) ∧ w = w' := by
  obtain ⟨r, hr⟩ : ∃ r, r = ginv a := ⟨_, rfl⟩
  have HR := hide hr
  have HRL := hide (show r < 256 ∧ r ≠ 0 ∧ gmul a r = 1 by rw [hr]; exact ⟨ginv_lt ha, ginv_ne ha h0, gmul_inv ha h0⟩)
  rw [← hr]
  clear hr
  go_enter Try.func34, Try.ntmps34
  go_wp2_with fail
  go_loop [3] (fun i => ∃ k : Nat, 1 ≤ k ∧ k ≤ r ∧ i = .int .i64 (k : Int)) (fun i => 256 - (intOf i).toNat)
  case atStart => exact ⟨1, Nat.le_refl _, by have := HRL.out.2.1; omega, rfl⟩
  case round =>
    obtain ⟨k, hk1, hk, rfl⟩ := hrel
    have hk8 : k < 256 := by have := HRL.out.1; omega
    have hw : IntKind.u8.wrap (k : Int) = (k : Int) := by rw [IntKind.wrap_u8]; omega
    have hlt : (k : Int) < 256 := by omega
    by_cases e : gmul a k = 1
    · obtain rfl : k = r := by rw [HR.out]; exact ginv_of ha hk8 e
      have HM := hide (rmul_any a k w ha hk8)
      rw [e] at HM
      clear e
      go_wp2_with fail
      refine HM.out.mono ?_
      rintro e w1 ⟨rfl, rfl⟩
      go_wp2_with fail
      go_ret
      exact ⟨ret_int (by omega), rfl⟩
    · have HM := hide (rmul_any a k w ha hk8)
      obtain ⟨z, hz⟩ : ∃ z, z = gmul a k := ⟨_, rfl⟩
      rw [← hz] at HM e
      have hne : ((z : Int) == 1) = false := by simp; omega
      have HK := hide (show k < r by
        rcases Nat.lt_or_ge k r with h | h
        · exact h
        · exact absurd (by rw [hz, show k = r by omega]; exact HRL.out.2.2) e)
      clear e hz
      go_wp2_with fail
      refine HM.out.mono ?_
      rintro e w1 ⟨rfl, rfl⟩
      go_wp2_with fail
      go_round
      case rel => exact ⟨k + 1, by omega, HK.out, by go_num⟩
      case measure => simp [intOf]; omega
end Go.Proofs.Yteebdlliaipnlaa
