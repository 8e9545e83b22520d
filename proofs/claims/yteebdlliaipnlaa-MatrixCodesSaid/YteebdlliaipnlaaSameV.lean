/- The contract of the law's own comparison of rows of rows: rows that are the same are found so. Condition: no row is longer than a slice may be. -/
import Derived.Test.YteebdlliaipnlaaSame
import Derived.Test.YteebdlliaipnlaaRowsV
namespace Go.Proofs.Yteebdlliaipnlaa
open Go.RowKit
set_option maxHeartbeats 800000 in
theorem rows_any (A B : Option Addr) (n ca cb : Nat) (vs us : List Value) (xss : List (List Nat)) (w : World) (hA : RdV w A vs) (hB : RdV w B us) (hn : vs.length = n) (hv : IsBs w vs xss) (hu : IsBs w us xss)
    (ln : n ≤ 9223372036854775807) :
    Calls Try.prog 11 #[.slice A n ca, .slice B n cb] w fun e w' => e = .returned (.bool true) ∧ ∃ d, w' = w.drewN d := by
  have HN := hide hn
  have HM : Hid (us.length = n) := by unfold Hid; rw [hu.1, ← hv.1, hn]
  have HA := hide hA
  have HB := hide hB
  have HV := hide hv
  have HU := hide hu
  clear hn hA hB hv hu
  have hne0 : ((n : Int) != (n : Int)) = false := by simp
  go_enter Try.func11, Try.ntmps11
  go_wp2_with fail
  go_loopw [5] (fun i wr => ∃ k d : Nat, k ≤ n ∧ i = .int .i64 (k : Int) ∧ wr = w.drewN d) (fun i _ => n - (intOf i).toNat)
  case atStart => exact ⟨0, 0, Nat.zero_le _, rfl, rfl⟩
  case round =>
    obtain ⟨k, d, hk, rfl, rfl⟩ := hrel
    by_cases hlt : k < n
    · obtain ⟨b1, o1, rfl, c1⟩ := HA.out (by intro e; have := HN.out; rw [e] at this; simp at this; omega)
      obtain ⟨b2, o2, rfl, c2⟩ := HB.out (by intro e; have := HM.out; rw [e] at this; simp at this; omega)
      have k1 := c1 k (by rw [HN.out]; exact hlt)
      have k2 := c2 k (by rw [HM.out]; exact hlt)
      obtain ⟨A1, d1, e1, r1, _, l1, m1⟩ := HV.out.2 k (by rw [HN.out]; exact hlt)
      obtain ⟨A2, d2, e2, r2, _, l2, m2⟩ := HU.out.2 k (by rw [HM.out]; exact hlt)
      rw [e1] at k1
      rw [e2] at k2
      obtain ⟨ys, hys⟩ : ∃ ys, ys = xss.getD k [] := ⟨_, rfl⟩
      rw [← hys] at k1 k2 r1 r2 l1 l2
      obtain ⟨l, hl⟩ : ∃ l, l = ys.length := ⟨_, rfl⟩
      rw [← hl] at k1 k2 l1 l2
      have HL := hide hl
      obtain ⟨W, hW⟩ : ∃ W, W = w.drewN d := ⟨_, rfl⟩
      have k1 : W.cell? ⟨b1, o1 + k, none⟩ = some (.slice A1 l d1) := by rw [hW]; exact k1
      have k2 : W.cell? ⟨b2, o2 + k, none⟩ = some (.slice A2 l d2) := by rw [hW]; exact k2
      have R1 : Hid (Rd W A1 ys) := by rw [hW]; exact r1.drewN d
      have R2 : Hid (Rd W A2 ys) := by rw [hW]; exact r2.drewN d
      rw [← hW]
      have HW := hide hW
      clear c1 c2 e1 e2 hys hl r1 r2 HA HB hW
      go_wp2_with fail
      go_quiet ((go_at_call 26; refine Calls.quiet_of (v := .bool true) ?_; refine (same_any A1 A2 l l d1 d2 ys ys _ (R1.out.drewN _) (R2.out.drewN _) HL.out HL.out (by omega) (by omega)).mono ?_; rintro e w' ⟨rfl, m, rfl⟩; exact ⟨by rw [decide_eq_true rfl], m, rfl⟩))
      go_wp2_with fail
      go_roundw
      case rel => exact ⟨k + 1, d + _, by omega, by go_num, by rw [HW.out, World.drewN_drewN]⟩
      case measure => simp [intOf]; omega
    · go_wp2_with fail
      go_ret
      exact ⟨rfl, _, rfl⟩
end Go.Proofs.Yteebdlliaipnlaa
