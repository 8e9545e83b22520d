/- The contracts of the document's own Draw and Round. Condition: numbers far below 2 to the 63. -/
import Derived.Test.YtndffjgneapmdaaRCut
import Derived.Test.YtndffjgneapmdaaCrashL
namespace Go.Proofs.Ytndffjgneapmdaa
open Go.RowKit
theorem rdraw_any (z : Int) (draw : Nat) (hz : max z 0 = (draw : Int)) (w : World) :
    Calls Try.prog 44 #[.int .i64 z] w fun e w' => e = .returned (.int .i64 (draw : Int)) ∧ w = w' := by
  have h2 : max 0 z = (draw : Int) := by omega
  go_enter Try.func44, Try.ntmps44
  go_wp2_with fail
  go_ret
  exact ⟨rfl, rfl⟩
theorem rround_any (a b c : Nat) (hc : 0 < c) (hc1 : c ≤ 1099511627776) (w : World) :
    Calls Try.prog 43 #[.int .i64 (a : Int), .int .i64 (b : Int), .int .i64 (c : Int)] w fun e w' => e = .returned (.int .i64 (((a % c + b) % c : Nat) : Int)) ∧ ∃ d, w' = w.drewN d := by
  obtain ⟨q1, hq1⟩ : ∃ q, q = a % c := ⟨_, rfl⟩
  obtain ⟨q2, hq2⟩ : ∃ q, q = b % c := ⟨_, rfl⟩
  obtain ⟨q3, hq3⟩ : ∃ q, q = (q1 + q2) % c := ⟨_, rfl⟩
  have he : (a % c + b) % c = q3 := by
    rw [hq3, hq1, hq2, ← Nat.add_mod, Nat.mod_add_mod]
  rw [he]
  have r1 : (a : Int).tmod (c : Int) = (q1 : Int) := by
    rw [hq1, Int.tmod_eq_emod_of_nonneg (by omega)]
    exact (Int.natCast_emod _ _).symm
  have r2 : (b : Int).tmod (c : Int) = (q2 : Int) := by
    rw [hq2, Int.tmod_eq_emod_of_nonneg (by omega)]
    exact (Int.natCast_emod _ _).symm
  have r3 : ((q1 : Int) + (q2 : Int)).tmod (c : Int) = (q3 : Int) := by
    rw [hq3, Int.tmod_eq_emod_of_nonneg (by omega), show (q1 : Int) + (q2 : Int) = ((q1 + q2 : Nat) : Int) by omega]
    exact (Int.natCast_emod _ _).symm
  have hu1 : q1 < c := by rw [hq1]; exact Nat.mod_lt _ hc
  have hu2 : q2 < c := by rw [hq2]; exact Nat.mod_lt _ hc
  have hnz : ¬ ((c : Int) = 0) := by omega
  have hw1 : IntKind.i64.wrap ((q1 : Int) + (q2 : Int)) = (q1 : Int) + (q2 : Int) := by rw [IntKind.wrap_i64]; omega
  have hb : q1 + q2 ≤ 9223372036854775807 := by omega
  clear hq1 hq2 hq3 he
  go_enter Try.func43, Try.ntmps43
  go_wp2_with fail
  go_region
  all_goals
    go_wp2_with fail
    go_ret
    exact ⟨rfl, 1, rfl⟩
end Go.Proofs.Ytndffjgneapmdaa
