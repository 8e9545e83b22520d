/- The contract of needle.Size. No condition. -/
import Derived.Test.YtkgkhielfodmmaaNdL
namespace Go.Proofs.Ytkgkhielfodmmaa
open Go.RowKit
set_option maxHeartbeats 400000 in
theorem ndsize_any (z : Int) (w : World) (h0 : -9223372036854775808 ≤ z) (h1 : z ≤ 9223372036854775807) :
    Calls Try.prog 13 #[.int .i64 z] w fun e w' => e = .returned (.int .i64 (ndSize z.toNat : Nat)) ∧ w = w' := by
  by_cases hn : z < 0
  · have e : ndSize z.toNat = 32 := by unfold ndSize; omega
    rw [e]
    clear e
    go_enter Try.func13, Try.ntmps13
    go_wp2
    go_ret
    exact ⟨rfl, rfl⟩
  · by_cases hb : 65536 < z
    · have e : ndSize z.toNat = 65568 := by unfold ndSize; omega
      rw [e]
      clear e
      go_enter Try.func13, Try.ntmps13
      go_wp2
      go_ret
      exact ⟨rfl, rfl⟩
    · obtain ⟨n, rfl⟩ : ∃ n : Nat, z = (n : Int) := ⟨z.toNat, by omega⟩
      have e : ((ndSize (n : Int).toNat : Nat) : Int) = (24 + (n : Int) + 4 + 8 - 1) / 8 * 8 := by unfold ndSize; omega
      rw [e]
      clear e
      go_enter Try.func13, Try.ntmps13
      go_wp2
      go_ret
      exact ⟨rfl, rfl⟩
end Go.Proofs.Ytkgkhielfodmmaa
