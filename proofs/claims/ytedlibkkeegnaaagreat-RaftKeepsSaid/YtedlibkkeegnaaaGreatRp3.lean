/- Plain arithmetic for the laws of bits: digits that are counted and turned. It names nothing of the program. -/
import Derived.Test.YtedlibkkeegnaaaGreatRows
import Derived.WalkKit
namespace Go.Proofs.YtedlibkkeegnaaaGreat
open Go.RowKit
theorem hide {p : Prop} (h : p) : Hid p := h
theorem ret_int {k : IntKind} {a b : Int} (h : a = b) : Ending.returned (.int k a) = .returned (.int k b) := by rw [h]
theorem ret_bool {a b : Bool} (h : a = b) : Ending.returned (.bool a) = .returned (.bool b) := by rw [h]
/-! ### digits that are 1 -/
/-! ### digits that are turned -/
theorem tmod_cases (n m : Int) : (0 <= n /\ n.tmod m = n % m) \/ (n < 0 /\ n.tmod m = -((-n) % m)) := by
 rcases Int.lt_or_le n 0 with h | h
 ·right
  refine ⟨h, ?_⟩;have e : n = -(-n) := by omega
  rw [e, Int.neg_tmod, Int.neg_neg, Int.tmod_eq_emod_of_nonneg (by omega)]
 ·left
  exact ⟨h, Int.tmod_eq_emod_of_nonneg h⟩
end Go.Proofs.YtedlibkkeegnaaaGreat
