/- Plain arithmetic for the laws of bits: digits that are counted and turned. It names nothing of the program. -/
import Derived.Test.YtbmhfnhfhdgdgaaGreatRows
import Derived.WalkKit
namespace Go.Proofs.YtbmhfnhfhdgdgaaGreat
open Go.RowKit
theorem hide {p : Prop} (h : p) : Hid p := h
theorem ret_int {k : IntKind} {a b : Int} (h : a = b) : Ending.returned (.int k a) = .returned (.int k b) := by rw [h]
theorem ret_bool {a b : Bool} (h : a = b) : Ending.returned (.bool a) = .returned (.bool b) := by rw [h]
/-! ### digits that are 1 -/
/-! ### digits that are turned -/
end Go.Proofs.YtbmhfnhfhdgdgaaGreat
