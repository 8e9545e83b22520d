/- Four bytes, the highest first: the contract of the document's own Put32. Conditions: the widths. -/
import Derived.Test.YtkgkhielfodmmaaFixA
namespace Go.Proofs.Ytkgkhielfodmmaa
open Go.RowKit
set_option maxHeartbeats 400000 in
theorem rput32_any (x : Int) (v : Nat) (hx : x = (v : Int)) (w : World) (hv : v < 4294967296) :
    Calls Try.prog 24 #[.int .u32 x] w fun e w' => ∃ s, e = .returned s ∧ Own w' w.heap.size s (be32 v) ∧ Below w.heap.size w w' := by
  subst hx
  go_enter Try.func24, Try.ntmps24
  go_wp2
  go_ret
  exact ⟨_, rfl, own_be32 w v hv, (Below.refl _ _).alloc (Nat.le_refl _) _⟩
end Go.Proofs.Ytkgkhielfodmmaa
