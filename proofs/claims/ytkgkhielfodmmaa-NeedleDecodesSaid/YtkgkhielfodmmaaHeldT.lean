/- A region that draws its order, at the top of a function, its loads taken first: the beginning, and one operation that comes up alone. -/
import Derived.Test.YtkgkhielfodmmaaBytes
import Derived.OrdersHeld
import Derived.Deep.RegionHeld
namespace Go.Proofs.Ytkgkhielfodmmaa
open Go.RowKit
/-- A region that draws its order and whose loads may all be taken first. -/
theorem heldT_top {P : Program} {ops : Array Oper} {Q : Exit → Act → World → Prop} {id : Nat} {a : Act} {w : World} (S : World → Prop) (k : Nat) (l : Array Bool) (hn : ops.size = k) (hl : Array.replicate k false = l) (hm : P.follows .mixedOrders = true)
    (h : wpAnyH P .any ops Q S k l a w.drew) : (Code.region id ops true).wp P Q a w := by
  subst hn
  subst hl
  exact wp_region_held hm h
/-- One alone may come up. -/
theorem heldT_one {P : Program} {ops : Array Oper} {md : Region.Mode} {Q : Exit → Act → World → Prop} {S : World → Prop} {i : Nat} {o : Oper} {fuel : Nat} {listed : Array Bool} {a : Act} {w : World} (hr : Region.ready md ops listed = [i]) (ho : ops[i]? = some o)
    (h : ∀ K : Act → World → Prop, Hid (∀ b u, S u → wpAnyH P md ops Q S fuel (listed.setIfInBounds i true) b u → K b u) → if Region.wanted o (yielded ops a.tmps) = true then Oper.wp P o a w K Q else K (a.put o.dst undef) w) :
    wpAnyH P md ops Q S (fuel + 1) listed a w := by
  refine wpAnyH_all hr (by simp) (fun j hj => ?_)
  rw [List.mem_singleton] at hj
  subst hj
  exact wpOp_step ho (fun K hK => h K (hide fun b u hS hW => hK b u ⟨hS, hW⟩))
/-- Two may come up. -/
theorem heldT_two {P : Program} {ops : Array Oper} {md : Region.Mode} {Q : Exit → Act → World → Prop} {S : World → Prop} {i j : Nat} {o p : Oper} {fuel : Nat} {listed : Array Bool} {a : Act} {w : World} (hr : Region.ready md ops listed = [i, j]) (ho : ops[i]? = some o) (hp : ops[j]? = some p)
    (h : ∀ K : Act → World → Prop, Hid (∀ b u, S u → wpAnyH P md ops Q S fuel (listed.setIfInBounds i true) b u → K b u) → if Region.wanted o (yielded ops a.tmps) = true then Oper.wp P o a w K Q else K (a.put o.dst undef) w)
    (h2 : ∀ K : Act → World → Prop, Hid (∀ b u, S u → wpAnyH P md ops Q S fuel (listed.setIfInBounds j true) b u → K b u) → if Region.wanted p (yielded ops a.tmps) = true then Oper.wp P p a w K Q else K (a.put p.dst undef) w) :
    wpAnyH P md ops Q S (fuel + 1) listed a w := by
  refine wpAnyH_all hr (by simp) (fun q hq => ?_)
  rcases List.mem_cons.1 hq with rfl | hq
  · exact wpOp_step ho (fun K hK => h K (hide fun b u hS hW => hK b u ⟨hS, hW⟩))
  · rw [List.mem_singleton] at hq
    subst hq
    exact wpOp_step hp (fun K hK => h2 K (hide fun b u hS hW => hK b u ⟨hS, hW⟩))
end Go.Proofs.Ytkgkhielfodmmaa
