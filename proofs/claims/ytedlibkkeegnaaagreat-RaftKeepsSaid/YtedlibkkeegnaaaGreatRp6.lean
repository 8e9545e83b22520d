/- A region that draws its order, at the top of a function, its loads taken first: the beginning, and one operation that comes up alone. -/
import Derived.Test.YtedlibkkeegnaaaGreatRp5
import Derived.Deep.RegionHeld
namespace Go.Proofs.YtedlibkkeegnaaaGreat
open Go.RowKit
variable {w : World} {i : Nat}
theorem heldT_top {P : Program} {ops : Array Oper} {Q : Exit -> Act -> World -> Prop} {id : Nat} {a : Act} (S : World -> Prop) (k : Nat) (l : Array Bool) (hn : ops.size = k) (hl : Array.replicate k false = l) (hm : P.follows .mixedOrders = true)
  (h : wpAnyH P .any ops Q S k l a w.drew) : (Code.region id ops true).wp P Q a w := by
 subst hn;subst hl;exact wp_region_held hm h
theorem heldT_one {P : Program} {ops : Array Oper} {md : Region.Mode} {Q : Exit -> Act -> World -> Prop} {S : World -> Prop} {o : Oper} {fuel : Nat} {listed : Array Bool} {a : Act} (hr : Region.ready md ops listed = [i]) (ho : ops[i]? = some o)
  (h : ∀ K : Act -> World -> Prop, Hid (∀ b u, S u -> wpAnyH P md ops Q S fuel (listed.setIfInBounds i true) b u -> K b u) -> if Region.wanted o (yielded ops a.tmps) = true then Oper.wp P o a w K Q else K (a.put o.dst undef) w) :
  wpAnyH P md ops Q S (fuel + 1) listed a w := by
 refine wpAnyH_all hr (by simp) (fun j hj => ?_);rw [List.mem_singleton] at hj;subst hj;exact wpOp_step ho (fun K hK => h K (hide fun b u hS hW => hK b u ⟨hS, hW⟩))
theorem tkH {P : Program} {ops : Array Oper} {md : Region.Mode} {Q : Exit -> Act -> World -> Prop} {S : World -> Prop} (i : Nat) {x1 x2 x3 x4 x5 x6} {v : Value} {fuel : Nat} {listed : Array Bool} {a : Act} (hi : ops[i]? = some ⟨x1, x2, x3, x4, x5, x6⟩) (hS : S w)
  (hw : Region.wanted ⟨x1, x2, x3, x4, x5, x6⟩ (yielded ops a.tmps) = true) (hy : ∀ w, S w -> (execOp a.eval ⟨x1, x2, x3, x4, x5, x6⟩).run P w = .ok (.value v) w)
  (h : wpAnyH P md ops Q S fuel (listed.setIfInBounds i true) (a.put x1 v) w) (hs : Region.noSelect ops = true := by kernel_rfl) (hf : Region.free md ops listed i = true := by kernel_rfl) (hr : (Region.ready md ops listed).contains i = true := by decide +kernel)
  (hQ : ∀ c a w, Q (.panic c) (a.put x1 v) w -> Q (.panic c) a w := by exact fun _ _ _ h => h) : wpAnyH P md ops Q S (fuel + 1) listed a w :=
 wpAnyH_take hi hs hf hr hQ (.inl ⟨hw, hy⟩) hS h
end Go.Proofs.YtedlibkkeegnaaaGreat
