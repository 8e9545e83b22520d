/- What a walk inside a fence wants: heads for ranges over functions; blocks that stand when a loop's record turns. It names nothing of the program. -/
import Derived.Test.YtbmhfnhfhdgdgaaVn18
import Derived.Test.YtbmhfnhfhdgdgaaVn3
import Derived.Shelf.RegionOpen
import Derived.OwnWalkIn
import Derived.LoopNIn
import Derived.LoopIn
namespace Go.Proofs.Ytbmhfnhfhdgdgaa
open Go.RowKit
variable {w w' W : World} {B l g n : Nat}
theorem Blk.put {e : TypeId} {cs : List Value} (h : Blk w B e g cs) {r : Loop} (hl : w.heap[l]? = some (.loop r)) (o : Obj) : Blk (w.putObj l o) B e g cs := by
 obtain ⟨hB, cur, hh, hc⟩ := h;refine ⟨hB, cur, ?_, hc⟩;rw [World.putObj_heap_other (fun q => by subst q; rw [hh] at hl; cases hl)];exact hh
theorem Blk.low {z : Nat} {e : TypeId} {cs : List Value} (h : Blk w B e g cs) (hb : Below z w w') (hg : g < z) : Blk w' B e g cs := by
 obtain ⟨hB, cur, hh, hc⟩ := h;exact ⟨hB, cur, by rw [hb.block g hg]; exact hh, hc⟩
theorem Turn.low {S : Nat -> Prop} {A B : World} {z : Nat} (h : Turn S W A) (hb : Below z A B) (hz : W.heap.size <= z) : Turn S W B :=
 ⟨hb.os.trans h.os, hb.tape.trans h.tape, hb.output.trans h.output, Nat.le_trans h.size hb.size, fun k hk hn => (hb.block k (by omega)).trans (h.block k hk hn)⟩
theorem Turn.putL {S : Nat -> Prop} {A : World} (h : Turn S W A) (hl : W.heap.size <= l) (o : Obj) : Turn S W (A.putObj l o) :=
 ⟨h.os, h.tape, h.output, by rw [World.putObj_size]; exact h.size, fun k hk hn => (World.putObj_heap_other (by omega)).trans (h.block k hk hn)⟩
theorem Turn.alloc {S : Nat -> Prop} {A : World} (h : Turn S W A) (o : Obj) : Turn S W (A.alloc o) := h.trans (Turn.of_below _ (below_alloc A o))
theorem Turn.cell {S : Nat -> Prop} {A : World} {a : Addr} {v : Value} (h : Turn S W A) (hc : W.cell? a = some v) (hn : ¬ S a.block) : A.cell? a = some v := by
 rw [<- hc];exact World.cell?_of_block (h.block a.block (cell_lt hc) hn)
theorem below_put {A : World} (h : Below B w A) (hl : B <= l) (o : Obj) : Below B w (A.putObj l o) :=
 ⟨h.os, h.tape, h.output, by rw [World.putObj_size]; exact h.size, fun k hk => (World.putObj_heap_other (by omega)).trans (h.block k hk)⟩
section
variable {P : Program} {r : Option Nat} {n : Nat}
end
section
variable {P : Program} {F : Fence} {n : Nat}
end
end Go.Proofs.Ytbmhfnhfhdgdgaa
