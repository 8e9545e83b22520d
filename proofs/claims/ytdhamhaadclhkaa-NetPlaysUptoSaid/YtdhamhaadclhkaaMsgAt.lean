/- A message in a block of its own: five cells. No condition. -/
import Derived.Test.YtdhamhaadclhkaaBlk
import Derived.Maps.AppendAt
namespace Go.Proofs.Ytdhamhaadclhkaa
open Go.RowKit
/-- A message that lies at block g. -/
structure MsgAt (w : World) (g : Nat) (f t k : Int) (N D : Value) : Prop where
  c0 : w.cell? ⟨g, 0, none⟩ = some (.int .i64 f)
  c1 : w.cell? ⟨g, 1, none⟩ = some (.int .i64 t)
  c2 : w.cell? ⟨g, 2, none⟩ = some (.int .i64 k)
  c3 : w.cell? ⟨g, 3, none⟩ = some N
  c4 : w.cell? ⟨g, 4, none⟩ = some D
theorem MsgAt.keep {w w' : World} {g : Nat} {f t k : Int} {N D : Value} (h : MsgAt w g f t k N D) (hb : Below w.heap.size w w') : MsgAt w' g f t k N D :=
  ⟨(hb.cell (cell_lt h.c0)).trans h.c0, (hb.cell (cell_lt h.c1)).trans h.c1, (hb.cell (cell_lt h.c2)).trans h.c2, (hb.cell (cell_lt h.c3)).trans h.c3, (hb.cell (cell_lt h.c4)).trans h.c4⟩
theorem MsgAt.drewN {w : World} {g : Nat} {f t k : Int} {N D : Value} (h : MsgAt w g f t k N D) (d : Nat) : MsgAt (w.drewN d) g f t k N D := ⟨h.c0, h.c1, h.c2, h.c3, h.c4⟩
theorem msgAt_new (w : World) (e : TypeId) (f t k : Int) (N D : Value) : MsgAt (w.alloc (.cells #[.int .i64 f, .int .i64 t, .int .i64 k, N, D] e)) w.heap.size f t k N D := by
  have h := fun i => cell_of_row (w.alloc (.cells #[.int .i64 f, .int .i64 t, .int .i64 k, N, D] e)) w.heap.size i _ e (0, 0) (heap_alloc_new w _)
  exact ⟨h 0, h 1, h 2, h 3, h 4⟩
/-- A message is laid into block g. -/
def setMsg (w : World) (g : Nat) (f t k : Int) (N D : Value) : World :=
  ((((w.setCell ⟨g, 0, none⟩ (.int .i64 f)).setCell ⟨g, 1, none⟩ (.int .i64 t)).setCell ⟨g, 2, none⟩ (.int .i64 k)).setCell ⟨g, 3, none⟩ N).setCell ⟨g, 4, none⟩ D
theorem setMsg_blk {w : World} {B g : Nat} {cs : List Value} (hb : Blk w B 45 g cs) (hl : cs.length = 5) (f t k : Int) (N D : Value) : Blk (setMsg w g f t k N D) B 45 g [.int .i64 f, .int .i64 t, .int .i64 k, N, D] := by
  have h := ((((hb.stored 0 (.int .i64 f)).stored 1 (.int .i64 t)).stored 2 (.int .i64 k)).stored 3 N).stored 4 D
  match cs, hl with
  | [a, b, c, d, e], _ => exact h
theorem setMsg_grown (w : World) (g : Nat) (f t k : Int) (N D : Value) : w.grownBy (setMsg w g f t k N D) (some g) :=
  ((((grown_set w g 0 _).trans (grown_set _ g 1 _)).trans (grown_set _ g 2 _)).trans (grown_set _ g 3 _)).trans (grown_set _ g 4 _)
theorem Blk.msgAt {w : World} {B g : Nat} {f t k : Int} {N D : Value} (hb : Blk w B 45 g [.int .i64 f, .int .i64 t, .int .i64 k, N, D]) : MsgAt w g f t k N D := ⟨hb.cell 0, hb.cell 1, hb.cell 2, hb.cell 3, hb.cell 4⟩
end Go.Proofs.Ytdhamhaadclhkaa
