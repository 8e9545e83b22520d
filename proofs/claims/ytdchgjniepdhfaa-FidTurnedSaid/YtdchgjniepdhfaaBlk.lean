/- Blocks of the call's own with their cells written out. No condition. -/
import Derived.Test.YtdchgjniepdhfaaApp
import Derived.Maps.Range
import Derived.Maps.AppendAt
namespace Go.Proofs.Ytdchgjniepdhfaa
open Go.RowKit
theorem below_alloc (w : World) (o : Obj) : Below w.heap.size w (w.alloc o) := (Below.refl _ _).alloc (Nat.le_refl _) _
/-- A block of the call's own that holds these cells. -/
def Blk (w : World) (B : Nat) (e : TypeId) (g : Nat) (cs : List Value) : Prop := B ≤ g ∧ ∃ cur : Array Value, w.heap[g]? = some (.cells cur e (0, 0)) ∧ cur.toList = cs
theorem heap_lt {w : World} {g : Nat} {o : Obj} (h : w.heap[g]? = some o) : g < w.heap.size := (Array.getElem?_eq_some_iff.1 h).1
theorem Blk.lt {w : World} {B : Nat} {e : TypeId} {g : Nat} {cs : List Value} (h : Blk w B e g cs) : g < w.heap.size := by
  obtain ⟨_, cur, hg, _⟩ := h
  exact heap_lt hg
theorem Blk.cell {w : World} {B : Nat} {e : TypeId} {g : Nat} {cs : List Value} (h : Blk w B e g cs) (i : Nat) : w.cell? ⟨g, i, none⟩ = cs[i]? := by
  obtain ⟨_, cur, hg, rfl⟩ := h
  rw [cell_of_row w g i cur e (0, 0) hg]
  simp
theorem Blk.frozen {w : World} {B : Nat} {e : TypeId} {g : Nat} {cs : List Value} (h : Blk w B e g cs) (i : Nat) : w.frozen? ⟨g, i, none⟩ = false := by
  obtain ⟨_, cur, hg, rfl⟩ := h
  exact frozen_of_row w g i cur e hg
theorem Blk.stored {w : World} {B : Nat} {e : TypeId} {g : Nat} {cs : List Value} (h : Blk w B e g cs) (i : Nat) (u : Value) : Blk (w.setCell ⟨g, i, none⟩ u) B e g (cs.set i u) := by
  obtain ⟨hb, cur, hg, rfl⟩ := h
  exact ⟨hb, _, heap_setCell_same w g i cur e u hg, Array.toList_setIfInBounds ..⟩
theorem grown_set (w : World) (g i : Nat) (u : Value) : w.grownBy (w.setCell ⟨g, i, none⟩ u) (some g) :=
  ⟨rfl, rfl, rfl, by simp, fun k _ hk => heap_setCell_other w ⟨g, i, none⟩ k u (fun e => hk (by simp [e]))⟩
theorem Blk.new (w : World) {B : Nat} (e : TypeId) (cs : Array Value) (hB : B ≤ w.heap.size) : Blk (w.alloc (.cells cs e)) B e w.heap.size cs.toList := ⟨hB, cs, heap_alloc_new w _, rfl⟩
theorem Blk.kept {w w' : World} {B : Nat} {e : TypeId} {g : Nat} {cs : List Value} {row : Option Nat} (h : Blk w B e g cs) (hg : w.grownBy w' row) (hne : row ≠ some g) : Blk w' B e g cs := by
  have hl := h.lt
  obtain ⟨hb, cur, hh, rfl⟩ := h
  exact ⟨hb, cur, by rw [hg.block g hl (fun e => hne e.symm)]; exact hh, rfl⟩
theorem Blk.keep {w w' : World} {B : Nat} {e : TypeId} {g : Nat} {cs : List Value} (h : Blk w B e g cs) (hb : Below w.heap.size w w') : Blk w' B e g cs := by
  have hl := h.lt
  obtain ⟨hB, cur, hh, rfl⟩ := h
  exact ⟨hB, cur, by rw [hb.block g hl]; exact hh, rfl⟩
theorem Blk.more {w : World} {B B' : Nat} {e : TypeId} {g : Nat} {cs : List Value} (h : Blk w B e g cs) (hB : B' ≤ B) : Blk w B' e g cs := ⟨Nat.le_trans hB h.1, h.2⟩
theorem Blk.drewN {w : World} {B : Nat} {e : TypeId} {g : Nat} {cs : List Value} (h : Blk w B e g cs) (n : Nat) : Blk (w.drewN n) B e g cs := h
/-- Blocks of unlike types lie apart. -/
theorem Blk.ne {w : World} {B B' : Nat} {e e' : TypeId} {g g' : Nat} {cs cs' : List Value} (h : Blk w B e g cs) (h' : Blk w B' e' g' cs') (hne : e ≠ e') : g ≠ g' := by
  obtain ⟨_, cur, hh, _⟩ := h
  obtain ⟨_, cur', hh', _⟩ := h'
  rintro rfl
  rw [hh] at hh'
  simp only [Option.some.injEq, Obj.cells.injEq] at hh'
  exact hne hh'.2.1
end Go.Proofs.Ytdchgjniepdhfaa
