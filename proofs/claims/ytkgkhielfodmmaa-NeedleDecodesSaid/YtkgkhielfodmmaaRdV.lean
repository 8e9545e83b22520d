/- Rows of rows of bytes that are read: a slice of slices, each with bytes. No condition. -/
import Derived.Test.YtkgkhielfodmmaaApp
namespace Go.Proofs.Ytkgkhielfodmmaa
open Go.RowKit
/-- A slice of slices that reads as these values. -/
def RdV (w : World) (A : Option Addr) (vs : List Value) : Prop :=
  vs ≠ [] → ∃ b off, A = some ⟨b, off, none⟩ ∧ ∀ i, i < vs.length → w.cell? ⟨b, off + i, none⟩ = some (vs.getD i (.slice none 0 0))
theorem RdV.below {w w' : World} {A : Option Addr} {vs : List Value} (h : RdV w A vs) (hb : Below w.heap.size w w') : RdV w' A vs := by
  intro hne
  obtain ⟨b, off, e, hc⟩ := h hne
  exact ⟨b, off, e, fun i hi => (hb.cell (cell_lt (hc i hi))).trans (hc i hi)⟩
theorem RdV.drewN {w : World} {A : Option Addr} {vs : List Value} (h : RdV w A vs) (n : Nat) : RdV (w.drewN n) A vs := h
/-- Values that read as these rows of bytes, one each. -/
def IsBs (w : World) (vs : List Value) (xss : List (List Nat)) : Prop := vs.length = xss.length ∧ ∀ i, i < vs.length → IsB w (vs.getD i (.slice none 0 0)) (xss.getD i [])
theorem IsBs.below {w w' : World} {vs : List Value} {xss : List (List Nat)} (h : IsBs w vs xss) (hb : Below w.heap.size w w') : IsBs w' vs xss := ⟨h.1, fun i hi => (h.2 i hi).keep hb⟩
theorem IsBs.drewN {w : World} {vs : List Value} {xss : List (List Nat)} (h : IsBs w vs xss) (n : Nat) : IsBs (w.drewN n) vs xss := h
theorem rdV_new (w : World) (cs : Array Value) (e : TypeId) (vs : List Value) (b : Nat) (hb : b = w.heap.size) (h : cs.toList = vs) : RdV (w.alloc (.cells cs e)) (some ⟨b, 0, none⟩) vs := by
  subst hb; subst h
  intro _
  refine ⟨_, 0, rfl, fun i hi => ?_⟩
  have hc : cs[i]? = some (cs.toList.getD i (.slice none 0 0)) := by
    rw [← Array.getElem?_toList]
    simp at hi
    simp [hi]
  rw [Nat.zero_add, ← hc]
  exact cell_of_row _ _ _ _ _ (0, 0) (heap_alloc_new w _)
end Go.Proofs.Ytkgkhielfodmmaa
