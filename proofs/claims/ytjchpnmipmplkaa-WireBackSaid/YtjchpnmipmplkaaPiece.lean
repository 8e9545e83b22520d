/- Blocks of the call's own with their cells written out, and slices of bytes somewhere in such a block. No condition. -/
import Derived.Test.YtjchpnmipmplkaaFrame
import Derived.Maps.Range
import Derived.Maps.AppendAt
namespace Go.Proofs.Ytjchpnmipmplkaa
open Go.RowKit
/-- A block of the call's own that holds these cells. -/
def Blk (w : World) (B : Nat) (e : TypeId) (g : Nat) (cs : List Value) : Prop := B ≤ g ∧ ∃ cur : Array Value, w.heap[g]? = some (.cells cur e (0, 0)) ∧ cur.toList = cs
theorem heap_lt {w : World} {g : Nat} {o : Obj} (h : w.heap[g]? = some o) : g < w.heap.size := (Array.getElem?_eq_some_iff.1 h).1
theorem Blk.lt {w : World} {B : Nat} {e : TypeId} {g : Nat} {cs : List Value} (h : Blk w B e g cs) : g < w.heap.size := by
  obtain ⟨_, cur, hg, _⟩ := h
  exact heap_lt hg
theorem Blk.cell {w : World} {B : Nat} {e : TypeId} {g : Nat} {cs : List Value} (h : Blk w B e g cs) (i : Nat) : w.cell? ⟨g, i, none⟩ = cs[i]? := by
  obtain ⟨_, cur, hg, rfl⟩ := h
  rw [cell_of_row w g i cur e (0, 0) hg]
  simp
theorem Blk.frozen {w : World} {B : Nat} {e : TypeId} {g : Nat} {cs : List Value} (h : Blk w B e g cs) (i : Nat) : w.frozen? ⟨g, i, none⟩ = false := by
  obtain ⟨_, cur, hg, rfl⟩ := h
  exact frozen_of_row w g i cur e hg
theorem Blk.stored {w : World} {B : Nat} {e : TypeId} {g : Nat} {cs : List Value} (h : Blk w B e g cs) (i : Nat) (u : Value) : Blk (w.setCell ⟨g, i, none⟩ u) B e g (cs.set i u) := by
  obtain ⟨hb, cur, hg, rfl⟩ := h
  exact ⟨hb, _, heap_setCell_same w g i cur e u hg, Array.toList_setIfInBounds ..⟩
theorem grown_set (w : World) (g i : Nat) (u : Value) : w.grownBy (w.setCell ⟨g, i, none⟩ u) (some g) :=
  ⟨rfl, rfl, rfl, by simp, fun k _ hk => heap_setCell_other w ⟨g, i, none⟩ k u (fun e => hk (by simp [e]))⟩
theorem Blk.new (w : World) {B : Nat} (e : TypeId) (cs : Array Value) (hB : B ≤ w.heap.size) : Blk (w.alloc (.cells cs e)) B e w.heap.size cs.toList := ⟨hB, cs, heap_alloc_new w _, rfl⟩
theorem Blk.kept {w w' : World} {B : Nat} {e : TypeId} {g : Nat} {cs : List Value} {row : Option Nat} (h : Blk w B e g cs) (hg : w.grownBy w' row) (hne : row ≠ some g) : Blk w' B e g cs := by
  have hl := h.lt
  obtain ⟨hb, cur, hh, rfl⟩ := h
  exact ⟨hb, cur, by rw [hg.block g hl (fun e => hne e.symm)]; exact hh, rfl⟩
theorem Blk.keep {w w' : World} {B : Nat} {e : TypeId} {g : Nat} {cs : List Value} (h : Blk w B e g cs) (hb : Below w.heap.size w w') : Blk w' B e g cs := by
  have hl := h.lt
  obtain ⟨hB, cur, hh, rfl⟩ := h
  exact ⟨hB, cur, by rw [hb.block g hl]; exact hh, rfl⟩
theorem Blk.more {w : World} {B B' : Nat} {e : TypeId} {g : Nat} {cs : List Value} (h : Blk w B e g cs) (hB : B' ≤ B) : Blk w B' e g cs := ⟨Nat.le_trans hB h.1, h.2⟩
theorem Blk.drewN {w : World} {B : Nat} {e : TypeId} {g : Nat} {cs : List Value} (h : Blk w B e g cs) (n : Nat) : Blk (w.drewN n) B e g cs := h
/-- Blocks of unlike types lie apart. -/
theorem Blk.ne {w : World} {B B' : Nat} {e e' : TypeId} {g g' : Nat} {cs cs' : List Value} (h : Blk w B e g cs) (h' : Blk w B' e' g' cs') (hne : e ≠ e') : g ≠ g' := by
  obtain ⟨_, cur, hh, _⟩ := h
  obtain ⟨_, cur', hh', _⟩ := h'
  rintro rfl
  rw [hh] at hh'
  simp only [Option.some.injEq, Obj.cells.injEq] at hh'
  exact hne hh'.2.1
/-- A slice of bytes that lies in a block of the call's own. -/
def Piece (w : World) (B : Nat) (v : Value) (xs : List Nat) : Prop :=
  (v = .slice none 0 0 ∧ xs = []) ∨
  ∃ g off c, ∃ cur : Array Value, v = .slice (some ⟨g, off, none⟩) xs.length c ∧ B ≤ g ∧ w.heap[g]? = some (.cells cur 5 (0, 0)) ∧ xs.length ≤ c ∧ c ≤ maxLen ∧ (off + c ≤ cur.size) ∧
    (∀ i, i < xs.length → cur[off + i]? = some (.int .u8 ((xs.getD i 0 : Nat) : Int)))
theorem Piece.nil (w : World) (B : Nat) : Piece w B (.slice none 0 0) [] := .inl ⟨rfl, rfl⟩
theorem Own.piece {w : World} {B : Nat} {v : Value} {xs : List Nat} (h : Own w B v xs) : Piece w B v xs := by
  unfold Own at h
  rcases h.2 with ⟨rfl, hn⟩ | ⟨g, cap, cur, rfl, hb, hg, h1, h2, h3, ht⟩
  · exact .inl ⟨rfl, List.eq_nil_of_length_eq_zero hn⟩
  · refine .inr ⟨g, 0, cap, cur, rfl, hb, hg, h1, h2, by omega, fun i hi => ?_⟩
    have e := congrArg (fun l => l[i]?) ht
    simp only [Nat.mul_one] at e
    rw [List.getElem?_take, if_pos hi] at e
    rw [Nat.zero_add, ← Array.getElem?_toList, e]
    simp [hi]
theorem Piece.isB {w : World} {B : Nat} {v : Value} {xs : List Nat} (h : Piece w B v xs) : IsB w v xs := by
  rcases h with ⟨rfl, rfl⟩ | ⟨g, off, c, cur, rfl, _, hg, h1, h2, h3, hc⟩
  · exact ⟨none, 0, rfl, fun h => absurd rfl h, fun _ => rfl, Nat.zero_le _, by decide⟩
  · refine ⟨_, c, rfl, fun _ => ⟨g, off, rfl, fun i hi => ?_⟩, (fun h => by cases h), h1, by unfold maxLen at h2; omega⟩
    rw [cell_of_row w g (off + i) cur _ (0, 0) hg]
    exact hc i hi
theorem Piece.kept {w w' : World} {B : Nat} {v : Value} {xs : List Nat} {row : Option Nat} (h : Piece w B v xs) (hg : w.grownBy w' row) (hne : v.ownBlock = none ∨ v.ownBlock ≠ row) : Piece w' B v xs := by
  rcases h with ⟨rfl, rfl⟩ | ⟨g, off, c, cur, rfl, hb, hh, r⟩
  · exact .inl ⟨rfl, rfl⟩
  · refine .inr ⟨g, off, c, cur, rfl, hb, ?_, r⟩
    rw [hg.block g (heap_lt hh) (by simpa [Value.ownBlock] using hne)]
    exact hh
theorem Piece.keep {w w' : World} {B : Nat} {v : Value} {xs : List Nat} (h : Piece w B v xs) (hb : Below w.heap.size w w') : Piece w' B v xs := by
  rcases h with ⟨rfl, rfl⟩ | ⟨g, off, c, cur, rfl, hB, hh, r⟩
  · exact .inl ⟨rfl, rfl⟩
  · refine .inr ⟨g, off, c, cur, rfl, hB, ?_, r⟩
    rw [hb.block g (heap_lt hh)]
    exact hh
theorem Piece.drewN {w : World} {B : Nat} {v : Value} {xs : List Nat} (h : Piece w B v xs) (n : Nat) : Piece (w.drewN n) B v xs := h
theorem Piece.more {w : World} {B B' : Nat} {v : Value} {xs : List Nat} (h : Piece w B v xs) (hB : B' ≤ B) : Piece w B' v xs := by
  rcases h with h | ⟨g, off, c, cur, hv, hb, r⟩
  · exact .inl h
  · exact .inr ⟨g, off, c, cur, hv, Nat.le_trans hB hb, r⟩
/-- Bytes and a block of another type lie apart. -/
theorem Piece.apart {w w' : World} {B B' : Nat} {v : Value} {xs : List Nat} {e : TypeId} {g : Nat} {cs : List Value} (h : Piece w B v xs) (hr : Blk w B' e g cs) (hne : e ≠ 5) (hg : w.grownBy w' (some g)) : Piece w' B v xs := by
  refine h.kept hg ?_
  rcases h with ⟨rfl, rfl⟩ | ⟨g', off, c, cur, rfl, hb, hh, r⟩
  · exact .inl rfl
  · right
    intro e'
    have e' : g' = g := by simpa [Value.ownBlock] using e'
    subst e'
    obtain ⟨_, cur', hh', _⟩ := hr
    rw [hh] at hh'
    simp only [Option.some.injEq, Obj.cells.injEq] at hh'
    exact hne hh'.2.1.symm
/-- What is left of a slice behind its first k bytes. -/
theorem Piece.tail {w : World} {B b off n c : Nat} {xs : List Nat} (h : Piece w B (.slice (some ⟨b, off, none⟩) n c) xs) (k : Nat) (hk : k ≤ n) :
    Piece w B (.slice (some ⟨b, if c = k then off else off + k, none⟩) (n - k) (c - k)) (xs.drop k) := by
  rcases h with ⟨h, _⟩ | ⟨g, o, c', cur, hv, hb, hh, h1, h2, h3, hc⟩
  · cases h
  · cases hv
    refine .inr ⟨b, _, c - k, cur, by rw [List.length_drop], hb, hh, by rw [List.length_drop]; omega, by omega, by split <;> omega, fun i hi => ?_⟩
    rw [List.length_drop] at hi
    rw [if_neg (by omega)]
    have := hc (k + i) (by omega)
    rw [Nat.add_assoc, this]
    congr 2
    simp
end Go.Proofs.Ytjchpnmipmplkaa
