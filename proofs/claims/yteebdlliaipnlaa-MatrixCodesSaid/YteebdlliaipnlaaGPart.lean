/- Rows that are laid place by place; rows that came in, at a place; the sum of products. It names nothing of the program. -/
import Derived.Test.YteebdlliaipnlaaGByte
import Derived.Test.YteebdlliaipnlaaApp
import Derived.RegionTactic
import Derived.ChangeAlike
namespace Go.Proofs.Yteebdlliaipnlaa
open Go.RowKit
/-- A row of which k places are laid, by f. -/
def part (f : Nat → Nat) (n k : Nat) : List Nat := (List.range n).map fun j => if j < k then f j else 0
theorem part_len (f : Nat → Nat) (n k : Nat) : (part f n k).length = n := by simp [part]
theorem part_zero (f : Nat → Nat) (n : Nat) : part f n 0 = List.replicate n 0 := by
  apply List.ext_getElem
  · simp [part]
  · intro i h1 h2
    simp [part]
theorem part_set (f : Nat → Nat) (n k : Nat) : (part f n k).set k (f k) = part f n (k + 1) := by
  apply List.ext_getElem
  · simp [part]
  · intro i h1 h2
    rw [List.getElem_set]
    simp only [part, List.getElem_map, List.getElem_range]
    by_cases e : k = i
    · subst e; simp
    · rw [if_neg e]
      by_cases h : i < k
      · rw [if_pos h, if_pos (by omega)]
      · rw [if_neg h, if_neg (by omega)]
theorem part_get (f : Nat → Nat) (n j : Nat) (h : j < n) : (part f n n).getD j 0 = f j := by simp [part, h]
theorem made_bytes {w : World} {B g n : Nat} (h : w.ownsRow B 5 1 (.slice (some ⟨g, 0, none⟩) n n) n (madeCells (Value.int .u8 0).cells (n * 1)).toList) : Own w B (.slice (some ⟨g, 0, none⟩) n n) (List.replicate n 0) := by
  have e : (madeCells (Value.int .u8 0).cells (n * 1)).toList = List.replicate n (Value.int .u8 0) := by
    rw [Nat.mul_one]; exact toList_madeCells_one (Value.int .u8 0) n
  rw [e] at h
  unfold Own
  simpa using h
theorem Own.cells_ {w : World} {B : Nat} {g n c : Nat} {xs : List Nat} (h : Own w B (.slice (some ⟨g, 0, none⟩) n c) xs) (hn : xs.length = n) (k : Nat) :
    (k < n → w.cell? ⟨g, k, none⟩ = some (.int .u8 ((xs.getD k 0 : Nat) : Int))) ∧ w.frozen? ⟨g, k, none⟩ = false := by
  subst hn
  unfold Own at h
  refine ⟨fun hk => ?_, World.ownsRow.frozenAt h k⟩
  rw [World.ownsRow.cellAt h k (by omega)]
  simp [hk]
theorem Own.stored' {w : World} {B : Nat} {g n c : Nat} {xs : List Nat} (h : Own w B (.slice (some ⟨g, 0, none⟩) n c) xs) (hn : xs.length = n) (k z : Nat) :
    Own (w.setCell ⟨g, k, none⟩ (.int .u8 (z : Int))) B (.slice (some ⟨g, 0, none⟩) n c) (xs.set k z) := by
  subst hn
  unfold Own at h ⊢
  have := (World.ownsRow.stored h k (.int .u8 (z : Int))).1
  simpa [List.map_set] using this
theorem at_place {w : World} {A : Option Addr} {xs : List Nat} {n : Nat} (h : Rd w A xs) (hn : xs.length = n) (hb : ∀ x ∈ xs, x < 256) (k : Nat) (hk : k < n) :
    ∃ b off, A = some ⟨b, off, none⟩ ∧ w.cell? ⟨b, off + k, none⟩ = some (.int .u8 ((xs.getD k 0 : Nat) : Int)) ∧ xs.getD k 0 < 256 := by
  subst hn
  obtain ⟨b, off, e, hc⟩ := h (by intro e; rw [e] at hk; simp at hk)
  refine ⟨b, off, e, hc k hk, ?_⟩
  have : xs.getD k 0 = xs[k] := by simp [hk]
  rw [this]; exact hb _ (List.getElem_mem hk)
/-- The sum of the first k products. -/
def dotS (xs ys : List Nat) : Nat → Nat
  | 0 => 0
  | k + 1 => dotS xs ys k ^^^ gmul (xs.getD k 0) (ys.getD k 0)
theorem getD_lt {xs : List Nat} (hb : ∀ x ∈ xs, x < 256) (k : Nat) : xs.getD k 0 < 256 := by
  by_cases h : k < xs.length
  · have : xs.getD k 0 = xs[k] := by simp [h]
    rw [this]; exact hb _ (List.getElem_mem h)
  · have : xs.getD k 0 = 0 := by simp [Nat.le_of_not_lt h]
    omega
theorem dotS_lt {xs ys : List Nat} (hb : ∀ x ∈ xs, x < 256) : ∀ k, dotS xs ys k < 256
  | 0 => by show 0 < 256; omega
  | k + 1 => xor_lt8 (dotS_lt hb k) (gmul_lt _ (getD_lt hb k))
end Go.Proofs.Yteebdlliaipnlaa
