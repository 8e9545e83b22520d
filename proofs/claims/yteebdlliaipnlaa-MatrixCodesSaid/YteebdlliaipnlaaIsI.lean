/- Numbers that a slice holds. No condition but that a slice has at most so many places. -/
import Derived.Test.YteebdlliaipnlaaApp
namespace Go.Proofs.Yteebdlliaipnlaa
open Go.RowKit
/-- The slice at A reads as these numbers. -/
def RdI (w : World) (A : Option Addr) (zs : List Int) : Prop :=
  zs ≠ [] → ∃ b off, A = some ⟨b, off, none⟩ ∧ ∀ i, i < zs.length → w.cell? ⟨b, off + i, none⟩ = some (.int .i64 (zs.getD i 0))
def IsI (w : World) (v : Value) (zs : List Int) : Prop := ∃ A c, v = .slice A zs.length c ∧ RdI w A zs ∧ zs.length ≤ c ∧ c ≤ 9223372036854775807
theorem RdI.below {w w' : World} {A : Option Addr} {zs : List Int} (h : RdI w A zs) (hb : Below w.heap.size w w') : RdI w' A zs := by
  intro hne
  obtain ⟨b, off, e, hc⟩ := h hne
  exact ⟨b, off, e, fun i hi => (hb.cell (cell_lt (hc i hi))).trans (hc i hi)⟩
theorem IsI.keep {w w' : World} {v : Value} {zs : List Int} (h : IsI w v zs) (hb : Below w.heap.size w w') : IsI w' v zs := by
  obtain ⟨A, c, e, hr, hn⟩ := h
  exact ⟨A, c, e, hr.below hb, hn⟩
theorem IsI.drewN {w : World} {v : Value} {zs : List Int} (h : IsI w v zs) (d : Nat) : IsI (w.drewN d) v zs := h
theorem IsI.rd {w : World} {A : Option Addr} {n c : Nat} {zs : List Int} (h : IsI w (.slice A n c) zs) : RdI w A zs := by
  obtain ⟨A', c', e, r, _⟩ := h
  cases e
  exact r
theorem IsI.len {w : World} {A : Option Addr} {n c : Nat} {zs : List Int} (h : IsI w (.slice A n c) zs) : zs.length = n := by
  obtain ⟨A', c', e, r, _⟩ := h
  cases e
  rfl
theorem IsI.caps {w : World} {A : Option Addr} {n c : Nat} {zs : List Int} (h : IsI w (.slice A n c) zs) : n ≤ c ∧ c ≤ 9223372036854775807 := by
  obtain ⟨_, _, e, _, h2⟩ := h
  cases e
  exact h2
theorem IsI.form {w : World} {v : Value} {zs : List Int} {n : Nat} (h : IsI w v zs) (hn : zs.length = n) : ∃ A c, v = .slice A n c ∧ IsI w (.slice A n c) zs ∧ n ≤ c ∧ c ≤ 9223372036854775807 := by
  subst hn
  obtain ⟨A, c, e, r, h2, h3⟩ := h
  exact ⟨A, c, e, ⟨A, c, rfl, r, h2, h3⟩, h2, h3⟩
theorem isI_nil (w : World) : IsI w (.slice none 0 0) [] := ⟨none, 0, rfl, fun h => absurd rfl h, Nat.zero_le _, by decide⟩
theorem isI_new (w : World) (cs : Array Value) (e : TypeId) (fr : Nat × Nat) (zs : List Int) (b n : Nat) (hb : b = w.heap.size) (hn : n = zs.length) (hl : cs.toList = zs.map fun z => Value.int .i64 z) (h : n ≤ 9223372036854775807) : IsI (w.alloc (.cells cs e fr)) (.slice (some ⟨b, 0, none⟩) n n) zs := by
  subst hb; subst hn
  refine ⟨_, _, rfl, fun _ => ⟨_, 0, rfl, fun i hi => ?_⟩, Nat.le_refl _, h⟩
  have hc : cs[i]? = some (Value.int .i64 (zs.getD i 0)) := by
    rw [← Array.getElem?_toList, hl]
    simp [hi]
  rw [Nat.zero_add, ← hc]
  exact cell_of_row _ _ _ _ _ fr (heap_alloc_new w _)
/-- Numbers that came in read as numbers. -/
theorem IsRow.isI {w : World} {a : Option Addr} {len cap : Nat} {zs : List Int} (h : IsRow .i64 w a len cap zs) :
    ∃ xs : List Int, xs.length = len ∧ (∀ x ∈ xs, -9223372036854775808 ≤ x ∧ x < 9223372036854775808) ∧ IsI w (.slice a len cap) xs ∧ len ≤ 9223372036854775807 := by
  rcases h with ⟨rfl, rfl, rfl, rfl⟩ | ⟨x, rfl, h1, h2, h3, hc, hw⟩
  · exact ⟨[], rfl, by simp, isI_nil w, by decide⟩
  · have hb : ∀ z ∈ zs, -9223372036854775808 ≤ z ∧ z ≤ 9223372036854775807 := fun z hz => bounds_i64 (hw z hz)
    refine ⟨zs.take len, by simp; omega, ?_, ⟨some x, cap, by congr 1; simp; omega, ?_, by simp; omega, by unfold maxLen at h2; omega⟩, by unfold maxLen at h2; omega⟩
    · intro y hy
      have := hb y (List.mem_of_mem_take hy)
      omega
    · intro hne
      have hl : 0 < zs.length := by
        rcases zs with _ | ⟨z, zs⟩
        · simp at hne
        · simp
      obtain ⟨b, off, sp⟩ := x
      have hs0 := hc 0 hl
      have hsp : sp = none := by simpa [Addr.add] using World.cell?_spot hs0
      subst hsp
      refine ⟨b, off, rfl, fun i hi => ?_⟩
      have hi2 : i < len ∧ i < zs.length := by simp at hi; omega
      have := hc i hi2.2
      rw [add_off] at this
      rw [this]
      simp [hi2.1, hi2.2]
end Go.Proofs.Yteebdlliaipnlaa
