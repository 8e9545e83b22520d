/- Matrices in memory: rows of rows of bytes that are read, and such as the call makes. No condition. -/
import Derived.Test.YteebdlliaipnlaaSameV
import Derived.Test.YteebdlliaipnlaaOwnAt
import Derived.Test.YteebdlliaipnlaaBlk
import Derived.Test.YteebdlliaipnlaaGauss
namespace Go.Proofs.Yteebdlliaipnlaa
open Go.RowKit
/-- A slice of slices at A reads as these rows. -/
def IsM (w : World) (A : Option Addr) (xss : ML) : Prop := ∃ vs, RdV w A vs ∧ IsBs w vs xss
theorem IsM.below {w w' : World} {A : Option Addr} {xss : ML} (h : IsM w A xss) (hb : Below w.heap.size w w') : IsM w' A xss := by
  obtain ⟨vs, h1, h2⟩ := h
  exact ⟨vs, h1.below hb, h2.below hb⟩
theorem IsM.drewN {w : World} {A : Option Addr} {xss : ML} (h : IsM w A xss) (d : Nat) : IsM (w.drewN d) A xss := h
theorem IsM.at_ {w : World} {A : Option Addr} {xss : ML} (h : IsM w A xss) (k : Nat) (hk : k < xss.length) :
    ∃ b off A' c, A = some ⟨b, off, none⟩ ∧ w.cell? ⟨b, off + k, none⟩ = some (.slice A' (xss.getD k []).length c) ∧ IsB w (.slice A' (xss.getD k []).length c) (xss.getD k []) ∧ (xss.getD k []).length ≤ c ∧ c ≤ 9223372036854775807 := by
  obtain ⟨vs, h1, h2, h3⟩ := h
  obtain ⟨b, off, e, hc⟩ := h1 (by intro e; rw [e] at h2; simp at h2; omega)
  have hv := h3 k (by omega)
  have ck := hc k (by omega)
  obtain ⟨A', c, e1, i1, l1, m1⟩ := hv.form rfl
  rw [e1] at ck
  exact ⟨b, off, A', c, e, ck, i1, l1, m1⟩
/-- A matrix of the call's own. -/
def OwnMt (w : World) (B : Nat) (v : Value) (xss : ML) : Prop := ∃ vs, OwnV w B v vs ∧ Owns w B vs xss
theorem OwnMt.nil (w : World) (B : Nat) : OwnMt w B (.slice none 0 0) [] := ⟨[], OwnV.nil w B, Owns.nil w B⟩
theorem OwnMt.form {w : World} {B : Nat} {v : Value} {xss : ML} {n : Nat} (h : OwnMt w B v xss) (hn : xss.length = n) : ∃ A c, v = .slice A n c ∧ IsM w A xss ∧ n ≤ 9223372036854775807 := by
  obtain ⟨vs, h1, h2⟩ := h
  obtain ⟨A, c, e, hr, hl⟩ := h1.form (n := n) (by rw [h2.1, hn])
  exact ⟨A, c, e, ⟨vs, hr, h2.isBs⟩, hl⟩
theorem OwnMt.keep {w w' : World} {B : Nat} {v : Value} {xss : ML} (h : OwnMt w B v xss) (hb : Below w.heap.size w w') : OwnMt w' B v xss := by
  obtain ⟨vs, h1, h2⟩ := h
  exact ⟨vs, h1.keep hb, h2.keep hb⟩
theorem OwnMt.more {w : World} {B B' : Nat} {v : Value} {xss : ML} (h : OwnMt w B v xss) (hb : B' ≤ B) : OwnMt w B' v xss := by
  obtain ⟨vs, h1, h2⟩ := h
  exact ⟨vs, h1.more hb, h2.more hb⟩
theorem OwnMt.drewN {w : World} {B : Nat} {v : Value} {xss : ML} (h : OwnMt w B v xss) (d : Nat) : OwnMt (w.drewN d) B v xss := h
theorem OwnMt.isM {w : World} {B : Nat} {A : Option Addr} {n c : Nat} {xss : ML} (h : OwnMt w B (.slice A n c) xss) : IsM w A xss ∧ xss.length = n := by
  obtain ⟨vs, h1, h2⟩ := h
  obtain ⟨A', c', e, hr, hl⟩ := h1.form rfl
  cases e
  exact ⟨⟨vs, hr, h2.isBs⟩, h2.1.symm⟩
/-- In a block of its own: at each place the row's slice, of the call's own. -/
theorem OwnMt.row {w : World} {B g n c : Nat} {xss : ML} (h : OwnMt w B (.slice (some ⟨g, 0, none⟩) n c) xss) (k : Nat) (hk : k < n) :
    ∃ A' c', w.cell? ⟨g, k, none⟩ = some (.slice A' (xss.getD k []).length c') ∧ Own w B (.slice A' (xss.getD k []).length c') (xss.getD k []) ∧ w.frozen? ⟨g, k, none⟩ = false := by
  obtain ⟨vs, h1, h2⟩ := h
  have hl : vs.length = n := by
    obtain ⟨A', c', e, _, _⟩ := h1.form rfl
    cases e
    rfl
  have hv := h2.2 k (by omega)
  obtain ⟨A', c', e, _⟩ := hv.form
  rw [e] at hv
  unfold OwnV at h1
  rw [hl] at h1
  refine ⟨A', c', ?_, hv, World.ownsRow.frozenAt h1 k⟩
  rw [World.ownsRow.cellAt h1 k (by omega), ← e]
  have : k < vs.length := by omega
  simp [this]
theorem Owns.put {w : World} {B : Nat} {vs : List Value} {xss : ML} {v : Value} {xs : List Nat} (h : Owns w B vs xss) (hv : Own w B v xs) (k : Nat) : Owns w B (vs.set k v) (xss.set k xs) := by
  refine ⟨by rw [List.length_set, List.length_set, h.1], fun i hi => ?_⟩
  rw [List.length_set] at hi
  have hi2 : i < xss.length := by rw [← h.1]; exact hi
  rw [List.getD_eq_getElem?_getD, List.getD_eq_getElem?_getD, List.getElem?_set, List.getElem?_set]
  by_cases e : k = i
  · subst e
    rw [if_pos rfl, if_pos rfl, if_pos hi, if_pos hi2]
    exact hv
  · rw [if_neg e, if_neg e, ← List.getD_eq_getElem?_getD, ← List.getD_eq_getElem?_getD]
    exact h.2 i hi
/-- A row of the call's own comes to a place. -/
theorem OwnMt.put {w : World} {B g n c : Nat} {xss : ML} {v : Value} {xs : List Nat} (h : OwnMt w B (.slice (some ⟨g, 0, none⟩) n c) xss) (hv : Own w B v xs) (k : Nat) :
    OwnMt (w.setCell ⟨g, k, none⟩ v) B (.slice (some ⟨g, 0, none⟩) n c) (xss.set k xs) := by
  obtain ⟨vs, h1, h2⟩ := h
  have hl : vs.length = n := by
    obtain ⟨A', c', e, _, _⟩ := h1.form rfl
    cases e
    rfl
  have h1' := h1
  unfold OwnV at h1
  have st := (World.ownsRow.stored (n := n) (by rw [hl] at h1; exact h1) k v)
  refine ⟨vs.set k v, ?_, ?_⟩
  · unfold OwnV
    rw [List.length_set, hl]
    exact st.1
  · have := (h2.put hv k).apart (us := vs) (u := .slice (some ⟨g, 0, none⟩) n c) h1' (w' := w.setCell ⟨g, k, none⟩ v) st.2
    exact this
/-- .. and the slices that were read ahead of it stand. -/
theorem Own.putIn {w : World} {B B' g n c k : Nat} {xss : ML} {u v : Value} {xs : List Nat} (h : Own w B' v xs) (hm : OwnMt w B (.slice (some ⟨g, 0, none⟩) n c) xss) : Own (w.setCell ⟨g, k, none⟩ u) B' v xs := by
  obtain ⟨vs, h1, _⟩ := hm
  exact h.apart h1 (grown_set w g k u)
theorem OwnMt.base {w : World} {B g n c : Nat} {xss : ML} (h : OwnMt w B (.slice (some ⟨g, 0, none⟩) n c) xss) : B ≤ g ∧ g < w.heap.size := by
  obtain ⟨vs, h1, _⟩ := h
  exact World.ownsRow.lt h1 g rfl
theorem OwnMt.below {w : World} {B g n c k : Nat} {xss : ML} {a : World} {u : Value} (h : OwnMt w B (.slice (some ⟨g, 0, none⟩) n c) xss) (hb : Below B a w) : Below B a (w.setCell ⟨g, k, none⟩ u) := hb.setCell h.base.1 _
/-- A row that is appended. -/
theorem OwnMt.snoc {w w' : World} {B : Nat} {v' v : Value} {vs : List Value} {u : Value} {xss : ML} {xs : List Nat} (h1 : OwnV w B v vs) (h2 : Owns w B vs xss) (hu : Own w B u xs) (ho : OwnV w' B v' (vs ++ [u])) (hg : w.grownBy w' v.ownBlock) : OwnMt w' B v' (xss ++ [xs]) :=
  ⟨vs ++ [u], ho, (h2.snoc hu).apart h1 hg⟩
/-- Whether rows are a matrix. -/
def isMt (xss : ML) : Bool := decide (1 ≤ xss.length ∧ xss.length ≤ 64 ∧ 1 ≤ (xss.getD 0 []).length ∧ (xss.getD 0 []).length ≤ 64 ∧ ∀ r ∈ xss, r.length = (xss.getD 0 []).length)
theorem isMt_shape {xss : ML} (h : isMt xss = true) (hb : ∀ r ∈ xss, ∀ x ∈ r, x < 256) : ∃ n m, 1 ≤ n ∧ n ≤ 64 ∧ 1 ≤ m ∧ m ≤ 64 ∧ Shape xss n m := by
  have h := of_decide_eq_true h
  exact ⟨_, _, h.1, h.2.1, h.2.2.1, h.2.2.2.1, ⟨rfl, h.2.2.2.2, hb⟩⟩
theorem Shape.isMt {xss : ML} {n m : Nat} (h : Shape xss n m) (h1 : 1 ≤ n) (h2 : n ≤ 64) (h3 : 1 ≤ m) (h4 : m ≤ 64) : isMt xss = true := by
  have e := (h.row (i := 0) (by omega)).1
  refine decide_eq_true ?_
  rw [e, h.high]
  exact ⟨h1, h2, h3, h4, h.wide⟩
theorem Shape.len_at {xss : ML} {n m : Nat} (h : Shape xss n m) (k : Nat) (hk : k < n) : (xss.getD k []).length = m := (h.row hk).1
theorem mem_getD {xss : ML} {k : Nat} (hk : k < xss.length) : xss.getD k [] ∈ xss := by
  have : xss.getD k [] = xss[k] := by simp [hk]
  rw [this]
  exact List.getElem_mem hk
end Go.Proofs.Yteebdlliaipnlaa
