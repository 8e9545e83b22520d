/- Rows of rows of bytes that the call makes: a slice of slices that grows by one, each with bytes of its own. Condition: fewer than 2 to the 40 rows. -/
import Derived.Test.YtmledochidefeaaRdV
namespace Go.Proofs.Ytmledochidefeaa
open Go.RowKit
/-- A slice of the call's own that holds these slices. -/
def OwnV (w : World) (B : Nat) (v : Value) (vs : List Value) : Prop := w.ownsRow B 33 1 v vs.length vs
/-- Each of these slices is of the call's own, and holds these bytes. -/
def Owns (w : World) (B : Nat) (vs : List Value) (xss : List (List Nat)) : Prop := vs.length = xss.length ∧ ∀ i, i < vs.length → Own w B (vs.getD i (.slice none 0 0)) (xss.getD i [])
theorem OwnV.nil (w : World) (B : Nat) : OwnV w B (.slice none 0 0) [] := World.ownsRow_nil _ _ _ _
theorem OwnV.form {w : World} {B : Nat} {v : Value} {vs : List Value} {n : Nat} (h : OwnV w B v vs) (hn : vs.length = n) : ∃ A c, v = .slice A n c ∧ RdV w A vs ∧ n ≤ 9223372036854775807 := by
  subst hn
  unfold OwnV at h
  rcases h.2 with ⟨rfl, hn⟩ | ⟨g, cap, cur, rfl, _, _, c1, c2, _⟩
  · refine ⟨none, 0, by rw [hn], fun hne => ?_, by omega⟩
    exact absurd (List.eq_nil_of_length_eq_zero hn) hne
  · refine ⟨_, _, rfl, fun _ => ⟨g, 0, rfl, fun i hi => ?_⟩, by unfold maxLen at c2; omega⟩
    rw [Nat.zero_add, h.cellAt i (by omega)]
    simp [hi]
theorem OwnV.keep {w w' : World} {B : Nat} {v : Value} {vs : List Value} (h : OwnV w B v vs) (hb : Below w.heap.size w w') : OwnV w' B v vs := by
  unfold OwnV at h ⊢
  refine ⟨h.1, ?_⟩
  rcases h.2 with hn | ⟨g, cap, cur, hv, h1, h2, r⟩
  · exact .inl hn
  · refine .inr ⟨g, cap, cur, hv, h1, ?_, r⟩
    rw [hb.block g ?_]
    · exact h2
    · exact (h.lt g (by rw [hv]; rfl)).2
theorem OwnV.more {w : World} {B B' : Nat} {v : Value} {vs : List Value} (h : OwnV w B v vs) (hb : B' ≤ B) : OwnV w B' v vs := by
  unfold OwnV at h ⊢
  refine ⟨h.1, ?_⟩
  rcases h.2 with hn | ⟨g, cap, cur, hv, h1, r⟩
  · exact .inl hn
  · exact .inr ⟨g, cap, cur, hv, by omega, r⟩
theorem Owns.keep {w w' : World} {B : Nat} {vs : List Value} {xss : List (List Nat)} (h : Owns w B vs xss) (hb : Below w.heap.size w w') : Owns w' B vs xss := ⟨h.1, fun i hi => (h.2 i hi).keep hb⟩
theorem Owns.isBs {w : World} {B : Nat} {vs : List Value} {xss : List (List Nat)} (h : Owns w B vs xss) : IsBs w vs xss := ⟨h.1, fun i hi => (h.2 i hi).isB⟩
theorem Owns.nil (w : World) (B : Nat) : Owns w B [] [] := ⟨rfl, fun _ h => absurd h (by simp)⟩
theorem Owns.more {w : World} {B B' : Nat} {vs : List Value} {xss : List (List Nat)} (h : Owns w B vs xss) (hb : B' ≤ B) : Owns w B' vs xss := ⟨h.1, fun i hi => (h.2 i hi).more hb⟩
/-- Bytes of the call's own are none of the blocks in which slices of slices lie. -/
theorem Own.apart {w w' : World} {B B' : Nat} {v u : Value} {xs : List Nat} {vs : List Value} (h : Own w B v xs) (hv : OwnV w B' u vs) (hg : w.grownBy w' u.ownBlock) : Own w' B v xs := by
  unfold Own OwnV at *
  refine World.ownsRow.kept h hg ?_
  rcases h.2 with ⟨rfl, _⟩ | ⟨g, cap, cur, rfl, _, hh, _⟩
  · exact .inl rfl
  · right
    rcases hv.2 with ⟨rfl, _⟩ | ⟨g', cap', cur', rfl, _, hh', _⟩
    · intro e; cases e
    · intro e
      have e' : g = g' := by simpa [Value.ownBlock] using e
      subst e'
      rw [hh] at hh'
      simp only [Option.some.injEq, Obj.cells.injEq] at hh'
      exact absurd hh'.2.1 (by decide)
theorem Owns.apart {w w' : World} {B B' : Nat} {u : Value} {vs us : List Value} {xss : List (List Nat)} (h : Owns w B vs xss) (hv : OwnV w B' u us) (hg : w.grownBy w' u.ownBlock) : Owns w' B vs xss := ⟨h.1, fun i hi => (h.2 i hi).apart hv hg⟩
theorem Owns.snoc {w : World} {B : Nat} {vs : List Value} {xss : List (List Nat)} {v : Value} {xs : List Nat} (h : Owns w B vs xss) (hv : Own w B v xs) : Owns w B (vs ++ [v]) (xss ++ [xs]) := by
  refine ⟨by rw [List.length_append, List.length_append, h.1]; rfl, fun i hi => ?_⟩
  rw [List.length_append] at hi
  simp only [List.getD_eq_getElem?_getD]
  by_cases hlt : i < vs.length
  · rw [List.getElem?_append_left hlt, List.getElem?_append_left (by rw [← h.1]; exact hlt), ← List.getD_eq_getElem?_getD, ← List.getD_eq_getElem?_getD]
    exact h.2 i hlt
  · have e : i = vs.length := by simp at hi; omega
    subst e
    rw [List.getElem?_append_right (Nat.le_refl _), List.getElem?_append_right (by rw [h.1]; exact Nat.le_refl _), h.1, Nat.sub_self]
    exact hv
theorem Try.info_rows : (Try.prog.info? 33).map (fun i => (i.zero, i.size, i.bytes)) = some (some (.slice none 0 0), 1, 24) := by kernel_rfl
theorem wpList_append_row {w : World} {ops : Array Oper} {rest : List Oper} {o : Oper} {a : Act} {Q : Exit → Act → World → Prop} (hgd : o.guard = none) (s x : Operand)
    (ho : o.op = .call { callee := .builtin .append, args := #[s, x], argTypes := #[38, 38] })
    (B : Nat) (v : Value) (vs : List Value) (hs : a.eval s = v) (hown : OwnV w B v vs)
    (b : Nat) (u : Value) (hx : a.eval x = .slice (some ⟨b, 0, none⟩) 1 1) (hu : w.cell? ⟨b, 0, none⟩ = some u) (h1 : u.oneCell' = true)
    (hlen : vs.length + 1 ≤ 1099511627776) (hbase : B ≤ w.heap.size)
    (h : ∀ v' w', OwnV w' B v' (vs ++ [u]) → Below B w w' → w.grownBy w' v.ownBlock → wpList Try.prog ops Q rest (a.put o.dst v') w') : wpList Try.prog ops Q (o :: rest) a w := by
  obtain ⟨i0, hi, hz0, hz1, hz2⟩ := info_parts Try.info_rows
  refine wpList_append_own w hgd s x _ ho B 33 i0 (.slice none 0 0) 1 24 Try.underlying38 hi hz0 hz1 hz2 rfl (by decide) v _ _ hs hown ⟨b, 0, none⟩ 1 1 [u] hx rfl ?_ ?_ (by unfold maxLen; omega) (by omega) hbase ?_
  · intro j z hj
    match j, hj with
    | 0, hj => simp at hj; subst hj; simpa [Addr.add] using hu
  · intro z hz; simp at hz; subst hz; exact h1
  · intro v' w' h2 h3 _
    exact h v' w' (by unfold OwnV; simpa using h2) ((Below.refl _ _).grown h3 hbase fun k hk => (hown.lt k hk).1) h3
theorem cell_new (w : World) (u : Value) (e : TypeId) : (w.alloc (.cells #[u] e)).cell? ⟨w.heap.size, 0, none⟩ = some u := by
  rw [cell_of_row _ _ _ _ _ (0, 0) (heap_alloc_new w _)]
  rfl
end Go.Proofs.Ytmledochidefeaa
