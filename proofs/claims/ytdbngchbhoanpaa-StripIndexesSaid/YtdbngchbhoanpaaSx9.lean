/- Lists of rows of bytes that the call gathers in a slice of its own, the rows lying anywhere (handed in, or of the call's own): stores and appends, of one row or of a list of rows. Condition: fewer than 2 to the 40 rows. What the project's shard is to answer, said of its calls (to be shown of what lands). Condition: at most 1000000 rows of at most 1000000 numbers. The contract of shard.present: which rows are there, as a set; whether these are of one length. Condition: at most 14 rows. The contract of gf.Dot. Condition: there are at most 1000000 bytes. The contract of matrix's noughts. Condition: at most 128 rows of at most 128 numbers. The contract of matrix.One. No condition but the widths. -/
import Derived.Test.YtdbngchbhoanpaaSx7
import Derived.Test.YtdbngchbhoanpaaSx8
import Derived.Test.YtdbngchbhoanpaaSx5
import Derived.Test.YtdbngchbhoanpaaSx6
namespace Go.Proofs.Ytdbngchbhoanpaa
open Go.RowKit
/-- A row that lies apart from every list of rows whose blocks begin at B. -/
def RowOff (w : World) (B : Nat) (u : Value) (xs : List Nat) : Prop :=
  IsB w u xs ∧ (xs ≠ [] → ∀ b, u.ownBlock = some b → b < B ∨ ∃ cur fr, w.heap[b]? = some (.cells cur 5 fr))
theorem RowOff.nil (w : World) (B : Nat) : RowOff w B (.slice none 0 0) [] := ⟨⟨none, 0, rfl, fun h => absurd rfl h, fun _ => rfl, Nat.zero_le _, by decide⟩, fun h => absurd rfl h⟩
theorem IsB.blockLt {w : World} {u : Value} {xs : List Nat} (h : IsB w u xs) (hne : xs ≠ []) : ∀ b, u.ownBlock = some b → b < w.heap.size := by
  obtain ⟨A, c, rfl, hr, _⟩ := h
  obtain ⟨b, off, rfl, hc⟩ := hr hne
  intro b' e
  have e' : b = b' := by simpa [Value.ownBlock] using e
  subst e'
  exact cell_lt (hc 0 (List.length_pos_iff.2 hne))
theorem IsB.off {w : World} {B : Nat} {u : Value} {xs : List Nat} (h : IsB w u xs) (hB : w.heap.size ≤ B) : RowOff w B u xs :=
  ⟨h, fun hne b e => .inl (Nat.lt_of_lt_of_le (h.blockLt hne b e) hB)⟩
theorem Own.off {w : World} {B B' : Nat} {u : Value} {xs : List Nat} (h : Own w B' u xs) : RowOff w B u xs := by
  refine ⟨h.isB, fun hne b e => .inr ?_⟩
  unfold Own at h
  rcases h.2 with ⟨rfl, _⟩ | ⟨g, cap, cur, rfl, _, hh, _⟩
  · cases e
  · have e' : g = b := by simpa [Value.ownBlock] using e
    subst e'
    exact ⟨_, _, hh⟩
theorem RowOff.keep {w w' : World} {B : Nat} {u : Value} {xs : List Nat} (h : RowOff w B u xs) (hb : Below w.heap.size w w') : RowOff w' B u xs := by
  refine ⟨h.1.keep hb, fun hne b e => ?_⟩
  rcases h.2 hne b e with h1 | ⟨cur, fr, h1⟩
  · exact .inl h1
  · exact .inr ⟨cur, fr, by rw [hb.block b (heap_lt h1)]; exact h1⟩
theorem RowOff.ne {w : World} {B : Nat} {u v : Value} {vs : List Value} {xs : List Nat} (h : RowOff w B u xs) (hv : OwnV w B v vs) (hne : xs ≠ []) : ∀ b, u.ownBlock = some b → v.ownBlock ≠ some b := by
  intro b e q
  rcases h.2 hne b e with h1 | ⟨cur, fr, h1⟩
  · have := (World.ownsRow.lt hv b q).1
    omega
  · rcases hv.2 with ⟨rfl, _⟩ | ⟨g, cap, cur', rfl, _, hh, _⟩
    · cases q
    · have e' : g = b := by simpa [Value.ownBlock] using q
      subst e'
      rw [hh] at h1
      simp only [Option.some.injEq, Obj.cells.injEq] at h1
      exact absurd h1.2.1 (by decide)
theorem RowOff.grown {w w' : World} {B : Nat} {u v : Value} {vs : List Value} {xs : List Nat} (h : RowOff w B u xs) (hv : OwnV w B v vs) (hg : w.grownBy w' v.ownBlock) : RowOff w' B u xs := by
  refine ⟨?_, fun hne b e => ?_⟩
  · rcases xs with _ | ⟨x, r⟩
    · obtain ⟨A, c, e, _, hn⟩ := h.1
      exact ⟨A, c, e, fun q => absurd rfl q, hn⟩
    · refine h.1.turn (S := fun k => some k = v.ownBlock) (Turn.of_grown hg) (fun b e q => ?_)
      exact h.ne hv (by simp) b e q.symm
  · have hlt := h.1.blockLt hne b e
    rcases h.2 hne b e with h1 | ⟨cur, fr, h1⟩
    · exact .inl h1
    · exact .inr ⟨cur, fr, by rw [hg.block b hlt (fun q => h.ne hv hne b e q.symm)]; exact h1⟩
/-- A slice of slices at A reads as these rows, which lie apart. -/
def RowsOff (w : World) (B : Nat) (A : Option Addr) (xss : ML) : Prop := ∃ us, RdV w A us ∧ us.length = xss.length ∧ ∀ i, i < us.length → RowOff w B (us.getD i (.slice none 0 0)) (xss.getD i [])
theorem IsM.off {w : World} {B : Nat} {A : Option Addr} {xss : ML} (h : IsM w A xss) (hB : w.heap.size ≤ B) : RowsOff w B A xss := by
  obtain ⟨vs, h1, h2⟩ := h
  exact ⟨vs, h1, h2.1, fun i hi => (h2.2 i hi).off hB⟩
theorem RowsOff.isM {w : World} {B : Nat} {A : Option Addr} {xss : ML} (h : RowsOff w B A xss) : IsM w A xss := by
  obtain ⟨us, h1, h2, h3⟩ := h
  exact ⟨us, h1, h2, fun i hi => (h3 i hi).1⟩
theorem RowsOff.keep {w w' : World} {B : Nat} {A : Option Addr} {xss : ML} (h : RowsOff w B A xss) (hb : Below w.heap.size w w') : RowsOff w' B A xss := by
  obtain ⟨us, h1, h2, h3⟩ := h
  exact ⟨us, h1.below hb, h2, fun i hi => (h3 i hi).keep hb⟩
/-- A list of rows that the call gathers. -/
def Held (w : World) (B : Nat) (v : Value) (xss : ML) : Prop := ∃ vs, OwnV w B v vs ∧ vs.length = xss.length ∧ ∀ i, i < vs.length → RowOff w B (vs.getD i (.slice none 0 0)) (xss.getD i [])
theorem Held.nil (w : World) (B : Nat) : Held w B (.slice none 0 0) [] := ⟨[], OwnV.nil w B, rfl, fun _ h => absurd h (by simp)⟩
theorem Held.empty (w : World) : Held (w.alloc (.cells #[] 24)) w.heap.size (.slice (some ⟨w.heap.size, 0, none⟩) 0 0) [] :=
  ⟨[], ⟨rfl, .inr ⟨_, 0, #[], rfl, Nat.le_refl _, heap_alloc_new w _, Nat.le_refl _, Nat.zero_le _, rfl, rfl⟩⟩, rfl, fun _ h => absurd h (by simp)⟩
theorem Held.emptyAt {w : World} {B b : Nat} (hB : B ≤ w.heap.size) (hb : b = w.heap.size) : Held (w.alloc (.cells #[] 24)) B (.slice (some ⟨b, 0, none⟩) 0 0) [] := by
  subst hb
  exact ⟨[], ⟨rfl, .inr ⟨_, 0, #[], rfl, hB, heap_alloc_new w _, Nat.le_refl _, Nat.zero_le _, rfl, rfl⟩⟩, rfl, fun _ h => absurd h (by simp)⟩
theorem OwnMt.held {w : World} {B : Nat} {v : Value} {xss : ML} (h : OwnMt w B v xss) : Held w B v xss := by
  obtain ⟨vs, h1, h2⟩ := h
  exact ⟨vs, h1, h2.1, fun i hi => (h2.2 i hi).off⟩
theorem Held.form {w : World} {B : Nat} {v : Value} {xss : ML} {n : Nat} (h : Held w B v xss) (hn : xss.length = n) : ∃ A c, v = .slice A n c ∧ RowsOff w B A xss ∧ n ≤ 9223372036854775807 := by
  obtain ⟨vs, h1, h2, h3⟩ := h
  obtain ⟨A, c, e, hr, hl⟩ := h1.form (n := n) (by rw [h2, hn])
  exact ⟨A, c, e, ⟨vs, hr, h2, h3⟩, hl⟩
theorem Held.keep {w w' : World} {B : Nat} {v : Value} {xss : ML} (h : Held w B v xss) (hb : Below w.heap.size w w') : Held w' B v xss := by
  obtain ⟨vs, h1, h2, h3⟩ := h
  exact ⟨vs, h1.keep hb, h2, fun i hi => (h3 i hi).keep hb⟩
theorem Held.drewN {w : World} {B : Nat} {v : Value} {xss : ML} (h : Held w B v xss) (d : Nat) : Held (w.drewN d) B v xss := h
theorem Held.block {w : World} {B n : Nat} {v : Value} {W : ML} (h : Held w B v W) (hn : W.length = n) (h1 : 1 ≤ n) : ∃ g c, v = .slice (some ⟨g, 0, none⟩) n c := by
  obtain ⟨vs, o1, o2, _⟩ := h
  rcases o1.2 with ⟨q, q2⟩ | ⟨g, cap, cur, q, _⟩
  · omega
  · rw [o2, hn] at q
    exact ⟨g, cap, q⟩
theorem OwnV.nilc {w : World} {B n c : Nat} {A : Option Addr} {vs : List Value} (h : OwnV w B (.slice A n c) vs) : A = none → c = 0 := by
  rintro rfl
  rcases h.2 with ⟨q, _⟩ | ⟨g, cap, cur, q, _⟩
  · cases q; rfl
  · cases q
theorem Held.nilc {w : World} {B n c : Nat} {A : Option Addr} {xss : ML} (h : Held w B (.slice A n c) xss) : A = none → c = 0 := by
  obtain ⟨vs, h1, _⟩ := h
  exact h1.nilc
theorem OwnMt.nilc {w : World} {B n c : Nat} {A : Option Addr} {xss : ML} (h : OwnMt w B (.slice A n c) xss) : A = none → c = 0 := by
  obtain ⟨vs, h1, _⟩ := h
  exact h1.nilc
theorem Held.lens {w : World} {B g n c : Nat} {xss : ML} (h : Held w B (.slice (some ⟨g, 0, none⟩) n c) xss) : xss.length = n := by
  obtain ⟨vs, h1, h2, _⟩ := h
  obtain ⟨A', c', e, _, _⟩ := h1.form rfl
  cases e
  exact h2.symm
/-- At each place a slice that reads as the row. -/
theorem Held.row {w : World} {B g n c : Nat} {xss : ML} (h : Held w B (.slice (some ⟨g, 0, none⟩) n c) xss) (k : Nat) (hk : k < n) :
    ∃ A' c', w.cell? ⟨g, k, none⟩ = some (.slice A' (xss.getD k []).length c') ∧ RowOff w B (.slice A' (xss.getD k []).length c') (xss.getD k []) ∧ w.frozen? ⟨g, k, none⟩ = false ∧ (xss.getD k []).length ≤ c' ∧ c' ≤ 9223372036854775807 := by
  obtain ⟨vs, h1, h2, h3⟩ := h
  have hl : vs.length = n := by
    obtain ⟨A', c', e, _, _⟩ := h1.form rfl
    cases e
    rfl
  have hv := h3 k (by omega)
  obtain ⟨A', c', e, _, l1, l2⟩ := hv.1.form rfl
  rw [e] at hv
  unfold OwnV at h1
  rw [hl] at h1
  refine ⟨A', c', ?_, hv, World.ownsRow.frozenAt h1 k, l1, l2⟩
  rw [World.ownsRow.cellAt h1 k (by omega), ← e]
  have : k < vs.length := by omega
  simp [this]
/-- A row comes to a place. -/
theorem Held.put {w : World} {B g n c : Nat} {xss : ML} {u : Value} {xs : List Nat} (h : Held w B (.slice (some ⟨g, 0, none⟩) n c) xss) (hu : RowOff w B u xs) (k : Nat) :
    Held (w.setCell ⟨g, k, none⟩ u) B (.slice (some ⟨g, 0, none⟩) n c) (xss.set k xs) := by
  obtain ⟨vs, h1, h2, h3⟩ := h
  have hl : vs.length = n := by
    obtain ⟨A', c', e, _, _⟩ := h1.form rfl
    cases e
    rfl
  have h1' := h1
  unfold OwnV at h1
  rw [hl] at h1
  have st := World.ownsRow.stored h1 k u
  refine ⟨vs.set k u, ?_, by rw [List.length_set, List.length_set, h2], fun i hi => ?_⟩
  · unfold OwnV
    rw [List.length_set, hl]
    exact st.1
  · rw [List.length_set] at hi
    have hi2 : i < xss.length := by rw [← h2]; exact hi
    rw [List.getD_eq_getElem?_getD, List.getD_eq_getElem?_getD, List.getElem?_set, List.getElem?_set]
    by_cases e : k = i
    · subst e
      rw [if_pos rfl, if_pos rfl, if_pos hi, if_pos hi2]
      exact hu.grown h1' st.2
    · rw [if_neg e, if_neg e, ← List.getD_eq_getElem?_getD, ← List.getD_eq_getElem?_getD]
      exact (h3 i hi).grown h1' st.2
theorem RowOff.putIn {w : World} {B g n c k : Nat} {xss : ML} {u v : Value} {xs : List Nat} (h : RowOff w B v xs) (hm : Held w B (.slice (some ⟨g, 0, none⟩) n c) xss) : RowOff (w.setCell ⟨g, k, none⟩ u) B v xs := by
  obtain ⟨vs, h1, _⟩ := hm
  exact h.grown h1 (grown_set w g k u)
theorem Held.base {w : World} {B g n c : Nat} {xss : ML} (h : Held w B (.slice (some ⟨g, 0, none⟩) n c) xss) : B ≤ g ∧ g < w.heap.size := by
  obtain ⟨vs, h1, _⟩ := h
  exact World.ownsRow.lt h1 g rfl
theorem Held.below {w : World} {B g n c k : Nat} {xss : ML} {a : World} {u : Value} (h : Held w B (.slice (some ⟨g, 0, none⟩) n c) xss) (hb : Below B a w) : Below B a (w.setCell ⟨g, k, none⟩ u) := hb.setCell h.base.1 _
theorem getD_appV {α : Type} (d : α) (vs us : List α) (i : Nat) : (vs ++ us).getD i d = if i < vs.length then vs.getD i d else us.getD (i - vs.length) d := by
  simp only [List.getD_eq_getElem?_getD]
  by_cases h : i < vs.length
  · rw [if_pos h, List.getElem?_append_left h]
  · rw [if_neg h, List.getElem?_append_right (by omega)]
/-- Rows that come behind. -/
theorem Held.app {w w' : World} {B : Nat} {v v' : Value} {vs us : List Value} {xss yss : ML} (h1 : OwnV w B v vs) (h2 : vs.length = xss.length) (h3 : ∀ i, i < vs.length → RowOff w B (vs.getD i (.slice none 0 0)) (xss.getD i []))
    (u2 : us.length = yss.length) (u3 : ∀ i, i < us.length → RowOff w B (us.getD i (.slice none 0 0)) (yss.getD i [])) (ho : OwnV w' B v' (vs ++ us)) (hg : w.grownBy w' v.ownBlock) : Held w' B v' (xss ++ yss) := by
  refine ⟨vs ++ us, ho, by rw [List.length_append, List.length_append, h2, u2], fun i hi => ?_⟩
  rw [List.length_append] at hi
  rw [getD_appV, getD_appV, ← h2]
  by_cases e : i < vs.length
  · rw [if_pos e, if_pos e]
    exact (h3 i e).grown h1 hg
  · rw [if_neg e, if_neg e]
    exact (u3 _ (by omega)).grown h1 hg
theorem RowOff.one {w : World} {B : Nat} {u : Value} {xs : List Nat} (h : RowOff w B u xs) : u.oneCell' = true := by
  obtain ⟨A, c, rfl, _⟩ := h.1
  rfl
/-- An append of one row. -/
theorem wpList_append_held {w : World} {ops : Array Oper} {rest : List Oper} {o : Oper} {a : Act} {Q : Exit → Act → World → Prop} (hgd : o.guard = none) (s x : Operand)
    (ho : o.op = .call { callee := .builtin .append, args := #[s, x], argTypes := #[50, 50] })
    (B : Nat) (v : Value) (xss : ML) (hs : a.eval s = v) (hown : Held w B v xss)
    (b : Nat) (u : Value) (xs : List Nat) (hx : a.eval x = .slice (some ⟨b, 0, none⟩) 1 1) (hu : w.cell? ⟨b, 0, none⟩ = some u) (hr : RowOff w B u xs)
    (hlen : xss.length + 1 ≤ 1099511627776) (hbase : B ≤ w.heap.size)
    (h : ∀ v' w', Held w' B v' (xss ++ [xs]) → Below B w w' → wpList Try.prog ops Q rest (a.put o.dst v') w') : wpList Try.prog ops Q (o :: rest) a w := by
  obtain ⟨vs, h1, h2, h3⟩ := hown
  exact wpList_append_row hgd s x ho B v vs hs h1 b u hx hu hr.one (by rw [h2]; exact hlen) hbase (fun v' w' k1 k2 k3 => h v' w' (Held.app h1 h2 h3 (us := [u]) (yss := [xs]) rfl (fun i hi => by
    have : i = 0 := by simp at hi; omega
    subst this
    exact hr) k1 k3) k2)
/-- What an append of many rows leaves, whatever it is that is appended. -/
theorem held_news {w : World} {A : Option Addr} {B : Nat} {yss : ML} {us : List Value} (h1 : RdV w A us) (h3 : ∀ i, i < us.length → RowOff w B (us.getD i (.slice none 0 0)) (yss.getD i [])) (ad : Addr) (hA : A = some ad) :
    (∀ j u, us[j]? = some u → w.cell? (ad.add j) = some u) ∧ ∀ u ∈ us, u.oneCell' = true := by
  subst hA
  refine ⟨fun j u hu => ?_, fun u hu => ?_⟩
  · have hj : j < us.length := by
      rcases Nat.lt_or_ge j us.length with h | h
      · exact h
      · simp [h] at hu
    obtain ⟨b, off, e, hc⟩ := h1 (by intro e; rw [e] at hj; simp at hj)
    cases e
    have := hc j hj
    simp [hj] at hu
    subst hu
    simpa [add_off, hj] using this
  · obtain ⟨i, hi, rfl⟩ := List.getElem_of_mem hu
    have := (h3 i hi).one
    simpa [hi] using this
theorem wpList_append_helds {w : World} {ops : Array Oper} {rest : List Oper} {o : Oper} {a : Act} {Q : Exit → Act → World → Prop} (hgd : o.guard = none) (s x : Operand)
    (ho : o.op = .call { callee := .builtin .append, args := #[s, x], argTypes := #[50, 50] })
    (B : Nat) (v : Value) (xss : ML) (hs : a.eval s = v) (hown : Held w B v xss)
    (A : Option Addr) (m c : Nat) (yss : ML) (hx : a.eval x = .slice A m c) (hr : RowsOff w B A yss) (hm : yss.length = m) (hc : A = none → c = 0)
    (hlen : xss.length + m ≤ 1099511627776) (hbase : B ≤ w.heap.size)
    (h : ∀ v' w', Held w' B v' (xss ++ yss) → Below B w w' → wpList Try.prog ops Q rest (a.put o.dst v') w') : wpList Try.prog ops Q (o :: rest) a w := by
  obtain ⟨i0, hi, hz0, hz1, hz2⟩ := info_parts Try.info_rows
  obtain ⟨vs, h1, h2, h3⟩ := hown
  obtain ⟨us, u1, u2, u3⟩ := hr
  have fin : ∀ v' w', w'.ownsRow B 24 1 v' (vs.length + us.length) (vs ++ us) → w.grownBy w' v.ownBlock → wpList Try.prog ops Q rest (a.put o.dst v') w' := by
    intro v' w' hown' hg
    exact h v' w' (Held.app h1 h2 h3 u2 u3 (by unfold OwnV; simpa using hown') hg) ((Below.refl _ _).grown hg hbase fun k hk => (h1.lt k hk).1)
  have h1' := h1
  unfold OwnV at h1'
  have hum : us.length = m := by rw [u2, hm]
  rcases A with _ | ad
  · have hus : us = [] := by
      rcases us with _ | ⟨y, ys⟩
      · rfl
      · obtain ⟨_, _, e, _⟩ := u1 (by simp)
        cases e
    subst hus
    have hm0 : m = 0 := by simpa using hum.symm
    subst hm0
    have hc0 := hc rfl
    subst hc0
    exact wpList_append_own_none hgd s x _ ho B 24 i0 1 Try.underlying50 hi v _ _ hs h1' hx (fin v w (by simpa using h1') (World.grownBy.refl w _))
  · obtain ⟨n1, n2⟩ := held_news u1 u3 ad rfl
    subst hum
    exact wpList_append_own w hgd s x _ ho B 24 i0 (.slice none 0 0) 1 24 Try.underlying50 hi hz0 hz1 hz2 rfl (by decide) v _ _ hs h1' ad us.length c us hx (by simp) n1 n2 (by rw [h2]; unfold maxLen; omega) (by rw [h2]; omega) hbase (fun v' w' k1 k2 _ => fin v' w' k1 k2)
/-- Another list of rows, in another block. -/
theorem Held.kept {w w' : World} {B : Nat} {v u : Value} {xss yss : ML} (h : Held w B v xss) (hu : Held w B u yss) (hg : w.grownBy w' u.ownBlock) (ha : v.ownBlock = none ∨ v.ownBlock ≠ u.ownBlock) : Held w' B v xss := by
  obtain ⟨vs, h1, h2, h3⟩ := h
  obtain ⟨us, u1, _⟩ := hu
  exact ⟨vs, World.ownsRow.kept h1 hg ha, h2, fun i hi => (h3 i hi).grown u1 hg⟩
theorem Held.lt {w : World} {B : Nat} {v : Value} {xss : ML} (h : Held w B v xss) : ∀ g, v.ownBlock = some g → B ≤ g ∧ g < w.heap.size := by
  obtain ⟨vs, h1, _⟩ := h
  exact World.ownsRow.lt h1
/-- An append of one row, and where it goes. -/
theorem wpList_append_held_at {w : World} {ops : Array Oper} {rest : List Oper} {o : Oper} {a : Act} {Q : Exit → Act → World → Prop} (hgd : o.guard = none) (s x : Operand)
    (ho : o.op = .call { callee := .builtin .append, args := #[s, x], argTypes := #[50, 50] })
    (B : Nat) (v : Value) (xss : ML) (hs : a.eval s = v) (hown : Held w B v xss)
    (b : Nat) (u : Value) (xs : List Nat) (hx : a.eval x = .slice (some ⟨b, 0, none⟩) 1 1) (hu : w.cell? ⟨b, 0, none⟩ = some u) (hr : RowOff w B u xs)
    (hlen : xss.length + 1 ≤ 1099511627776) (hbase : B ≤ w.heap.size)
    (h : ∀ v' w', Held w' B v' (xss ++ [xs]) → Below B w w' → w.grownBy w' v.ownBlock → (v'.ownBlock = v.ownBlock ∨ v'.ownBlock = some w.heap.size) → wpList Try.prog ops Q rest (a.put o.dst v') w') : wpList Try.prog ops Q (o :: rest) a w := by
  obtain ⟨i0, hi, hz0, hz1, hz2⟩ := info_parts Try.info_rows
  obtain ⟨vs, h1, h2, h3⟩ := hown
  have h1' := h1
  unfold OwnV at h1'
  refine wpList_append_own_at w hgd s x _ ho B 24 i0 (.slice none 0 0) 1 24 Try.underlying50 hi hz0 hz1 hz2 rfl (by decide) v _ _ hs h1' ⟨b, 0, none⟩ 1 1 [u] hx rfl ?_ ?_ (by rw [h2]; unfold maxLen; omega) (by rw [h2]; omega) hbase ?_
  · intro j z hj
    match j, hj with
    | 0, hj => simp at hj; subst hj; simpa [Addr.add] using hu
  · intro z hz; simp at hz; subst hz; exact hr.one
  · intro v' w' k1 k2 _ k4
    exact h v' w' (Held.app h1 h2 h3 (us := [u]) (yss := [xs]) rfl (fun i hi => by
      have : i = 0 := by simp at hi; omega
      subst this
      exact hr) (by unfold OwnV; simpa using k1) k2) ((Below.refl _ _).grown k2 hbase fun k hk => (h1.lt k hk).1) k2 k4
/-- The same inside a region that draws its order. -/
theorem step_append_held {w : World} {ops : Array Oper} {o : Oper} {a : Act} {K : Act → World → Prop} {Q : Exit → Act → World → Prop} {E : Prop} (hgd : o.guard = none) (s x : Operand)
    (ho : o.op = .call { callee := .builtin .append, args := #[s, x], argTypes := #[50, 50] })
    (B : Nat) (v : Value) (xss : ML) (hs : a.eval s = v) (hown : Held w B v xss)
    (b : Nat) (u : Value) (xs : List Nat) (hx : a.eval x = .slice (some ⟨b, 0, none⟩) 1 1) (hu : w.cell? ⟨b, 0, none⟩ = some u) (hr : RowOff w B u xs)
    (hlen : xss.length + 1 ≤ 1099511627776) (hbase : B ≤ w.heap.size)
    (h : ∀ v' w', Held w' B v' (xss ++ [xs]) → Below B w w' → K (a.put o.dst v') w') : if Region.wanted o (yielded ops a.tmps) = true then Oper.wp Try.prog o a w K Q else E := by
  have hw : Region.wanted o (yielded ops a.tmps) = true := by simp [Region.wanted, hgd]
  rw [if_pos hw]
  obtain ⟨i0, hi, hz0, hz1, hz2⟩ := info_parts Try.info_rows
  obtain ⟨vs, h1, h2, h3⟩ := hown
  have h1' := h1
  unfold OwnV at h1'
  refine wp_append_own w s x _ ho B 24 i0 (.slice none 0 0) 1 24 Try.underlying50 hi hz0 hz1 hz2 rfl (by decide) v _ _ hs h1' ⟨b, 0, none⟩ 1 1 [u] hx rfl ?_ ?_ (by rw [h2]; unfold maxLen; omega) (by rw [h2]; omega) hbase ?_
  · intro j z hj
    match j, hj with
    | 0, hj => simp at hj; subst hj; simpa [Addr.add] using hu
  · intro z hz; simp at hz; subst hz; exact hr.one
  · intro v' w' k1 k2 _
    exact h v' w' (Held.app h1 h2 h3 (us := [u]) (yss := [xs]) rfl (fun i hi => by
      have : i = 0 := by simp at hi; omega
      subst this
      exact hr) (by unfold OwnV; simpa using k1) k2) ((Below.refl _ _).grown k2 hbase fun k hk => (h1.lt k hk).1)
theorem step_append_helds {w : World} {ops : Array Oper} {o : Oper} {a : Act} {K : Act → World → Prop} {Q : Exit → Act → World → Prop} {E : Prop} (hgd : o.guard = none) (s x : Operand)
    (ho : o.op = .call { callee := .builtin .append, args := #[s, x], argTypes := #[50, 50] })
    (B : Nat) (v : Value) (xss : ML) (hs : a.eval s = v) (hown : Held w B v xss)
    (A : Option Addr) (m c : Nat) (yss : ML) (hx : a.eval x = .slice A m c) (hr : RowsOff w B A yss) (hm : yss.length = m) (hc : A = none → c = 0)
    (hlen : xss.length + m ≤ 1099511627776) (hbase : B ≤ w.heap.size)
    (h : ∀ v' w', Held w' B v' (xss ++ yss) → Below B w w' → K (a.put o.dst v') w') : if Region.wanted o (yielded ops a.tmps) = true then Oper.wp Try.prog o a w K Q else E := by
  have hw : Region.wanted o (yielded ops a.tmps) = true := by simp [Region.wanted, hgd]
  rw [if_pos hw]
  obtain ⟨i0, hi, hz0, hz1, hz2⟩ := info_parts Try.info_rows
  obtain ⟨vs, h1, h2, h3⟩ := hown
  obtain ⟨us, u1, u2, u3⟩ := hr
  have fin : ∀ v' w', w'.ownsRow B 24 1 v' (vs.length + us.length) (vs ++ us) → w.grownBy w' v.ownBlock → K (a.put o.dst v') w' := by
    intro v' w' hown' hg
    exact h v' w' (Held.app h1 h2 h3 u2 u3 (by unfold OwnV; simpa using hown') hg) ((Below.refl _ _).grown hg hbase fun k hk => (h1.lt k hk).1)
  have h1' := h1
  unfold OwnV at h1'
  have hum : us.length = m := by rw [u2, hm]
  rcases A with _ | ad
  · have hus : us = [] := by
      rcases us with _ | ⟨y, ys⟩
      · rfl
      · obtain ⟨_, _, e, _⟩ := u1 (by simp)
        cases e
    subst hus
    have hm0 : m = 0 := by simpa using hum.symm
    subst hm0
    have hc0 := hc rfl
    subst hc0
    have hrun := run_append_owned_none (P := Try.prog) (w := w) B 50 o.type 24 i0 1 Try.underlying50 hi v _ _ h1'
    unfold Oper.wp
    simp [execOp, ho, resolve, invoke, builtin, hs, hx, hrun, Result.andThen]
    exact fin v w (by simpa using h1') (World.grownBy.refl w _)
  · obtain ⟨n1, n2⟩ := held_news u1 u3 ad rfl
    subst hum
    exact wp_append_own w s x _ ho B 24 i0 (.slice none 0 0) 1 24 Try.underlying50 hi hz0 hz1 hz2 rfl (by decide) v _ _ hs h1' ad us.length c us hx (by simp) n1 n2 (by rw [h2]; unfold maxLen; omega) (by rw [h2]; omega) hbase (fun v' w' k1 k2 _ => fin v' w' k1 k2)
end Go.Proofs.Ytdbngchbhoanpaa
namespace Go.Proofs.Ytdbngchbhoanpaa
open Go.RowKit
/-- Rows that come in small. -/
def SmallM (w : World) (A : Option Addr) (n : Nat) (W : ML) : Prop := IsM w A W ∧ W.length = n ∧ n ≤ 1000000 ∧ (∀ r ∈ W, ∀ x ∈ r, x < 256) ∧ ∀ r ∈ W, r.length ≤ 1000000
/-- A list of rows that is handed back. -/
def OutM (w : World) (v : Value) (L : ML) : Prop := ∃ A n c, v = .slice A n c ∧ L.length = n ∧ IsM w A L ∧ (A = none → c = 0) ∧ n ≤ 9223372036854775807
def I64 (z : Int) : Prop := -9223372036854775808 ≤ z ∧ z ≤ 9223372036854775807
def SumsC : Prop := ∀ (A : Option Addr) (n c : Nat) (m : Int) (D : ML) (w : World), SmallM w A n D → I64 m →
  Calls Try.prog 39 #[.slice A n c, .int .i64 m] w fun e w' => ∃ v L E, e = .returned (.tuple #[v, .int .i64 E]) ∧ OutM w' v L ∧ OwnMt w' w.heap.size v L ∧ sumsAns D m L E ∧ Below w.heap.size w w'
theorem SmallM.below {w w' : World} {A : Option Addr} {n : Nat} {W : ML} (h : SmallM w A n W) (k : Below w.heap.size w w') : SmallM w' A n W := ⟨h.1.below k, h.2⟩
theorem SmallM.million {w : World} {A : Option Addr} {n : Nat} {W : ML} (h : SmallM w A n W) : ∀ r ∈ W, r.length ≤ 1000000 := fun r hr => Nat.le_trans (h.2.2.2.2 r hr) (by decide)
theorem two_rows (w : World) (a b : Nat) (ha : a < 256) (hb : b < 256) {g1 g2 g3 : Nat} (e1 : g1 = w.heap.size) (e2 : g2 = (w.alloc (.cells #[.int .u8 (a : Int)] 5)).heap.size) (e3 : g3 = ((w.alloc (.cells #[.int .u8 (a : Int)] 5)).alloc (.cells #[.int .u8 (b : Int)] 5)).heap.size) :
    SmallM (((w.alloc (.cells #[.int .u8 (a : Int)] 5)).alloc (.cells #[.int .u8 (b : Int)] 5)).alloc (.cells #[.slice (some ⟨g1, 0, none⟩) 1 1, .slice (some ⟨g2, 0, none⟩) 1 1] 24)) (some ⟨g3, 0, none⟩) 2 [[a], [b]] := by
  have h1 := ((isB_one w a e1).keep (below_alloc _ (.cells #[.int .u8 (b : Int)] 5))).keep (below_alloc _ (.cells #[.slice (some ⟨g1, 0, none⟩) 1 1, .slice (some ⟨g2, 0, none⟩) 1 1] 24))
  have h2 := (isB_one _ b e2).keep (below_alloc _ (.cells #[.slice (some ⟨g1, 0, none⟩) 1 1, .slice (some ⟨g2, 0, none⟩) 1 1] 24))
  refine ⟨⟨_, rdV_new _ _ _ _ _ e3 rfl, rfl, fun i hi => ?_⟩, rfl, by omega, fun r hr x hx => ?_, fun r hr => ?_⟩
  · match i, hi with
    | 0, _ => exact h1
    | 1, _ => exact h2
    | n + 2, h => exact absurd h (by simp)
  · rcases List.mem_cons.1 hr with rfl | hr
    · simp at hx; omega
    · rcases List.mem_cons.1 hr with rfl | hr
      · simp at hx; omega
      · exact absurd hr (by simp)
  · rcases List.mem_cons.1 hr with rfl | hr
    · simp
    · rcases List.mem_cons.1 hr with rfl | hr
      · simp
      · exact absurd hr (by simp)
theorem known_ans {L : ML} {E : Int} (h : sumsAns [[1], [2]] 1 L E) : L = [[123]] ∧ E = 0 := by
  rcases h with ⟨_, _, q⟩ | ⟨rfl, _, rfl⟩
  · exfalso
    rcases q with q | q | q | ⟨r, hr, q⟩
    · exact absurd q (by decide)
    · exact absurd q (by decide)
    · exact absurd q (by decide)
    · rcases List.mem_cons.1 hr with rfl | hr
      · exact absurd q (by decide)
      · rcases List.mem_cons.1 hr with rfl | hr
        · exact absurd q (by decide)
        · exact absurd hr (by simp)
  · exact ⟨by decide +kernel, rfl⟩
end Go.Proofs.Ytdbngchbhoanpaa
namespace Go.Proofs.Ytdbngchbhoanpaa
open Go.RowKit
/-- Row i is there. -/
def isThere (W : ML) (i : Nat) : Bool := !(W.getD i []).isEmpty
theorem isThere_yes {W : ML} {i : Nat} (h : (W.getD i []).length ≠ 0) : isThere W i = true := by
  unfold isThere
  cases q : W.getD i [] with
  | nil => rw [q] at h; exact absurd rfl h
  | cons a b => rfl
theorem isThere_no {W : ML} {i : Nat} (h : (W.getD i []).length = 0) : isThere W i = false := by
  unfold isThere
  rw [List.eq_nil_of_length_eq_zero h]
  rfl
/-- The rows that are there are of one length. -/
def even (W : ML) : Prop := ∃ n, ∀ r ∈ W, r ≠ [] → r.length = n
/-- What present tells. -/
def presAns (W : ML) (v : Value) : Prop := (∃ x : Nat, v = .tuple #[.int .u64 (x : Int), .bool true] ∧ isSet (isThere W) W.length x ∧ even W) ∨ (v = .tuple #[.int .u64 0, .bool false] ∧ ¬ even W)
theorem present_digs {W : ML} {x : Nat} (h : isSet (isThere W) W.length x) (h14 : W.length ≤ 14) : digs x = present W := by
  rw [isSet_digs h h14]
  rfl
theorem isSet_none {p : Nat → Bool} {i x : Nat} (h : isSet p i x) (h0 : x = 0) : ∀ j, j < i → p j = false := by
  subst h0
  intro j hj
  have := h.2 j
  simp [hj] at this
  exact this
theorem isSet_some {p : Nat → Bool} {i x : Nat} (h : isSet p i x) (h0 : x ≠ 0) : ∃ j, j < i ∧ p j = true := by
  apply Decidable.byContradiction
  intro q
  apply h0
  apply Nat.eq_of_testBit_eq
  intro j
  rw [h.2, Nat.zero_testBit]
  by_cases hj : j < i
  · have : p j = false := by
      cases hp : p j with
      | false => rfl
      | true => exact absurd ⟨j, hj, hp⟩ q
    rw [this, Bool.and_false]
  · rw [decide_eq_false hj, Bool.false_and]
theorem two_pow_lt (j : Nat) (h : j < 64) : 2 ^ j < 18446744073709551616 := Nat.pow_lt_pow_right (m := j) (n := 64) (by decide) h
set_option maxHeartbeats 1600000 in
theorem present_any (A : Option Addr) (n c : Nat) (W : ML) (w : World) (hA : IsM w A W) (hn : W.length = n) (h14 : n ≤ 14) :
    Calls Try.prog 49 #[.slice A n c] w fun e w' => ∃ v, e = .returned v ∧ presAns W v ∧ w = w' := by
  have HA := hide hA
  have HN := hide hn
  clear hA hn
  go_enter Try.func49, Try.ntmps49
  go_wp2_with fail
  go_loop [4, 5, 10] (fun s l i => ∃ k x z : Nat, k ≤ n ∧ i = .int .i64 (k : Int) ∧ s = .int .u64 (x : Int) ∧ l = .int .i64 (z : Int) ∧ z ≤ 9223372036854775807 ∧ isSet (isThere W) k x ∧ (∀ j, j < k → (W.getD j []).length ≠ 0 → (W.getD j []).length = z)) (fun _ _ i => n - (intOf i).toNat)
  case atStart => exact ⟨0, 0, 0, Nat.zero_le _, rfl, rfl, rfl, by decide, isSet_zero _, fun j h => absurd h (Nat.not_lt_zero j)⟩
  case round =>
    obtain ⟨k, x, z, hk, rfl, rfl, rfl, hz, hset, hall⟩ := hrel
    by_cases hlt : k < n
    · obtain ⟨b, off, A', c', rfl, ck, ib, l1, m1⟩ := HA.out.at_ k (by rw [HN.out]; exact hlt)
      obtain ⟨q, hq⟩ : ∃ q, q = (W.getD k []).length := ⟨_, rfl⟩
      rw [← hq] at ck ib l1
      have hx := hset.1
      by_cases e0 : q = 0
      · subst e0
        have HS := hide (isSet_no hset (isThere_no hq.symm))
        have HL := hide (show ∀ j, j < k + 1 → (W.getD j []).length ≠ 0 → (W.getD j []).length = z from fun j hj hne => by
          rcases Nat.lt_or_ge j k with h | h
          · exact hall j h hne
          · obtain rfl : j = k := by omega
            exact absurd hq.symm hne)
        clear hset hall hq ib
        go_wp2_with fail
        go_round
        case rel => exact ⟨k + 1, x, z, by omega, by go_num, rfl, rfl, hz, HS.out, HL.out⟩
        case measure => simp [intOf]; omega
      · have HQ := hide hq
        have HS := hide (isSet_yes hset (by omega) (isThere_yes (by rw [← hq]; exact e0)))
        have f1 : ((q : Int) == 0) = false := by simp; omega
        have hp := two_pow_lt k (by omega)
        have sh : IntKind.u64.wrap (2 ^ k) = ((2 ^ k : Nat) : Int) := by
          rw [show (2 : Int) ^ k = ((2 ^ k : Nat) : Int) by simp, IntKind.wrap_u64]
          exact Int.emod_eq_of_lt (Int.natCast_nonneg _) (Int.ofNat_lt.2 hp)
        have or1 : bits .or .u64 (x : Int) ((2 ^ k : Nat) : Int) = ((x ||| 2 ^ k : Nat) : Int) := u64_or_nat _ _ (by omega) hp
        obtain ⟨p2, hp2⟩ : ∃ p, p = 2 ^ k := ⟨_, rfl⟩
        rw [← hp2] at sh or1
        obtain ⟨y, hy⟩ : ∃ y, y = x ||| p2 := ⟨_, rfl⟩
        rw [← hy] at or1
        rw [← hp2, ← hy] at HS
        have fin : (x = 0 ∨ q = z) → ∀ j, j < k + 1 → (W.getD j []).length ≠ 0 → (W.getD j []).length = q := fun hd j hj hne => by
          rcases Nat.lt_or_ge j k with h | h
          · rcases hd with h0 | h0
            · have := isSet_none hset h0 j h
              rw [isThere_yes hne] at this
              cases this
            · rw [hall j h hne, h0]
          · obtain rfl : j = k := by omega
            exact HQ.out.symm
        by_cases x0 : x = 0
        · have FN := hide (fin (.inl x0))
          have f2 : ((x : Int) != 0) = false := by simp; omega
          clear hset hall hq ib fin hy hp2 hp x0
          go_wp2_with fail
          go_round
          case rel => exact ⟨k + 1, y, q, by omega, by go_num, rfl, rfl, by omega, HS.out, FN.out⟩
          case measure => simp [intOf]; omega
        · have f2 : ((x : Int) != 0) = true := by simp; omega
          by_cases e1 : q = z
          · have FN := hide (fin (.inr e1))
            have f3 : ((q : Int) != (z : Int)) = false := by simp; omega
            clear hset hall hq ib fin hy hp2 hp e1
            go_wp2_with fail
            go_round
            case rel => exact ⟨k + 1, y, q, by omega, by go_num, rfl, rfl, by omega, HS.out, FN.out⟩
            case measure => simp [intOf]; omega
          · have f3 : ((q : Int) != (z : Int)) = true := by simp; omega
            have ANS : Hid (¬ even W) := hide (fun ⟨N, hN⟩ => by
              obtain ⟨j, hj, hp⟩ := isSet_some hset x0
              have hjl : (W.getD j []).length ≠ 0 := fun h0 => by rw [isThere_no h0] at hp; cases hp
              have h1 := hN _ (mem_getD (xss := W) (k := j) (by rw [HN.out]; omega)) (fun h => hjl (by rw [h]; rfl))
              have h2 := hN _ (mem_getD (xss := W) (k := k) (by rw [HN.out]; omega)) (fun h => by rw [h] at hq; exact e0 (by simpa using hq))
              have h3 := hall j hj hjl
              omega)
            clear hset hall hq ib fin hy hp2 hp e1
            go_wp2_with fail
            go_ret2
            exact ⟨_, rfl, .inr ⟨rfl, ANS.out⟩, rfl⟩
    · obtain rfl : k = n := by omega
      have EV : Hid (even W) := hide ⟨z, fun r hr hne => by
        obtain ⟨j, hj, rfl⟩ := List.getElem_of_mem hr
        have e : W.getD j [] = W[j] := by simp [hj]
        have := hall j (by rw [← HN.out]; exact hj) (by rw [e]; exact fun h => hne (List.eq_nil_of_length_eq_zero h))
        rwa [e] at this⟩
      have HS := hide hset
      clear hall hset
      go_wp2_with fail
      go_ret2
      exact ⟨_, rfl, .inl ⟨x, rfl, by rw [HN.out]; exact HS.out, EV.out⟩, rfl⟩
end Go.Proofs.Ytdbngchbhoanpaa
namespace Go.Proofs.Ytdbngchbhoanpaa
open Go.RowKit
set_option maxHeartbeats 1600000 in
theorem dot_any (A B : Option Addr) (n c d : Nat) (xs ys : List Nat) (w : World) (hA : Rd w A xs) (hB : Rd w B ys) (hn : xs.length = n) (hm : ys.length = n) (hb : ∀ x ∈ xs, x < 256) (hc : ∀ y ∈ ys, y < 256) (h3 : n ≤ 1000000) :
    Calls Try.prog 63 #[.slice A n c, .slice B n d] w fun e w' => e = .returned (.tuple #[.int .u8 (dotS xs ys n : Nat), .int .i64 0]) ∧ w = w' := by
  have HA := hide hA
  have HN := hide hn
  have HB := hide hb
  have HA2 := hide hB
  have HN2 := hide hm
  have HB2 := hide hc
  have hne0 : ((n : Int) != (n : Int)) = false := by simp
  clear hA hn hb hB hm hc
  go_enter Try.func63, Try.ntmps63
  go_wp2_with fail
  go_loop [6, 16] (fun s i => ∃ k : Nat, k ≤ n ∧ i = .int .i64 (k : Int) ∧ s = .int .u8 (dotS xs ys k : Nat)) (fun _ i => n - (intOf i).toNat)
  case atStart => exact ⟨0, Nat.zero_le _, rfl, rfl⟩
  case round =>
    obtain ⟨k, hk, rfl, rfl⟩ := hrel
    by_cases hlt : k < n
    · obtain ⟨b', off', rfl, ck, hx⟩ := at_place HA.out HN.out HB.out k hlt
      obtain ⟨b2', off2', rfl, ck2, hy⟩ := at_place HA2.out HN2.out HB2.out k hlt
      have hs := dotS_lt (ys := ys) HB.out k
      have hds : dotS xs ys (k + 1) = dotS xs ys k ^^^ gmul (xs.getD k 0) (ys.getD k 0) := rfl
      obtain ⟨x, hxe⟩ : ∃ x, x = xs.getD k 0 := ⟨_, rfl⟩
      obtain ⟨y, hye⟩ : ∃ y, y = ys.getD k 0 := ⟨_, rfl⟩
      obtain ⟨s, hse⟩ : ∃ s, s = dotS xs ys k := ⟨_, rfl⟩
      rw [← hxe] at ck hx hds
      rw [← hye] at ck2 hy hds
      rw [← hse] at hs hds ⊢
      have hxo := u8_xor_nat s (gmul x y) hs (gmul_lt y hx)
      rw [← hds] at hxo
      clear hds hxe hye hse
      go_wp2_with fail
      refine (mul_any x y _ hx hy).mono ?_
      rintro e w1 ⟨rfl, rfl⟩
      go_wp2_with fail
      go_round
      case rel => exact ⟨k + 1, by omega, by go_num, rfl⟩
      case measure => simp [intOf]; omega
    · obtain rfl : k = n := by omega
      go_wp2_with fail
      go_ret2
      exact ⟨rfl, rfl⟩
theorem dot_unlike (A B : Option Addr) (n m c d : Nat) (w : World) (h : n ≠ m) :
    Calls Try.prog 63 #[.slice A n c, .slice B m d] w fun e w' => e = .returned (.tuple #[.int .u8 0, .int .i64 1]) ∧ w = w' := by
  have hne0 : ((n : Int) != (m : Int)) = true := by simp; omega
  go_enter Try.func63, Try.ntmps63
  go_wp2_with fail
  go_ret2
  exact ⟨rfl, rfl⟩
end Go.Proofs.Ytdbngchbhoanpaa
namespace Go.Proofs.Ytdbngchbhoanpaa
open Go.RowKit
set_option maxHeartbeats 1600000 in
theorem noughts_any (n m : Nat) (w : World) (h1 : n ≤ 128) (h2 : m ≤ 128) :
    Calls Try.prog 54 #[.int .i64 (n : Int), .int .i64 (m : Int)] w fun e w' => ∃ g R, e = .returned (.slice (some ⟨g, 0, none⟩) n n) ∧ Grid w' w.heap.size g n m R (fun _ _ => G.zero) ∧ Below w.heap.size w w' := by
  obtain ⟨i0, hi, hz0, hz1, hz2⟩ := info_parts Try.info_rows
  obtain ⟨i1, hj, hy0, hy1, hy2⟩ := info_parts Try.info_u8'
  have HJ := hide (And.intro hj (And.intro hy0 (And.intro hy1 hy2)))
  clear hj hy0 hy1 hy2
  go_enter Try.func54, Try.ntmps54
  go_wp2_with (at_make; refine halt ?_)
  refine ⟨?_⟩
  refine wpList_make_full _ rfl (.tmp 7) (.tmp 7) 50 rfl w.heap.size 24 i0 (.slice none 0 0) 1 Try.underlying50 hi hz0 hz1 .i64 .i64 n n n rfl rfl rfl rfl (by rw [hz2]; omega) (by unfold maxLen; omega) (Nat.le_refl _) ?_
  intro w2 h2' g2
  have o2 := made_nils h2'
  have b2 : Below w.heap.size w w2 := (Below.refl _ _).grown g2 (Nat.le_refl _) (by simp)
  clear h2' g2 hi hz0 hz1 hz2 i0
  obtain ⟨g, hg⟩ : ∃ g, g = w.heap.size := ⟨_, rfl⟩
  rw [← hg] at o2 b2 ⊢
  have HG := hide hg
  have O2 := hide o2
  have B2 := hide b2
  clear hg o2 b2
  go_wp2_with fail
  go_loopw [11] (fun i wr => ∃ k : Nat, k ≤ n ∧ i = .int .i64 (k : Int) ∧ Hid (∃ R, Begun wr g g n m k R) ∧ Hid (Below g w wr)) (fun i _ => n - (intOf i).toNat)
  case atStart =>
    refine ⟨0, Nat.zero_le _, rfl, hide ⟨fun _ => 0, ⟨?_, fun i hi => absurd hi (Nat.not_lt_zero i), fun i j hi => absurd hi (Nat.not_lt_zero i)⟩⟩, hide B2.out⟩
    have e : ((List.range n).map fun i => if i < 0 then rowV 0 m else .slice none 0 0) = List.replicate n (.slice none 0 0) := by
      apply List.ext_getElem
      · simp
      · intro i h1 h2
        simp
    rw [e]
    exact O2.out
  case round =>
    obtain ⟨k, hk, rfl, hbeg, hbel⟩ := hrel
    by_cases hlt : k < n
    · obtain ⟨hj, hy0, hy1, hy2⟩ := HJ.out
      go_wp2_with (at_make; refine halt ?_)
      refine ⟨?_⟩
      refine wpList_make_full _ rfl (.tmp 16) (.tmp 16) 24 rfl wr.heap.size 5 i1 (.int .u8 0) 1 Try.underlying24 hj hy0 hy1 .i64 .i64 m m m rfl rfl rfl rfl (by rw [hy2]; omega) (by unfold maxLen; omega) (Nat.le_refl _) ?_
      intro w3 h3 g3
      clear hj hy0 hy1 hy2
      obtain ⟨R, hR⟩ := hbeg.out
      have hgs : g ≤ wr.heap.size := by rw [HG.out]; exact hbel.out.size
      have z3 := made_zeros h3 k
      have k3 : Below wr.heap.size wr w3 := (Below.refl _ _).grown g3 (Nat.le_refl _) (by simp)
      have nx := hR.next hlt (z3.more hgs) k3 (Nat.le_refl _)
      have f3 := (hR.outer.keep k3).frozen k
      have c3 : w3.cell? ⟨g, k, none⟩ = some (.slice none 0 0) := by
        rw [(hR.outer.keep k3).cell]
        simp [hlt]
      have NX := hide (show ∃ R, Begun (w3.setCell ⟨g, k, none⟩ (.slice (some ⟨wr.heap.size, 0, none⟩) m m)) g g n m (k + 1) R from ⟨_, nx⟩)
      have BL := hide (show Below g w (w3.setCell ⟨g, k, none⟩ (.slice (some ⟨wr.heap.size, 0, none⟩) m m)) from (hbel.out.trans (k3.mono hgs)).setCell (Nat.le_refl _) _)
      clear hgs h3 g3 z3 k3 nx hR hbeg hbel
      go_wp2_with fail
      go_roundw
      case rel => exact ⟨k + 1, by omega, by go_num, NX, BL⟩
      case measure => simp [intOf]; omega
    · obtain rfl : k = n := by omega
      go_wp2_with fail
      go_ret
      obtain ⟨R, hR⟩ := hbeg.out
      exact ⟨g, R, rfl, by rw [← HG.out]; exact hR.done, by rw [← HG.out]; exact hbel.out⟩
end Go.Proofs.Ytdbngchbhoanpaa
namespace Go.Proofs.Ytdbngchbhoanpaa
open Go.RowKit
theorem one_bad (n : Int) (w : World) (h : n < 1 ∨ 64 < n) : Calls Try.prog 47 #[.int .i64 n] w fun e w' => e = .returned (.tuple #[.slice none 0 0, .int .i64 1]) ∧ w = w' := by
  by_cases h1 : n < 1
  · clear h
    go_enter Try.func47, Try.ntmps47
    go_wp2_with fail
    go_ret2
    exact ⟨rfl, rfl⟩
  · have h2 : 64 < n := by omega
    clear h
    go_enter Try.func47, Try.ntmps47
    go_wp2_with fail
    go_ret2
    exact ⟨rfl, rfl⟩
set_option maxHeartbeats 800000 in
theorem one_any (n : Nat) (w : World) (h1 : 1 ≤ n) (h2 : n ≤ 64) :
    Calls Try.prog 47 #[.int .i64 (n : Int)] w fun e w' => ∃ g, e = .returned (.tuple #[.slice (some ⟨g, 0, none⟩) n n, .int .i64 0]) ∧ OwnMt w' w.heap.size (.slice (some ⟨g, 0, none⟩) n n) (oneL n) ∧ Below w.heap.size w w' := by
  have g1 : ¬ (n : Int) < 1 := by omega
  have g2 : ¬ 64 < (n : Int) := by omega
  have HNO := hide (noughts_any n n w (by omega) (by omega))
  obtain ⟨B, hB⟩ : ∃ B, B = w.heap.size := ⟨_, rfl⟩
  rw [← hB] at HNO ⊢
  clear hB
  go_enter Try.func47, Try.ntmps47
  go_wp2_with fail
  refine HNO.out.mono ?_
  rintro e w1 ⟨g, R, rfl, gr, kb⟩
  have GR := hide gr
  have KB := hide kb
  clear gr kb HNO
  go_wp2_with fail
  go_loopw [17] (fun i wr => ∃ k : Nat, k ≤ n ∧ i = .int .i64 (k : Int) ∧ Hid (∃ f, Grid wr B g n n R f ∧ ∀ a b, f a b = if a < k then dl a b else G.zero) ∧ Hid (Below B w wr)) (fun i _ => n - (intOf i).toNat)
  case atStart => exact ⟨0, Nat.zero_le _, rfl, hide ⟨_, GR.out, fun a b => (if_neg (Nat.not_lt_zero a)).symm⟩, KB⟩
  case round =>
    obtain ⟨k, hk, rfl, hf, hbel⟩ := hrel
    by_cases hlt : k < n
    · obtain ⟨f, gf, ef⟩ := hf.out
      have c1 := gf.cell k hlt
      have c2 := gf.num k k hlt hlt
      have c3 := gf.frozen k k hlt
      have st := gf.set k k hlt G.one
      have BL := hide (gf.below k k hlt (.int .u8 (G.one.n : Int)) hbel.out)
      have NX : Hid (∃ f, Grid (wr.setCell ⟨R k, k, none⟩ (.int .u8 (G.one.n : Int))) B g n n R f ∧ ∀ a b, f a b = if a < k + 1 then dl a b else G.zero) := by
        refine ⟨_, st, fun a b => ?_⟩
        by_cases e1 : a = k
        · subst e1
          rw [if_pos (by omega)]
          by_cases e2 : b = a
          · subst e2; rw [upd_at, dl_eq]
          · rw [upd_col e2, ef, if_neg (by omega), dl_ne (fun q => e2 q.symm)]
        · rw [upd_row e1, ef]
          by_cases e2 : a < k
          · rw [if_pos e2, if_pos (by omega)]
          · rw [if_neg e2, if_neg (by omega)]
      have e1 : ((G.one.n : Nat) : Int) = 1 := rfl
      rw [e1] at NX BL
      clear st gf ef hf hbel e1
      go_wp2_with fail
      go_roundw
      case rel => exact ⟨k + 1, by omega, by go_num, NX, BL⟩
      case measure => simp [intOf]; omega
    · obtain rfl : k = n := by omega
      go_wp2_with fail
      go_ret2
      obtain ⟨f, gf, ef⟩ := hf.out
      refine ⟨g, rfl, ?_, hbel.out⟩
      have := gf.own (by omega) (by omega)
      rwa [show laid k k f = oneL k from laid_congr (fun i hi j _ => by rw [ef, if_pos hi])] at this
end Go.Proofs.Ytdbngchbhoanpaa
