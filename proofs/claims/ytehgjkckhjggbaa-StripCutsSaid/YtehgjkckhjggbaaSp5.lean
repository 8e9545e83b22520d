/- Bytes as slice values, and the law of an append of bytes to a slice of the call's own, whatever the appended slice is (nil, empty or not). Conditions: the lengths together are below 2 to the 47. Rows of rows of bytes that are read: a slice of slices, each with bytes. No condition. Rows of rows of bytes that the call makes: a slice of slices that grows by one, each with bytes of its own. Condition: fewer than 2 to the 40 rows. Rows of rows of bytes that are read. No condition. A store into bytes of the call's own. No conditions. Blocks of the call's own with their cells written out. No condition. Rows that are laid place by place; rows that came in, at a place; the sum of products. It names nothing of the program. Matrices as lists of rows of bytes: product, One, the code, picks. It names nothing of the program. -/
import Derived.Test.YtehgjkckhjggbaaSp4
import Derived.Laws.AppendOwnNone
import Derived.OpenShut
import Derived.Maps.Range
import Derived.Maps.AppendAt
import Derived.RegionTactic
import Derived.ChangeAlike
import Derived.Test.YtehgjkckhjggbaaSp2
namespace Go.Proofs.Ytehgjkckhjggbaa
open Go.RowKit
/-- A place at which the walk stops. -/
structure Halt (p : Prop) : Prop where
  out : p
theorem halt {p : Prop} (h : Halt p) : p := h.out
/-- The value is a slice that reads as these bytes. -/
def IsB (w : World) (v : Value) (xs : List Nat) : Prop := ∃ A c, v = .slice A xs.length c ∧ Rd w A xs ∧ (A = none → c = 0) ∧ xs.length ≤ c ∧ c ≤ 9223372036854775807
theorem Own.more {w : World} {B B' : Nat} {v : Value} {l : List Nat} (h : Own w B v l) (hb : B' ≤ B) : Own w B' v l := by
  unfold Own at h ⊢
  refine ⟨h.1, ?_⟩
  rcases h.2 with hn | ⟨g, cap, cur, hv, h1, r⟩
  · exact .inl hn
  · exact .inr ⟨g, cap, cur, hv, by omega, r⟩
theorem add_off (b off j : Nat) : (⟨b, off, none⟩ : Addr).add j = ⟨b, off + j, none⟩ := by
  unfold Addr.add; split <;> simp_all
theorem Own.isB {w : World} {B : Nat} {v : Value} {xs : List Nat} (h : Own w B v xs) : IsB w v xs := by
  unfold Own at h
  rcases h.2 with ⟨rfl, hn⟩ | ⟨g, cap, cur, rfl, _, _, c1, c2, _⟩
  · refine ⟨none, 0, by rw [hn], fun hne => ?_, fun _ => rfl, by omega, by decide⟩
    exact absurd (List.eq_nil_of_length_eq_zero hn) hne
  · refine ⟨_, _, rfl, fun _ => ⟨g, 0, rfl, fun i hi => ?_⟩, (fun h => by cases h), c1, by unfold maxLen at c2; omega⟩
    rw [Nat.zero_add, h.cellAt i (by omega)]
    simp [hi]
theorem IsB.keep {w w' : World} {v : Value} {xs : List Nat} (h : IsB w v xs) (hb : Below w.heap.size w w') : IsB w' v xs := by
  obtain ⟨A, c, e, hr, hn⟩ := h
  exact ⟨A, c, e, hr.below hb, hn⟩
theorem Try.info_u8' : (Try.prog.info? 5).map (fun i => (i.zero, i.size, i.bytes)) = some (some (.int .u8 0), 1, 1) := by kernel_rfl
theorem wpList_append_bytes {w : World} {ops : Array Oper} {rest : List Oper} {o : Oper} {a : Act} {Q : Exit → Act → World → Prop} (hgd : o.guard = none) (s x : Operand)
    (ho : o.op = .call { callee := .builtin .append, args := #[s, x], argTypes := #[23, 23] })
    (B : Nat) (v : Value) (xs : List Nat) (hs : a.eval s = v) (hown : Own w B v xs)
    (u : Value) (ys : List Nat) (hx : a.eval x = u) (hr : IsB w u ys)
    (hlen : xs.length + ys.length ≤ 140737488355328) (hbase : B ≤ w.heap.size)
    (h : ∀ v' w', Own w' B v' (xs ++ ys) → Below B w w' → wpList Try.prog ops Q rest (a.put o.dst v') w') : wpList Try.prog ops Q (o :: rest) a w := by
  obtain ⟨i0, hi, hz0, hz1, hz2⟩ := info_parts Try.info_u8'
  obtain ⟨A, c, rfl, hr, hn, _⟩ := hr
  have fin : ∀ v' w', w'.ownsRow B 5 1 v' (xs.length + ys.length) ((xs.map fun x : Nat => Value.int .u8 (x : Int)) ++ (ys.map fun x : Nat => Value.int .u8 (x : Int))) → w.grownBy w' v.ownBlock → wpList Try.prog ops Q rest (a.put o.dst v') w' := by
    intro v' w' hown' hg
    refine h v' w' (by unfold Own; simpa using hown') ((Below.refl _ _).grown hg hbase fun k hk => (hown.lt k hk).1)
  rcases A with _ | ad
  · have h0 := hn rfl
    subst h0
    have hys : ys = [] := by
      rcases ys with _ | ⟨y, ys⟩
      · rfl
      · obtain ⟨_, _, e, _⟩ := hr (by simp)
        cases e
    subst hys
    exact wpList_append_own_none hgd s x _ ho B 5 i0 1 Try.underlying23 hi v _ _ hs hown hx (fin v w (by simpa [Own] using hown) (World.grownBy.refl w _))
  · refine wpList_append_own w hgd s x _ ho B 5 i0 (.int .u8 0) 1 1 Try.underlying23 hi hz0 hz1 hz2 rfl (by decide) v _ _ hs hown ad ys.length c (ys.map fun x : Nat => Value.int .u8 (x : Int)) hx (by simp) ?_ ?_ (by unfold maxLen; omega) (by omega) hbase (fun v' w' h1 h2 _ => fin v' w' h1 h2)
    · intro j u hu
      have hj : j < ys.length := by
        rcases Nat.lt_or_ge j ys.length with h | h
        · exact h
        · simp [h] at hu
      obtain ⟨b, off, e, hc⟩ := hr (by intro e; rw [e] at hj; simp at hj)
      cases e
      have := hc j hj
      simp [hj] at hu
      subst hu
      simpa [add_off, hj] using this
    · intro u hu
      simp at hu
      obtain ⟨y, _, rfl⟩ := hu
      rfl
/-- What the walk is told of a slice of integers that came in. -/
def IsRow (k : IntKind) (w : World) (a : Option Addr) (len cap : Nat) (zs : List Int) : Prop :=
  (a = none ∧ len = 0 ∧ cap = 0 ∧ zs = []) ∨
  ∃ x, a = some x ∧ len ≤ cap ∧ cap ≤ maxLen ∧ zs.length = cap ∧ (∀ i, i < zs.length → w.cell? (x.add i) = some (.int k (zs.getD i 0))) ∧ ∀ n ∈ zs, (Lit.int k n).wf = true
/-- Bytes that came in read as bytes. -/
theorem IsRow.isB {w : World} {a : Option Addr} {len cap : Nat} {zs : List Int} (h : IsRow .u8 w a len cap zs) :
    ∃ xs : List Nat, xs.length = len ∧ (∀ x ∈ xs, x < 256) ∧ IsB w (.slice a len cap) xs ∧ len ≤ 9223372036854775807 := by
  rcases h with ⟨rfl, rfl, rfl, rfl⟩ | ⟨x, rfl, h1, h2, h3, hc, hw⟩
  · exact ⟨[], rfl, by simp, ⟨none, 0, rfl, fun h => absurd rfl h, fun _ => rfl, by decide, by decide⟩, by decide⟩
  · have hb : ∀ z ∈ zs, 0 ≤ z ∧ z ≤ 255 := fun z hz => bounds_u8 (hw z hz)
    refine ⟨(zs.take len).map Int.toNat, by simp; omega, ?_, ⟨some x, cap, by congr 1; simp; omega, ?_, (fun h => by cases h), by simp; omega, by unfold maxLen at h2; omega⟩, by unfold maxLen at h2; omega⟩
    · intro y hy
      simp only [List.mem_map] at hy
      obtain ⟨z, hz, rfl⟩ := hy
      have := hb z (List.mem_of_mem_take hz)
      omega
    · intro hne
      have hl : 0 < zs.length := by
        rcases zs with _ | ⟨z, zs⟩
        · simp at hne
        · simp
      obtain ⟨b, off, sp⟩ := x
      have hs0 := hc 0 hl
      have hsp : sp = none := by simpa [Addr.add] using World.cell?_spot hs0
      subst hsp
      refine ⟨b, off, rfl, fun i hi => ?_⟩
      have hi2 : i < len ∧ i < zs.length := by simp at hi; omega
      have := hc i hi2.2
      rw [add_off] at this
      rw [this]
      have hz := hb zs[i] (List.getElem_mem hi2.2)
      simp [hi2.1, hi2.2]
      omega
theorem IsB.drewN {w : World} {v : Value} {xs : List Nat} (h : IsB w v xs) (d : Nat) : IsB (w.drewN d) v xs := h
theorem IsB.rd {w : World} {A : Option Addr} {n c : Nat} {xs : List Nat} (h : IsB w (.slice A n c) xs) : Rd w A xs := by
  obtain ⟨A', c', e, r, _⟩ := h
  cases e
  exact r
theorem IsB.form {w : World} {v : Value} {xs : List Nat} {n : Nat} (h : IsB w v xs) (hn : xs.length = n) : ∃ A c, v = .slice A n c ∧ IsB w (.slice A n c) xs ∧ n ≤ c ∧ c ≤ 9223372036854775807 := by
  subst hn
  obtain ⟨A, c, e, r, h1, h2, h3⟩ := h
  exact ⟨A, c, e, ⟨A, c, rfl, r, h1, h2, h3⟩, h2, h3⟩
theorem byte_app {xs ys : List Nat} (h1 : ∀ x ∈ xs, x < 256) (h2 : ∀ x ∈ ys, x < 256) : ∀ x ∈ xs ++ ys, x < 256 := by
  intro x hx
  rcases List.mem_append.1 hx with h | h
  · exact h1 x h
  · exact h2 x h
theorem below_step {w a b : World} (h : Below w.heap.size w a) (k : Below a.heap.size a b) : Below w.heap.size w b := h.trans (k.mono h.size)
theorem below_draw {w a : World} (h : Below w.heap.size w a) (d : Nat) : Below w.heap.size w (a.drewN d) := below_drewN h d
theorem own_lit (w : World) (cs : Array Value) (xs : List Nat) (h : cs.toList = xs.map fun x : Nat => Value.int .u8 (x : Int)) (hl : xs.length ≤ 140737488355328) :
    Own (w.alloc (.cells cs 5)) w.heap.size (.slice (some ⟨w.heap.size, 0, none⟩) xs.length xs.length) xs := by
  have hs : cs.size = xs.length := by rw [← Array.length_toList, h]; simp
  have := World.ownsRow_lit (base := w.heap.size) (e := 5) (size := 1) w cs xs.length (Nat.le_refl _) (by unfold maxLen; omega) (by omega)
  rw [h] at this
  exact this
/-- A beginning of bytes. -/
theorem IsB.take {w : World} {A : Option Addr} {n c : Nat} {xs : List Nat} (h : IsB w (.slice A n c) xs) (k : Nat) (hk : k ≤ n) : IsB w (.slice A k c) (xs.take k) := by
  obtain ⟨A', c', e, r, h1, h2, h3⟩ := h
  cases e
  have hl : (xs.take k).length = k := by rw [List.length_take]; omega
  refine ⟨A, c, by rw [hl], ?_, h1, by omega, h3⟩
  intro hne
  obtain ⟨b, off, e, hc⟩ := r (by intro e; rw [e] at hne; simp at hne)
  refine ⟨b, off, e, fun i hi => ?_⟩
  have hi2 : i < k := by omega
  rw [hc i (by omega)]
  congr 2
  simp [hi2]
/-- Bytes that were handed in read the same where only what is new has been written. -/
theorem isB_new (w : World) (cs : Array Value) (xs : List Nat) (hl : cs.toList = xs.map fun x : Nat => Value.int .u8 (x : Int)) (h : xs.length ≤ 140737488355328) (b n : Nat) (hb : b = w.heap.size) (hn : n = xs.length) :
    IsB (w.alloc (.cells cs 5)) (.slice (some ⟨b, 0, none⟩) n n) xs := by
  subst hb; subst hn
  exact ⟨_, _, rfl, rd_new _ _ _ _ _ _ rfl hl, (fun h => by cases h), Nat.le_refl _, by omega⟩
theorem rd_at {w : World} {b off : Nat} {xs : List Nat} (h : ∀ i, i < xs.length → w.cell? ⟨b, off + i, none⟩ = some (.int .u8 ((xs.getD i 0 : Nat) : Int))) (hb : ∀ x ∈ xs, x < 256) (i : Nat) (hi : i < xs.length) :
    ∃ x : Nat, w.cell? ⟨b, off + i, none⟩ = some (.int .u8 (x : Int)) ∧ x < 256 ∧ x = xs.getD i 0 := by
  refine ⟨_, h i hi, ?_, rfl⟩
  have e : xs.getD i 0 = xs[i] := by simp [hi]
  rw [e]
  exact hb _ (List.getElem_mem hi)
end Go.Proofs.Ytehgjkckhjggbaa
namespace Go.Proofs.Ytehgjkckhjggbaa
open Go.RowKit
/-- A slice of slices that reads as these values. -/
def RdV (w : World) (A : Option Addr) (vs : List Value) : Prop :=
  vs ≠ [] → ∃ b off, A = some ⟨b, off, none⟩ ∧ ∀ i, i < vs.length → w.cell? ⟨b, off + i, none⟩ = some (vs.getD i (.slice none 0 0))
theorem RdV.below {w w' : World} {A : Option Addr} {vs : List Value} (h : RdV w A vs) (hb : Below w.heap.size w w') : RdV w' A vs := by
  intro hne
  obtain ⟨b, off, e, hc⟩ := h hne
  exact ⟨b, off, e, fun i hi => (hb.cell (cell_lt (hc i hi))).trans (hc i hi)⟩
theorem RdV.drewN {w : World} {A : Option Addr} {vs : List Value} (h : RdV w A vs) (n : Nat) : RdV (w.drewN n) A vs := h
/-- Values that read as these rows of bytes, one each. -/
def IsBs (w : World) (vs : List Value) (xss : List (List Nat)) : Prop := vs.length = xss.length ∧ ∀ i, i < vs.length → IsB w (vs.getD i (.slice none 0 0)) (xss.getD i [])
theorem IsBs.below {w w' : World} {vs : List Value} {xss : List (List Nat)} (h : IsBs w vs xss) (hb : Below w.heap.size w w') : IsBs w' vs xss := ⟨h.1, fun i hi => (h.2 i hi).keep hb⟩
theorem IsBs.drewN {w : World} {vs : List Value} {xss : List (List Nat)} (h : IsBs w vs xss) (n : Nat) : IsBs (w.drewN n) vs xss := h
theorem rdV_new (w : World) (cs : Array Value) (e : TypeId) (vs : List Value) (b : Nat) (hb : b = w.heap.size) (h : cs.toList = vs) : RdV (w.alloc (.cells cs e)) (some ⟨b, 0, none⟩) vs := by
  subst hb; subst h
  intro _
  refine ⟨_, 0, rfl, fun i hi => ?_⟩
  have hc : cs[i]? = some (cs.toList.getD i (.slice none 0 0)) := by
    rw [← Array.getElem?_toList]
    simp at hi
    simp [hi]
  rw [Nat.zero_add, ← hc]
  exact cell_of_row _ _ _ _ _ (0, 0) (heap_alloc_new w _)
end Go.Proofs.Ytehgjkckhjggbaa
namespace Go.Proofs.Ytehgjkckhjggbaa
open Go.RowKit
/-- A slice of the call's own that holds these slices. -/
def OwnV (w : World) (B : Nat) (v : Value) (vs : List Value) : Prop := w.ownsRow B 23 1 v vs.length vs
/-- Each of these slices is of the call's own, and holds these bytes. -/
def Owns (w : World) (B : Nat) (vs : List Value) (xss : List (List Nat)) : Prop := vs.length = xss.length ∧ ∀ i, i < vs.length → Own w B (vs.getD i (.slice none 0 0)) (xss.getD i [])
theorem OwnV.nil (w : World) (B : Nat) : OwnV w B (.slice none 0 0) [] := World.ownsRow_nil _ _ _ _
theorem OwnV.form {w : World} {B : Nat} {v : Value} {vs : List Value} {n : Nat} (h : OwnV w B v vs) (hn : vs.length = n) : ∃ A c, v = .slice A n c ∧ RdV w A vs ∧ n ≤ 9223372036854775807 := by
  subst hn
  unfold OwnV at h
  rcases h.2 with ⟨rfl, hn⟩ | ⟨g, cap, cur, rfl, _, _, c1, c2, _⟩
  · refine ⟨none, 0, by rw [hn], fun hne => ?_, by omega⟩
    exact absurd (List.eq_nil_of_length_eq_zero hn) hne
  · refine ⟨_, _, rfl, fun _ => ⟨g, 0, rfl, fun i hi => ?_⟩, by unfold maxLen at c2; omega⟩
    rw [Nat.zero_add, h.cellAt i (by omega)]
    simp [hi]
theorem OwnV.keep {w w' : World} {B : Nat} {v : Value} {vs : List Value} (h : OwnV w B v vs) (hb : Below w.heap.size w w') : OwnV w' B v vs := by
  unfold OwnV at h ⊢
  refine ⟨h.1, ?_⟩
  rcases h.2 with hn | ⟨g, cap, cur, hv, h1, h2, r⟩
  · exact .inl hn
  · refine .inr ⟨g, cap, cur, hv, h1, ?_, r⟩
    rw [hb.block g ?_]
    · exact h2
    · exact (h.lt g (by rw [hv]; rfl)).2
theorem OwnV.more {w : World} {B B' : Nat} {v : Value} {vs : List Value} (h : OwnV w B v vs) (hb : B' ≤ B) : OwnV w B' v vs := by
  unfold OwnV at h ⊢
  refine ⟨h.1, ?_⟩
  rcases h.2 with hn | ⟨g, cap, cur, hv, h1, r⟩
  · exact .inl hn
  · exact .inr ⟨g, cap, cur, hv, by omega, r⟩
theorem Owns.keep {w w' : World} {B : Nat} {vs : List Value} {xss : List (List Nat)} (h : Owns w B vs xss) (hb : Below w.heap.size w w') : Owns w' B vs xss := ⟨h.1, fun i hi => (h.2 i hi).keep hb⟩
theorem Owns.isBs {w : World} {B : Nat} {vs : List Value} {xss : List (List Nat)} (h : Owns w B vs xss) : IsBs w vs xss := ⟨h.1, fun i hi => (h.2 i hi).isB⟩
theorem Owns.nil (w : World) (B : Nat) : Owns w B [] [] := ⟨rfl, fun _ h => absurd h (by simp)⟩
theorem Owns.more {w : World} {B B' : Nat} {vs : List Value} {xss : List (List Nat)} (h : Owns w B vs xss) (hb : B' ≤ B) : Owns w B' vs xss := ⟨h.1, fun i hi => (h.2 i hi).more hb⟩
/-- Bytes of the call's own are none of the blocks in which slices of slices lie. -/
theorem Own.apart {w w' : World} {B B' : Nat} {v u : Value} {xs : List Nat} {vs : List Value} (h : Own w B v xs) (hv : OwnV w B' u vs) (hg : w.grownBy w' u.ownBlock) : Own w' B v xs := by
  unfold Own OwnV at *
  refine World.ownsRow.kept h hg ?_
  rcases h.2 with ⟨rfl, _⟩ | ⟨g, cap, cur, rfl, _, hh, _⟩
  · exact .inl rfl
  · right
    rcases hv.2 with ⟨rfl, _⟩ | ⟨g', cap', cur', rfl, _, hh', _⟩
    · intro e; cases e
    · intro e
      have e' : g = g' := by simpa [Value.ownBlock] using e
      subst e'
      rw [hh] at hh'
      simp only [Option.some.injEq, Obj.cells.injEq] at hh'
      exact absurd hh'.2.1 (by decide)
theorem Owns.apart {w w' : World} {B B' : Nat} {u : Value} {vs us : List Value} {xss : List (List Nat)} (h : Owns w B vs xss) (hv : OwnV w B' u us) (hg : w.grownBy w' u.ownBlock) : Owns w' B vs xss := ⟨h.1, fun i hi => (h.2 i hi).apart hv hg⟩
theorem Owns.snoc {w : World} {B : Nat} {vs : List Value} {xss : List (List Nat)} {v : Value} {xs : List Nat} (h : Owns w B vs xss) (hv : Own w B v xs) : Owns w B (vs ++ [v]) (xss ++ [xs]) := by
  refine ⟨by rw [List.length_append, List.length_append, h.1]; rfl, fun i hi => ?_⟩
  rw [List.length_append] at hi
  simp only [List.getD_eq_getElem?_getD]
  by_cases hlt : i < vs.length
  · rw [List.getElem?_append_left hlt, List.getElem?_append_left (by rw [← h.1]; exact hlt), ← List.getD_eq_getElem?_getD, ← List.getD_eq_getElem?_getD]
    exact h.2 i hlt
  · have e : i = vs.length := by simp at hi; omega
    subst e
    rw [List.getElem?_append_right (Nat.le_refl _), List.getElem?_append_right (by rw [h.1]; exact Nat.le_refl _), h.1, Nat.sub_self]
    exact hv
theorem Try.info_rows : (Try.prog.info? 23).map (fun i => (i.zero, i.size, i.bytes)) = some (some (.slice none 0 0), 1, 24) := by kernel_rfl
theorem wpList_append_row {w : World} {ops : Array Oper} {rest : List Oper} {o : Oper} {a : Act} {Q : Exit → Act → World → Prop} (hgd : o.guard = none) (s x : Operand)
    (ho : o.op = .call { callee := .builtin .append, args := #[s, x], argTypes := #[42, 42] })
    (B : Nat) (v : Value) (vs : List Value) (hs : a.eval s = v) (hown : OwnV w B v vs)
    (b : Nat) (u : Value) (hx : a.eval x = .slice (some ⟨b, 0, none⟩) 1 1) (hu : w.cell? ⟨b, 0, none⟩ = some u) (h1 : u.oneCell' = true)
    (hlen : vs.length + 1 ≤ 1099511627776) (hbase : B ≤ w.heap.size)
    (h : ∀ v' w', OwnV w' B v' (vs ++ [u]) → Below B w w' → w.grownBy w' v.ownBlock → wpList Try.prog ops Q rest (a.put o.dst v') w') : wpList Try.prog ops Q (o :: rest) a w := by
  obtain ⟨i0, hi, hz0, hz1, hz2⟩ := info_parts Try.info_rows
  refine wpList_append_own w hgd s x _ ho B 23 i0 (.slice none 0 0) 1 24 Try.underlying42 hi hz0 hz1 hz2 rfl (by decide) v _ _ hs hown ⟨b, 0, none⟩ 1 1 [u] hx rfl ?_ ?_ (by unfold maxLen; omega) (by omega) hbase ?_
  · intro j z hj
    match j, hj with
    | 0, hj => simp at hj; subst hj; simpa [Addr.add] using hu
  · intro z hz; simp at hz; subst hz; exact h1
  · intro v' w' h2 h3 _
    exact h v' w' (by unfold OwnV; simpa using h2) ((Below.refl _ _).grown h3 hbase fun k hk => (hown.lt k hk).1) h3
theorem cell_new (w : World) (u : Value) (e : TypeId) : (w.alloc (.cells #[u] e)).cell? ⟨w.heap.size, 0, none⟩ = some u := by
  rw [cell_of_row _ _ _ _ _ (0, 0) (heap_alloc_new w _)]
  rfl
end Go.Proofs.Ytehgjkckhjggbaa
namespace Go.Proofs.Ytehgjkckhjggbaa
open Go.RowKit
/-- A slice of slices at A reads as these rows. -/
def IsM (w : World) (A : Option Addr) (xss : List (List Nat)) : Prop := ∃ vs, RdV w A vs ∧ IsBs w vs xss
theorem IsM.below {w w' : World} {A : Option Addr} {xss : List (List Nat)} (h : IsM w A xss) (hb : Below w.heap.size w w') : IsM w' A xss := by
  obtain ⟨vs, h1, h2⟩ := h
  exact ⟨vs, h1.below hb, h2.below hb⟩
theorem IsM.drewN {w : World} {A : Option Addr} {xss : List (List Nat)} (h : IsM w A xss) (d : Nat) : IsM (w.drewN d) A xss := h
theorem IsM.at_ {w : World} {A : Option Addr} {xss : List (List Nat)} (h : IsM w A xss) (k : Nat) (hk : k < xss.length) :
    ∃ b off A' c, A = some ⟨b, off, none⟩ ∧ w.cell? ⟨b, off + k, none⟩ = some (.slice A' (xss.getD k []).length c) ∧ IsB w (.slice A' (xss.getD k []).length c) (xss.getD k []) ∧ (xss.getD k []).length ≤ c ∧ c ≤ 9223372036854775807 := by
  obtain ⟨vs, h1, h2, h3⟩ := h
  obtain ⟨b, off, e, hc⟩ := h1 (by intro e; rw [e] at h2; simp at h2; omega)
  have hv := h3 k (by omega)
  have ck := hc k (by omega)
  obtain ⟨A', c, e1, i1, l1, m1⟩ := hv.form rfl
  rw [e1] at ck
  exact ⟨b, off, A', c, e, ck, i1, l1, m1⟩
end Go.Proofs.Ytehgjkckhjggbaa
namespace Go.Proofs.Ytehgjkckhjggbaa
open Go.RowKit
theorem Own.stored {w : World} {B : Nat} {g n c : Nat} {xs : List Nat} (h : Own w B (.slice (some ⟨g, 0, none⟩) n c) xs) (hn : xs.length = n) (k z : Nat) :
    Own (w.setCell ⟨g, k, none⟩ (.int .u8 (z : Int))) B (.slice (some ⟨g, 0, none⟩) n c) (xs.set k z) := by
  subst hn
  unfold Own at h ⊢
  have := (World.ownsRow.stored h k (.int .u8 (z : Int))).1
  simpa [List.map_set] using this
theorem Own.at_ {w : World} {B : Nat} {v : Value} {xs : List Nat} {n : Nat} (h : Own w B v xs) (hn : xs.length = n) (h1 : 1 ≤ n) :
    ∃ g c, v = .slice (some ⟨g, 0, none⟩) n c ∧ B ≤ g ∧ n ≤ c ∧ c ≤ 9223372036854775807 ∧ (∀ k, k < n → w.cell? ⟨g, k, none⟩ = some (.int .u8 ((xs.getD k 0 : Nat) : Int))) ∧ ∀ k, w.frozen? ⟨g, k, none⟩ = false := by
  subst hn
  have h0 := h
  unfold Own at h
  rcases h.2 with ⟨rfl, hn⟩ | ⟨g, cap, cur, rfl, hb, hg, hc, hm, _⟩
  · omega
  · refine ⟨g, cap, rfl, hb, hc, by unfold maxLen at hm; omega, fun k hk => ?_, fun k => World.ownsRow.frozenAt h k⟩
    rw [World.ownsRow.cellAt h k (by omega)]
    simp [hk]
theorem xor8 (a b : Nat) (ha : a < 256) (hb : b < 256) : bits .xor .u8 (a : Int) (b : Int) = ((a ^^^ b : Nat) : Int) := u8_xor_nat a b ha hb
end Go.Proofs.Ytehgjkckhjggbaa
namespace Go.Proofs.Ytehgjkckhjggbaa
open Go.RowKit
theorem below_alloc (w : World) (o : Obj) : Below w.heap.size w (w.alloc o) := (Below.refl _ _).alloc (Nat.le_refl _) _
/-- A block of the call's own that holds these cells. -/
def Blk (w : World) (B : Nat) (e : TypeId) (g : Nat) (cs : List Value) : Prop := B ≤ g ∧ ∃ cur : Array Value, w.heap[g]? = some (.cells cur e (0, 0)) ∧ cur.toList = cs
theorem heap_lt {w : World} {g : Nat} {o : Obj} (h : w.heap[g]? = some o) : g < w.heap.size := (Array.getElem?_eq_some_iff.1 h).1
theorem Blk.lt {w : World} {B : Nat} {e : TypeId} {g : Nat} {cs : List Value} (h : Blk w B e g cs) : g < w.heap.size := by
  obtain ⟨_, cur, hg, _⟩ := h
  exact heap_lt hg
theorem Blk.cell {w : World} {B : Nat} {e : TypeId} {g : Nat} {cs : List Value} (h : Blk w B e g cs) (i : Nat) : w.cell? ⟨g, i, none⟩ = cs[i]? := by
  obtain ⟨_, cur, hg, rfl⟩ := h
  rw [cell_of_row w g i cur e (0, 0) hg]
  simp
theorem Blk.frozen {w : World} {B : Nat} {e : TypeId} {g : Nat} {cs : List Value} (h : Blk w B e g cs) (i : Nat) : w.frozen? ⟨g, i, none⟩ = false := by
  obtain ⟨_, cur, hg, rfl⟩ := h
  exact frozen_of_row w g i cur e hg
theorem Blk.stored {w : World} {B : Nat} {e : TypeId} {g : Nat} {cs : List Value} (h : Blk w B e g cs) (i : Nat) (u : Value) : Blk (w.setCell ⟨g, i, none⟩ u) B e g (cs.set i u) := by
  obtain ⟨hb, cur, hg, rfl⟩ := h
  exact ⟨hb, _, heap_setCell_same w g i cur e u hg, Array.toList_setIfInBounds ..⟩
theorem grown_set (w : World) (g i : Nat) (u : Value) : w.grownBy (w.setCell ⟨g, i, none⟩ u) (some g) :=
  ⟨rfl, rfl, rfl, by simp, fun k _ hk => heap_setCell_other w ⟨g, i, none⟩ k u (fun e => hk (by simp [e]))⟩
theorem Blk.new (w : World) {B : Nat} (e : TypeId) (cs : Array Value) (hB : B ≤ w.heap.size) : Blk (w.alloc (.cells cs e)) B e w.heap.size cs.toList := ⟨hB, cs, heap_alloc_new w _, rfl⟩
theorem Blk.kept {w w' : World} {B : Nat} {e : TypeId} {g : Nat} {cs : List Value} {row : Option Nat} (h : Blk w B e g cs) (hg : w.grownBy w' row) (hne : row ≠ some g) : Blk w' B e g cs := by
  have hl := h.lt
  obtain ⟨hb, cur, hh, rfl⟩ := h
  exact ⟨hb, cur, by rw [hg.block g hl (fun e => hne e.symm)]; exact hh, rfl⟩
theorem Blk.keep {w w' : World} {B : Nat} {e : TypeId} {g : Nat} {cs : List Value} (h : Blk w B e g cs) (hb : Below w.heap.size w w') : Blk w' B e g cs := by
  have hl := h.lt
  obtain ⟨hB, cur, hh, rfl⟩ := h
  exact ⟨hB, cur, by rw [hb.block g hl]; exact hh, rfl⟩
theorem Blk.more {w : World} {B B' : Nat} {e : TypeId} {g : Nat} {cs : List Value} (h : Blk w B e g cs) (hB : B' ≤ B) : Blk w B' e g cs := ⟨Nat.le_trans hB h.1, h.2⟩
theorem Blk.drewN {w : World} {B : Nat} {e : TypeId} {g : Nat} {cs : List Value} (h : Blk w B e g cs) (n : Nat) : Blk (w.drewN n) B e g cs := h
/-- Blocks of unlike types lie apart. -/
theorem Blk.ne {w : World} {B B' : Nat} {e e' : TypeId} {g g' : Nat} {cs cs' : List Value} (h : Blk w B e g cs) (h' : Blk w B' e' g' cs') (hne : e ≠ e') : g ≠ g' := by
  obtain ⟨_, cur, hh, _⟩ := h
  obtain ⟨_, cur', hh', _⟩ := h'
  rintro rfl
  rw [hh] at hh'
  simp only [Option.some.injEq, Obj.cells.injEq] at hh'
  exact hne hh'.2.1
end Go.Proofs.Ytehgjkckhjggbaa
namespace Go.Proofs.Ytehgjkckhjggbaa
open Go.RowKit
/-- A row of which k places are laid, by f. -/
def part (f : Nat → Nat) (n k : Nat) : List Nat := (List.range n).map fun j => if j < k then f j else 0
theorem part_len (f : Nat → Nat) (n k : Nat) : (part f n k).length = n := by simp [part]
theorem part_zero (f : Nat → Nat) (n : Nat) : part f n 0 = List.replicate n 0 := by
  apply List.ext_getElem
  · simp [part]
  · intro i h1 h2
    simp [part]
theorem part_set (f : Nat → Nat) (n k : Nat) : (part f n k).set k (f k) = part f n (k + 1) := by
  apply List.ext_getElem
  · simp [part]
  · intro i h1 h2
    rw [List.getElem_set]
    simp only [part, List.getElem_map, List.getElem_range]
    by_cases e : k = i
    · subst e; simp
    · rw [if_neg e]
      by_cases h : i < k
      · rw [if_pos h, if_pos (by omega)]
      · rw [if_neg h, if_neg (by omega)]
theorem part_get (f : Nat → Nat) (n j : Nat) (h : j < n) : (part f n n).getD j 0 = f j := by simp [part, h]
theorem made_bytes {w : World} {B g n : Nat} (h : w.ownsRow B 5 1 (.slice (some ⟨g, 0, none⟩) n n) n (madeCells (Value.int .u8 0).cells (n * 1)).toList) : Own w B (.slice (some ⟨g, 0, none⟩) n n) (List.replicate n 0) := by
  have e : (madeCells (Value.int .u8 0).cells (n * 1)).toList = List.replicate n (Value.int .u8 0) := by
    rw [Nat.mul_one]; exact toList_madeCells_one (Value.int .u8 0) n
  rw [e] at h
  unfold Own
  simpa using h
theorem Own.cells_ {w : World} {B : Nat} {g n c : Nat} {xs : List Nat} (h : Own w B (.slice (some ⟨g, 0, none⟩) n c) xs) (hn : xs.length = n) (k : Nat) :
    (k < n → w.cell? ⟨g, k, none⟩ = some (.int .u8 ((xs.getD k 0 : Nat) : Int))) ∧ w.frozen? ⟨g, k, none⟩ = false := by
  subst hn
  unfold Own at h
  refine ⟨fun hk => ?_, World.ownsRow.frozenAt h k⟩
  rw [World.ownsRow.cellAt h k (by omega)]
  simp [hk]
theorem Own.stored' {w : World} {B : Nat} {g n c : Nat} {xs : List Nat} (h : Own w B (.slice (some ⟨g, 0, none⟩) n c) xs) (hn : xs.length = n) (k z : Nat) :
    Own (w.setCell ⟨g, k, none⟩ (.int .u8 (z : Int))) B (.slice (some ⟨g, 0, none⟩) n c) (xs.set k z) := by
  subst hn
  unfold Own at h ⊢
  have := (World.ownsRow.stored h k (.int .u8 (z : Int))).1
  simpa [List.map_set] using this
theorem at_place {w : World} {A : Option Addr} {xs : List Nat} {n : Nat} (h : Rd w A xs) (hn : xs.length = n) (hb : ∀ x ∈ xs, x < 256) (k : Nat) (hk : k < n) :
    ∃ b off, A = some ⟨b, off, none⟩ ∧ w.cell? ⟨b, off + k, none⟩ = some (.int .u8 ((xs.getD k 0 : Nat) : Int)) ∧ xs.getD k 0 < 256 := by
  subst hn
  obtain ⟨b, off, e, hc⟩ := h (by intro e; rw [e] at hk; simp at hk)
  refine ⟨b, off, e, hc k hk, ?_⟩
  have : xs.getD k 0 = xs[k] := by simp [hk]
  rw [this]; exact hb _ (List.getElem_mem hk)
/-- The sum of the first k products. -/
def dotS (xs ys : List Nat) : Nat → Nat
  | 0 => 0
  | k + 1 => dotS xs ys k ^^^ gmul (xs.getD k 0) (ys.getD k 0)
theorem getD_lt {xs : List Nat} (hb : ∀ x ∈ xs, x < 256) (k : Nat) : xs.getD k 0 < 256 := by
  by_cases h : k < xs.length
  · have : xs.getD k 0 = xs[k] := by simp [h]
    rw [this]; exact hb _ (List.getElem_mem h)
  · have : xs.getD k 0 = 0 := by simp [Nat.le_of_not_lt h]
    omega
theorem dotS_lt {xs ys : List Nat} (hb : ∀ x ∈ xs, x < 256) : ∀ k, dotS xs ys k < 256
  | 0 => by show 0 < 256; omega
  | k + 1 => xor_lt8 (dotS_lt hb k) (gmul_lt _ (getD_lt hb k))
end Go.Proofs.Ytehgjkckhjggbaa
namespace Go.Proofs.Ytehgjkckhjggbaa
abbrev ML := List (List Nat)
def en (A : ML) : Mat := fun i j => G.of ((A.getD i []).getD j 0)
structure Shape (A : ML) (n m : Nat) : Prop where
  high : A.length = n
  wide : ∀ r ∈ A, r.length = m
  byte : ∀ r ∈ A, ∀ x ∈ r, x < 256
theorem Shape.row {A : ML} {n m i : Nat} (h : Shape A n m) (hi : i < n) : (A.getD i []).length = m ∧ ∀ x ∈ A.getD i [], x < 256 := by
  have hl : i < A.length := by rw [h.high]; exact hi
  have e : A.getD i [] = A[i] := by simp [hl]
  rw [e]
  exact ⟨h.wide _ (List.getElem_mem hl), h.byte _ (List.getElem_mem hl)⟩
theorem Shape.at_ {A : ML} {n m i : Nat} (h : Shape A n m) (hi : i < n) (j : Nat) : (en A i j).n = (A.getD i []).getD j 0 := G.of_n (getD_lt (h.row hi).2 j)
/-- Two that agree at every place are the same. -/
theorem Shape.ext {A B : ML} {n m : Nat} (h : Shape A n m) (k : Shape B n m) (e : ∀ i, i < n → ∀ j, j < m → en A i j = en B i j) : A = B := by
  apply List.ext_getElem (by rw [h.high, k.high])
  intro i h1 h2
  have hi : i < n := by rw [← h.high]; exact h1
  obtain ⟨a1, a2⟩ := h.row hi
  obtain ⟨b1, b2⟩ := k.row hi
  have ea : A.getD i [] = A[i] := by simp [h1]
  have eb : B.getD i [] = B[i] := by simp [h2]
  rw [ea] at a1 a2
  rw [eb] at b1 b2
  apply List.ext_getElem (by rw [a1, b1])
  intro j g1 g2
  have hj : j < m := by rw [← a1]; exact g1
  have := congrArg G.n (e i hi j hj)
  rw [h.at_ hi, k.at_ hi, ea, eb] at this
  simpa [g1, g2] using this
/-- A matrix that is laid place by place. -/
def laid (n m : Nat) (f : Mat) : ML := (List.range n).map fun i => (List.range m).map fun j => (f i j).n
theorem laid_shape (n m : Nat) (f : Mat) : Shape (laid n m f) n m := by
  refine ⟨by simp [laid], fun r hr => ?_, fun r hr x hx => ?_⟩
  · simp only [laid, List.mem_map] at hr
    obtain ⟨i, _, rfl⟩ := hr
    simp
  · simp only [laid, List.mem_map] at hr
    obtain ⟨i, _, rfl⟩ := hr
    simp only [List.mem_map] at hx
    obtain ⟨j, _, rfl⟩ := hx
    exact (f i j).lt
theorem laid_row {n m i : Nat} (f : Mat) (hi : i < n) : (laid n m f).getD i [] = (List.range m).map fun j => (f i j).n := by simp [laid, hi]
theorem laid_at {n m i j : Nat} (f : Mat) (hi : i < n) (hj : j < m) : en (laid n m f) i j = f i j := by
  unfold en
  rw [laid_row f hi]
  simp [hj, G.of_self]
theorem laid_en {A : ML} {n m : Nat} (h : Shape A n m) : laid n m (en A) = A := (laid_shape n m _).ext h (fun _ hi _ hj => laid_at _ hi hj)
def mulL (A B : ML) (n p m : Nat) : ML := laid n m (mm p (en A) (en B))
theorem mul_joins (A B C : ML) (n p q m : Nat) : mulL (mulL A B n p q) C n q m = mulL A (mulL B C p q m) n p m := by
  refine (laid_shape n m _).ext (laid_shape n m _) (fun i hi j hj => ?_)
  unfold mulL
  rw [laid_at _ hi hj, laid_at _ hi hj]
  have h1 : mm q (en (laid n q (mm p (en A) (en B)))) (en C) i j = mm q (mm p (en A) (en B)) (en C) i j := gs_congr (fun l hl => by rw [laid_at _ hi hl])
  have h2 : mm p (en A) (en (laid p m (mm q (en B) (en C)))) i j = mm p (en A) (mm q (en B) (en C)) i j := gs_congr (fun l hl => by rw [laid_at _ hl hj])
  rw [h1, h2, mm_assoc]
def oneL (n : Nat) : ML := laid n n dl
theorem one_mulL {A : ML} {n m : Nat} (h : Shape A n m) : mulL (oneL n) A n n m = A := by
  refine (laid_shape n m _).ext h (fun i hi j hj => ?_)
  rw [laid_at _ hi hj]
  have : mm n (en (oneL n)) (en A) i j = mm n dl (en A) i j := gs_congr (fun l hl => by unfold oneL; rw [laid_at _ hi hl])
  rw [this, mm_one_left hi]
theorem mulL_one_of {A B : ML} {n : Nat} (h : ∀ i, i < n → ∀ j, j < n → mm n (en A) (en B) i j = dl i j) : mulL A B n n n = oneL n :=
  (laid_shape n n _).ext (laid_shape n n _) (fun i hi j hj => by unfold oneL; rw [laid_at _ hi hj, laid_at _ hi hj]; exact h i hi j hj)
/-- The sum of products of two rows, as it is reckoned. -/
theorem dot_gs {xs ys : List Nat} (hx : ∀ x ∈ xs, x < 256) (hy : ∀ y ∈ ys, y < 256) : ∀ k, dotS xs ys k = (gs k (fun l => G.of (xs.getD l 0) * G.of (ys.getD l 0))).n
  | 0 => rfl
  | k + 1 => by
    show dotS xs ys k ^^^ gmul (xs.getD k 0) (ys.getD k 0) = (gs k _ + _).n
    rw [dot_gs hx hy k, G.add_n, G.mul_n, G.of_n (getD_lt hx k), G.of_n (getD_lt hy k)]
def codeL (k m : Nat) : ML := laid (k + m) k (codeRow k)
theorem code_known : codeL 2 1 = [[1, 0], [0, 1], [142, 244]] := by decide +kernel
theorem kx_n {x y : Nat} (hx : x < 256) (hy : y < 256) : (kx x y).n = ginv (x ^^^ y) := by
  show ginv (G.of (x ^^^ y)).n = _
  rw [G.of_n (xor_lt8 hx hy)]
/-! ### picks: rows that are taken one by one out of those that are left -/
structure Picks (t : Nat) (left P : List Nat) : Prop where
  count : P.length + left.length = t
  nodupL : left.Nodup
  nodupP : P.Nodup
  apart : ∀ x ∈ P, x ∉ left
  low : ∀ x ∈ P, x < t
  lowL : ∀ x ∈ left, x < t
theorem picks_start (t : Nat) : Picks t (List.range t) [] :=
  ⟨by simp, List.nodup_range, List.nodup_nil, fun _ h => absurd h (by simp), fun _ h => absurd h (by simp), fun x hx => List.mem_range.1 hx⟩
theorem Picks.take {t j : Nat} {left P : List Nat} (h : Picks t left P) (hj : j < left.length) : Picks t (left.take j ++ left.drop (j + 1)) (P ++ [left.getD j 0]) := by
  have e : left = left.take j ++ left[j] :: left.drop (j + 1) := by rw [List.getElem_cons_drop, List.take_append_drop]
  have eg : left.getD j 0 = left[j] := by simp [hj]
  have hn := h.nodupL
  rw [e, List.nodup_append] at hn
  obtain ⟨n1, n2, n3⟩ := hn
  obtain ⟨m1, m2⟩ := List.nodup_cons.1 n2
  have sub : ∀ x ∈ left.take j ++ left.drop (j + 1), x ∈ left := fun x hx => by
    rcases List.mem_append.1 hx with hx | hx
    · exact List.mem_of_mem_take hx
    · exact List.mem_of_mem_drop hx
  have hnot : left[j] ∉ left.take j ++ left.drop (j + 1) := fun hx => by
    rcases List.mem_append.1 hx with hx | hx
    · exact n3 _ hx _ (List.mem_cons.2 (.inl rfl)) rfl
    · exact m1 hx
  have hmem : left[j] ∈ left := List.getElem_mem hj
  rw [eg]
  refine ⟨?_, ?_, ?_, fun x hx => ?_, fun x hx => ?_, fun x hx => h.lowL x (sub x hx)⟩
  · have := h.count
    simp only [List.length_append, List.length_take, List.length_drop, List.length_singleton]
    omega
  · exact List.nodup_append.2 ⟨n1, m2, fun a ha b hb => n3 a ha b (List.mem_cons.2 (.inr hb))⟩
  · refine List.nodup_append.2 ⟨h.nodupP, by simp, fun a ha b hb e => ?_⟩
    rw [List.mem_singleton] at hb
    exact h.apart a ha (by rw [e, hb]; exact hmem)
  · rcases List.mem_append.1 hx with hx | hx
    · exact fun hl => h.apart x hx (sub x hl)
    · rw [List.mem_singleton] at hx
      rw [hx]
      exact hnot
  · rcases List.mem_append.1 hx with hx | hx
    · exact h.low x hx
    · rw [List.mem_singleton] at hx
      rw [hx]
      exact h.lowL _ hmem
/-- The rows that were picked are a matrix that takes nothing but noughts to noughts. -/
theorem picked_sharp {k m : Nat} {left P : List Nat} (h : Picks (k + m) left P) (hk : P.length = k) (ht : k + m ≤ 256) : Sharp k (en (P.map fun l => (codeL k m).getD l [])) := by
  have hs := code_sharp k P hk h.nodupP (fun l hl => by have := h.low l hl; omega) (by omega)
  intro v hv
  refine hs v (fun i hi => ?_)
  rw [← hv i hi]
  refine gs_congr (fun j hj => ?_)
  congr 1
  have hiP : i < P.length := by omega
  have e1 : P.getD i 0 = P[i] := by simp [hiP]
  have hlow := h.low P[i] (List.getElem_mem hiP)
  have e2 : (P.map fun l => (codeL k m).getD l []).getD i [] = (codeL k m).getD P[i] [] := by simp [hiP]
  show codeRow k (P.getD i 0) j = G.of (((P.map fun l => (codeL k m).getD l []).getD i []).getD j 0)
  rw [e1, e2]
  exact (laid_at (n := k + m) (m := k) (codeRow k) hlow hj).symm
end Go.Proofs.Ytehgjkckhjggbaa
