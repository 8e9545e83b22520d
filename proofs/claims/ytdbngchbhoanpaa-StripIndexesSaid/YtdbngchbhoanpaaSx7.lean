/- Words of the code: what rows and their sums are, which rows bring all back, which one is wrong. It names nothing of the program. Rows of rows of bytes that are read: a slice of slices, each with bytes. No condition. Rows of rows of bytes that the call makes: a slice of slices that grows by one, each with bytes of its own. Condition: fewer than 2 to the 40 rows. Rows of rows of bytes that are read. No condition. A store into bytes of the call's own. No conditions. Blocks of the call's own with their cells written out. No condition. Matrices in memory: rows of rows of bytes that are read, and such as the call makes. No condition. -/
import Derived.Test.YtdbngchbhoanpaaSx6
import Derived.Maps.Range
import Derived.Maps.AppendAt
namespace Go.Proofs.Ytdbngchbhoanpaa
theorem getD_at {xs : List Nat} {x : Nat} (h : x < xs.length) : xs.getD x 0 = xs[x] := by simp [h]
/-- All rows, by the data. -/
def word (k : Nat) (X : Mat) : Mat := mm k (codeRow k) X
theorem word_low {k l : Nat} (X : Mat) (h : l < k) (x : Nat) : word k X l x = X l x := by
  show gs k (fun j => codeRow k l j * X j x) = X l x
  rw [gs_congr (g := fun j => dl l j * X j x) (fun j _ => by unfold codeRow; rw [if_pos h])]
  exact gs_dl_left (f := fun j => X j x) h
theorem word_congr {k : Nat} {X Y : Mat} {x : Nat} (h : ∀ j, j < k → X j x = Y j x) (l : Nat) : word k X l x = word k Y l x := gs_congr (fun j hj => by rw [h j hj])
theorem word_add (k : Nat) (X Y : Mat) (l x : Nat) : word k (fun i j => X i j + Y i j) l x = word k X l x + word k Y l x := by
  show gs k (fun j => codeRow k l j * (X j x + Y j x)) = _
  rw [gs_congr (g := fun j => codeRow k l j * X j x + codeRow k l j * Y j x) (fun j _ => G.mul_add _ _ _), gs_add]
  rfl
/-- Two words that agree in k unlike rows are the same. -/
theorem word_agree {k : Nat} {P : List Nat} (hk : P.length = k) (hn : P.Nodup) (hb : ∀ l ∈ P, l < 256) (h256 : k ≤ 256) {X Y : Mat} {x : Nat} (h : ∀ l ∈ P, word k X l x = word k Y l x) : ∀ i, i < k → X i x = Y i x := by
  have hs := code_sharp k P hk hn hb h256
  intro i hi
  have hv : ∀ r, r < k → mv k (fun i j => codeRow k (P.getD i 0) j) (fun j => X j x + Y j x) r = G.zero := fun r hr => by
    have hr2 : r < P.length := by omega
    have e : P.getD r 0 = P[r] := by simp [hr2]
    show gs k (fun j => codeRow k (P.getD r 0) j * (X j x + Y j x)) = G.zero
    rw [gs_congr (g := fun j => codeRow k P[r] j * X j x + codeRow k P[r] j * Y j x) (fun j _ => by rw [e, G.mul_add]), gs_add]
    have := h P[r] (List.getElem_mem hr2)
    have e1 : gs k (fun j => codeRow k P[r] j * X j x) = word k X P[r] x := rfl
    have e2 : gs k (fun j => codeRow k P[r] j * Y j x) = word k Y P[r] x := rfl
    rw [e1, e2, this, G.add_self]
  exact G.eq_of (hs _ hv i hi)
def wordL (k m n : Nat) (X : Mat) : ML := laid (k + m) n (word k X)
theorem wordL_len (k m n : Nat) (X : Mat) : (wordL k m n X).length = k + m := by simp [wordL, laid]
theorem wordL_shape (k m n : Nat) (X : Mat) : Shape (wordL k m n X) (k + m) n := laid_shape _ _ _
theorem wordL_congr {k m n : Nat} {X Y : Mat} (h : ∀ j, j < k → ∀ x, x < n → X j x = Y j x) : wordL k m n X = wordL k m n Y :=
  (laid_shape _ _ _).ext (laid_shape _ _ _) (fun i hi x hx => by
    unfold wordL
    rw [laid_at _ hi hx, laid_at _ hi hx]
    exact word_congr (fun j hj => h j hj x hx) i)
theorem wordL_row {k m n l : Nat} {X Y : Mat} (hl : l < k + m) (h : (wordL k m n X).getD l [] = (wordL k m n Y).getD l []) {x : Nat} (hx : x < n) : word k X l x = word k Y l x := by
  have h1 : en (wordL k m n X) l x = word k X l x := laid_at _ hl hx
  have h2 : en (wordL k m n Y) l x = word k Y l x := laid_at _ hl hx
  rw [← h1, ← h2]
  unfold en
  rw [h]
/-- Words that agree in the rows of P are the same. -/
theorem wordL_agree {k m n : Nat} {P : List Nat} (hk : P.length = k) (hn : P.Nodup) (hb : ∀ l ∈ P, l < k + m) (h256 : k + m ≤ 256) {X Y : Mat} (h : ∀ l ∈ P, (wordL k m n X).getD l [] = (wordL k m n Y).getD l []) : wordL k m n X = wordL k m n Y :=
  wordL_congr (fun j hj x hx => word_agree hk hn (fun l hl => by have := hb l hl; omega) (by omega) (fun l hl => wordL_row (hb l hl) (h l hl) hx) j hj)
/-- The data's rows stand first. -/
theorem wordL_low {k m n : Nat} {D : ML} (h : Shape D k n) : (wordL k m n (en D)).take k = D := by
  have hs := wordL_shape k m n (en D)
  have hl : ((wordL k m n (en D)).take k).length = k := by rw [List.length_take, wordL_len]; omega
  refine (Shape.ext (n := k) (m := n) ⟨hl, fun r hr => hs.wide r (List.mem_of_mem_take hr), fun r hr => hs.byte r (List.mem_of_mem_take hr)⟩ h (fun i hi x hx => ?_))
  have e : en ((wordL k m n (en D)).take k) i x = en (wordL k m n (en D)) i x := by
    unfold en
    congr 1
    simp [hi]
  rw [e]
  unfold wordL
  rw [laid_at _ (by omega) hx, word_low _ hi]
/-! ### which rows are there -/
def present (W : ML) : List Nat := (List.range W.length).filter fun i => !(W.getD i []).isEmpty
theorem present_mem {W : ML} {i : Nat} : i ∈ present W ↔ i < W.length ∧ W.getD i [] ≠ [] := by
  unfold present
  rw [List.mem_filter, List.mem_range]
  simp
theorem present_nodup (W : ML) : (present W).Nodup := List.nodup_range.filter _
/-- The first k of them. -/
def firstP (W : ML) (k : Nat) : List Nat := (present W).take k
theorem firstP_mem {W : ML} {k i : Nat} (h : i ∈ firstP W k) : i < W.length ∧ W.getD i [] ≠ [] := present_mem.1 (List.mem_of_mem_take h)
theorem firstP_nodup (W : ML) (k : Nat) : (firstP W k).Nodup := (present_nodup W).sublist (List.take_sublist k _)
theorem firstP_len {W : ML} {k : Nat} (h : k ≤ (present W).length) : (firstP W k).length = k := by unfold firstP; rw [List.length_take]; omega
/-- Which of the first i rows are there. -/
def filt (W : ML) (i : Nat) : List Nat := (List.range i).filter fun t => !(W.getD t []).isEmpty
theorem filt_all (W : ML) : filt W W.length = present W := rfl
theorem filt_yes {W : ML} {i : Nat} (h : W.getD i [] ≠ []) : filt W (i + 1) = filt W i ++ [i] := by
  unfold filt
  rw [List.range_succ, List.filter_append]
  congr 1
  have e : (W.getD i []).isEmpty = false := by
    cases q : W.getD i [] with
    | nil => exact absurd q h
    | cons a b => rfl
  simp only [List.filter_cons, e, List.filter_nil]
  rfl
theorem filt_no {W : ML} {i : Nat} (h : W.getD i [] = []) : filt W (i + 1) = filt W i := by
  unfold filt
  rw [List.range_succ, List.filter_append]
  have e : (W.getD i []).isEmpty = true := by rw [h]; rfl
  simp only [List.filter_cons, e, List.filter_nil]
  simp
theorem filt_take {W : ML} {i : Nat} : ∀ N, i ≤ N → ∃ r, filt W N = filt W i ++ r
  | 0, h => by
    obtain rfl : i = 0 := by omega
    exact ⟨[], by simp⟩
  | N + 1, h => by
    rcases Nat.lt_or_ge N i with h1 | h1
    · obtain rfl : i = N + 1 := by omega
      exact ⟨[], by simp⟩
    · obtain ⟨r, hr⟩ := filt_take N h1
      rcases Decidable.em (W.getD N [] = []) with e | e
      · exact ⟨r, by rw [filt_no e, hr]⟩
      · exact ⟨r ++ [N], by rw [filt_yes e, hr, List.append_assoc]⟩
theorem filt_first {W : ML} {i k : Nat} (h : i ≤ W.length) (hk : (filt W i).length = k) : firstP W k = filt W i ∧ k ≤ (present W).length := by
  obtain ⟨r, hr⟩ := filt_take W.length h
  rw [filt_all] at hr
  unfold firstP
  rw [hr]
  refine ⟨List.take_left' hk, by rw [List.length_append]; omega⟩
theorem filt_mem {W : ML} {i t : Nat} (h : t ∈ filt W i) : t < i ∧ W.getD t [] ≠ [] := by
  unfold filt at h
  rw [List.mem_filter, List.mem_range] at h
  simpa using h
/-- What Mend answers, where it answers: the word that has the first k rows that are there. -/
def mended (W : ML) (k m n : Nat) (L : ML) : Prop := ∃ X, L = wordL k m n X ∧ ∀ l ∈ firstP W k, L.getD l [] = W.getD l []
theorem mended_once {W : ML} {k m n : Nat} {L L' : ML} (hW : W.length = k + m) (h256 : k + m ≤ 256) (hp : k ≤ (present W).length) (h : mended W k m n L) (h' : mended W k m n L') : L = L' := by
  obtain ⟨X, rfl, hx⟩ := h
  obtain ⟨Y, rfl, hy⟩ := h'
  refine wordL_agree (firstP_len hp) (firstP_nodup W k) (fun l hl => ?_) h256 (fun l hl => by rw [hx l hl, hy l hl])
  rw [← hW]
  exact (firstP_mem hl).1
/-- The word that is made by the inverse of the rows that are there. -/
theorem mended_by {W : ML} {k m n : Nat} {inv hav : Mat} (hW : W.length = k + m) (hs : ∀ r ∈ W, r ≠ [] → r.length = n) (hb : ∀ r ∈ W, ∀ x ∈ r, x < 256) (hp : k ≤ (present W).length)
    (hi : ∀ i, i < k → ∀ j, j < k → mm k (fun i j => codeRow k ((firstP W k).getD i 0) j) inv i j = dl i j) (hh : ∀ i, i < k → ∀ x, x < n → hav i x = en W ((firstP W k).getD i 0) x) :
    mended W k m n (wordL k m n (mm k inv hav)) := by
  refine ⟨_, rfl, fun l hl => ?_⟩
  obtain ⟨i, hi2, e⟩ := List.getElem_of_mem hl
  have hlen := firstP_len hp
  have hik : i < k := by omega
  have hlm := firstP_mem hl
  have hlW : l < k + m := by rw [← hW]; exact hlm.1
  have hmem : W.getD l [] ∈ W := by
    have : W.getD l [] = W[l]'hlm.1 := by simp [hlm.1]
    rw [this]; exact List.getElem_mem _
  have hg : (firstP W k).getD i 0 = l := by simp [hi2, e]
  have hrl := hs _ hmem hlm.2
  have hrow := (wordL_shape k m n (mm k inv hav)).row hlW
  apply List.ext_getElem (by rw [hrow.1, hrl])
  intro x h1 h2
  have hx : x < n := by rw [← hrow.1]; exact h1
  have e1 : en (wordL k m n (mm k inv hav)) l x = en W l x := by
    unfold wordL
    rw [laid_at _ hlW hx]
    have h3 : word k (mm k inv hav) l x = mm k (mm k (fun i j => codeRow k ((firstP W k).getD i 0) j) inv) hav i x := by
      rw [mm_assoc]
      show gs k (fun j => codeRow k l j * _) = gs k (fun j => codeRow k ((firstP W k).getD i 0) j * _)
      rw [hg]
    rw [h3]
    have h4 : mm k (mm k (fun i j => codeRow k ((firstP W k).getD i 0) j) inv) hav i x = mm k dl hav i x := gs_congr (fun j hj => by rw [hi i hik j hj])
    rw [h4, mm_one_left hik, hh i hik x hx, hg]
  have e2 := congrArg G.n e1
  have e3 : (en (wordL k m n (mm k inv hav)) l x).n = ((wordL k m n (mm k inv hav)).getD l []).getD x 0 := (wordL_shape k m n (mm k inv hav)).at_ hlW x
  have e4 : (en W l x).n = (W.getD l []).getD x 0 := G.of_n (getD_lt (hb _ hmem) x)
  rw [e3, e4, getD_at h1, getD_at h2] at e2
  exact e2
/-- Whether all rows fit. -/
def fitting (W : ML) (k m n : Nat) : Prop := ∃ X, W = wordL k m n X
/-- All but row i. -/
def fittingBut (W : ML) (k m n i : Nat) : Prop := ∃ X, ∀ l, l < k + m → l ≠ i → W.getD l [] = (wordL k m n X).getD l []
theorem fitting_mended {W : ML} {k m n : Nat} (h : fitting W k m n) (V : ML) (hV : ∀ l ∈ firstP V k, W.getD l [] = V.getD l []) : mended V k m n W := by
  obtain ⟨X, rfl⟩ := h
  exact ⟨X, rfl, hV⟩
/-- k unlike numbers below k + m, none of them among two. -/
theorem rest_len {k m i j : Nat} (_hm : 2 ≤ m) : k ≤ ((List.range (k + m)).filter fun l => decide (l ≠ i ∧ l ≠ j)).length := by
  have h1 : (List.range (k + m)).length ≤ (((List.range (k + m)).filter fun l => decide (l ≠ i ∧ l ≠ j)) ++ [i, j]).length := nodup_len List.nodup_range (fun x hx => by
    by_cases h : x ≠ i ∧ x ≠ j
    · exact List.mem_append.2 (.inl (List.mem_filter.2 ⟨hx, decide_eq_true h⟩))
    · refine List.mem_append.2 (.inr ?_)
      by_cases e : x = i
      · simp [e]
      · have : x = j := by
          by_cases e2 : x = j
          · exact e2
          · exact absurd ⟨e, e2⟩ h
        simp [this])
  rw [List.length_range, List.length_append] at h1
  have h2 : ([i, j] : List Nat).length = 2 := rfl
  omega
/-- Two words that differ in row j at most, or in rows i and j, are the same, where m is 2 or more. -/
theorem word_two {k m n i j : Nat} (hm : 2 ≤ m) (h256 : k + m ≤ 256) {X Y : Mat} (h : ∀ l, l < k + m → l ≠ i → l ≠ j → (wordL k m n X).getD l [] = (wordL k m n Y).getD l []) : wordL k m n X = wordL k m n Y := by
  have hr := rest_len (k := k) (m := m) (i := i) (j := j) hm
  refine wordL_agree (P := ((List.range (k + m)).filter fun l => decide (l ≠ i ∧ l ≠ j)).take k) (by rw [List.length_take]; omega) ((List.nodup_range.filter _).sublist (List.take_sublist _ _)) (fun l hl => ?_) h256 (fun l hl => ?_)
  · exact List.mem_range.1 (List.mem_filter.1 (List.mem_of_mem_take hl)).1
  · have h2 := List.mem_filter.1 (List.mem_of_mem_take hl)
    have h3 := of_decide_eq_true h2.2
    exact h l (List.mem_range.1 h2.1) h3.1 h3.2
/-- One row of a word is changed: it no longer fits, and no row but that one is wrong. -/
theorem one_wrong {k m n j : Nat} {X : Mat} {r : List Nat} (hm : 2 ≤ m) (h256 : k + m ≤ 256) (hj : j < k + m) (hr : r ≠ (wordL k m n X).getD j []) (i : Nat) :
    fittingBut ((wordL k m n X).set j r) k m n i ↔ i = j := by
  have hset : ∀ l, ((wordL k m n X).set j r).getD l [] = if l = j then r else (wordL k m n X).getD l [] := fun l => set_row r l (by rw [wordL_len]; exact hj)
  constructor
  · rintro ⟨Y, hY⟩
    rcases Decidable.em (i = j) with e | e
    · exact e
    · exfalso
      have hsame : wordL k m n X = wordL k m n Y := word_two (i := i) (j := j) hm h256 (fun l hl h1 h2 => by
        have := hY l hl h1
        rw [hset, if_neg h2] at this
        exact this)
      have := hY j hj (fun q => e q.symm)
      rw [hset, if_pos rfl, ← hsame] at this
      exact hr this
  · rintro rfl
    exact ⟨X, fun l hl hne => by rw [hset, if_neg hne]⟩
theorem one_not {k m n j : Nat} {X : Mat} {r : List Nat} (hm : 2 ≤ m) (h256 : k + m ≤ 256) (hj : j < k + m) (hr : r ≠ (wordL k m n X).getD j []) : ¬ fitting ((wordL k m n X).set j r) k m n := by
  rintro ⟨Y, hY⟩
  have h1 := (one_wrong hm h256 hj hr (j + 1)).1 ⟨Y, fun l hl _ => by rw [hY]⟩
  omega
end Go.Proofs.Ytdbngchbhoanpaa
namespace Go.Proofs.Ytdbngchbhoanpaa
open Go.RowKit
/-- A slice of slices that reads as these values. -/
def RdV (w : World) (A : Option Addr) (vs : List Value) : Prop :=
  vs ≠ [] → ∃ b off, A = some ⟨b, off, none⟩ ∧ ∀ i, i < vs.length → w.cell? ⟨b, off + i, none⟩ = some (vs.getD i (.slice none 0 0))
theorem RdV.below {w w' : World} {A : Option Addr} {vs : List Value} (h : RdV w A vs) (hb : Below w.heap.size w w') : RdV w' A vs := by
  intro hne
  obtain ⟨b, off, e, hc⟩ := h hne
  exact ⟨b, off, e, fun i hi => (hb.cell (cell_lt (hc i hi))).trans (hc i hi)⟩
theorem RdV.drewN {w : World} {A : Option Addr} {vs : List Value} (h : RdV w A vs) (n : Nat) : RdV (w.drewN n) A vs := h
/-- Values that read as these rows of bytes, one each. -/
def IsBs (w : World) (vs : List Value) (xss : List (List Nat)) : Prop := vs.length = xss.length ∧ ∀ i, i < vs.length → IsB w (vs.getD i (.slice none 0 0)) (xss.getD i [])
theorem IsBs.below {w w' : World} {vs : List Value} {xss : List (List Nat)} (h : IsBs w vs xss) (hb : Below w.heap.size w w') : IsBs w' vs xss := ⟨h.1, fun i hi => (h.2 i hi).keep hb⟩
theorem IsBs.drewN {w : World} {vs : List Value} {xss : List (List Nat)} (h : IsBs w vs xss) (n : Nat) : IsBs (w.drewN n) vs xss := h
theorem rdV_new (w : World) (cs : Array Value) (e : TypeId) (vs : List Value) (b : Nat) (hb : b = w.heap.size) (h : cs.toList = vs) : RdV (w.alloc (.cells cs e)) (some ⟨b, 0, none⟩) vs := by
  subst hb; subst h
  intro _
  refine ⟨_, 0, rfl, fun i hi => ?_⟩
  have hc : cs[i]? = some (cs.toList.getD i (.slice none 0 0)) := by
    rw [← Array.getElem?_toList]
    simp at hi
    simp [hi]
  rw [Nat.zero_add, ← hc]
  exact cell_of_row _ _ _ _ _ (0, 0) (heap_alloc_new w _)
end Go.Proofs.Ytdbngchbhoanpaa
namespace Go.Proofs.Ytdbngchbhoanpaa
open Go.RowKit
/-- A slice of the call's own that holds these slices. -/
def OwnV (w : World) (B : Nat) (v : Value) (vs : List Value) : Prop := w.ownsRow B 24 1 v vs.length vs
/-- Each of these slices is of the call's own, and holds these bytes. -/
def Owns (w : World) (B : Nat) (vs : List Value) (xss : List (List Nat)) : Prop := vs.length = xss.length ∧ ∀ i, i < vs.length → Own w B (vs.getD i (.slice none 0 0)) (xss.getD i [])
theorem OwnV.nil (w : World) (B : Nat) : OwnV w B (.slice none 0 0) [] := World.ownsRow_nil _ _ _ _
theorem OwnV.form {w : World} {B : Nat} {v : Value} {vs : List Value} {n : Nat} (h : OwnV w B v vs) (hn : vs.length = n) : ∃ A c, v = .slice A n c ∧ RdV w A vs ∧ n ≤ 9223372036854775807 := by
  subst hn
  unfold OwnV at h
  rcases h.2 with ⟨rfl, hn⟩ | ⟨g, cap, cur, rfl, _, _, c1, c2, _⟩
  · refine ⟨none, 0, by rw [hn], fun hne => ?_, by omega⟩
    exact absurd (List.eq_nil_of_length_eq_zero hn) hne
  · refine ⟨_, _, rfl, fun _ => ⟨g, 0, rfl, fun i hi => ?_⟩, by unfold maxLen at c2; omega⟩
    rw [Nat.zero_add, h.cellAt i (by omega)]
    simp [hi]
theorem OwnV.keep {w w' : World} {B : Nat} {v : Value} {vs : List Value} (h : OwnV w B v vs) (hb : Below w.heap.size w w') : OwnV w' B v vs := by
  unfold OwnV at h ⊢
  refine ⟨h.1, ?_⟩
  rcases h.2 with hn | ⟨g, cap, cur, hv, h1, h2, r⟩
  · exact .inl hn
  · refine .inr ⟨g, cap, cur, hv, h1, ?_, r⟩
    rw [hb.block g ?_]
    · exact h2
    · exact (h.lt g (by rw [hv]; rfl)).2
theorem OwnV.more {w : World} {B B' : Nat} {v : Value} {vs : List Value} (h : OwnV w B v vs) (hb : B' ≤ B) : OwnV w B' v vs := by
  unfold OwnV at h ⊢
  refine ⟨h.1, ?_⟩
  rcases h.2 with hn | ⟨g, cap, cur, hv, h1, r⟩
  · exact .inl hn
  · exact .inr ⟨g, cap, cur, hv, by omega, r⟩
theorem Owns.keep {w w' : World} {B : Nat} {vs : List Value} {xss : List (List Nat)} (h : Owns w B vs xss) (hb : Below w.heap.size w w') : Owns w' B vs xss := ⟨h.1, fun i hi => (h.2 i hi).keep hb⟩
theorem Owns.isBs {w : World} {B : Nat} {vs : List Value} {xss : List (List Nat)} (h : Owns w B vs xss) : IsBs w vs xss := ⟨h.1, fun i hi => (h.2 i hi).isB⟩
theorem Owns.nil (w : World) (B : Nat) : Owns w B [] [] := ⟨rfl, fun _ h => absurd h (by simp)⟩
theorem Owns.more {w : World} {B B' : Nat} {vs : List Value} {xss : List (List Nat)} (h : Owns w B vs xss) (hb : B' ≤ B) : Owns w B' vs xss := ⟨h.1, fun i hi => (h.2 i hi).more hb⟩
/-- Bytes of the call's own are none of the blocks in which slices of slices lie. -/
theorem Own.apart {w w' : World} {B B' : Nat} {v u : Value} {xs : List Nat} {vs : List Value} (h : Own w B v xs) (hv : OwnV w B' u vs) (hg : w.grownBy w' u.ownBlock) : Own w' B v xs := by
  unfold Own OwnV at *
  refine World.ownsRow.kept h hg ?_
  rcases h.2 with ⟨rfl, _⟩ | ⟨g, cap, cur, rfl, _, hh, _⟩
  · exact .inl rfl
  · right
    rcases hv.2 with ⟨rfl, _⟩ | ⟨g', cap', cur', rfl, _, hh', _⟩
    · intro e; cases e
    · intro e
      have e' : g = g' := by simpa [Value.ownBlock] using e
      subst e'
      rw [hh] at hh'
      simp only [Option.some.injEq, Obj.cells.injEq] at hh'
      exact absurd hh'.2.1 (by decide)
theorem Owns.apart {w w' : World} {B B' : Nat} {u : Value} {vs us : List Value} {xss : List (List Nat)} (h : Owns w B vs xss) (hv : OwnV w B' u us) (hg : w.grownBy w' u.ownBlock) : Owns w' B vs xss := ⟨h.1, fun i hi => (h.2 i hi).apart hv hg⟩
theorem Owns.snoc {w : World} {B : Nat} {vs : List Value} {xss : List (List Nat)} {v : Value} {xs : List Nat} (h : Owns w B vs xss) (hv : Own w B v xs) : Owns w B (vs ++ [v]) (xss ++ [xs]) := by
  refine ⟨by rw [List.length_append, List.length_append, h.1]; rfl, fun i hi => ?_⟩
  rw [List.length_append] at hi
  simp only [List.getD_eq_getElem?_getD]
  by_cases hlt : i < vs.length
  · rw [List.getElem?_append_left hlt, List.getElem?_append_left (by rw [← h.1]; exact hlt), ← List.getD_eq_getElem?_getD, ← List.getD_eq_getElem?_getD]
    exact h.2 i hlt
  · have e : i = vs.length := by simp at hi; omega
    subst e
    rw [List.getElem?_append_right (Nat.le_refl _), List.getElem?_append_right (by rw [h.1]; exact Nat.le_refl _), h.1, Nat.sub_self]
    exact hv
theorem Try.info_rows : (Try.prog.info? 24).map (fun i => (i.zero, i.size, i.bytes)) = some (some (.slice none 0 0), 1, 24) := by kernel_rfl
theorem wpList_append_row {w : World} {ops : Array Oper} {rest : List Oper} {o : Oper} {a : Act} {Q : Exit → Act → World → Prop} (hgd : o.guard = none) (s x : Operand)
    (ho : o.op = .call { callee := .builtin .append, args := #[s, x], argTypes := #[50, 50] })
    (B : Nat) (v : Value) (vs : List Value) (hs : a.eval s = v) (hown : OwnV w B v vs)
    (b : Nat) (u : Value) (hx : a.eval x = .slice (some ⟨b, 0, none⟩) 1 1) (hu : w.cell? ⟨b, 0, none⟩ = some u) (h1 : u.oneCell' = true)
    (hlen : vs.length + 1 ≤ 1099511627776) (hbase : B ≤ w.heap.size)
    (h : ∀ v' w', OwnV w' B v' (vs ++ [u]) → Below B w w' → w.grownBy w' v.ownBlock → wpList Try.prog ops Q rest (a.put o.dst v') w') : wpList Try.prog ops Q (o :: rest) a w := by
  obtain ⟨i0, hi, hz0, hz1, hz2⟩ := info_parts Try.info_rows
  refine wpList_append_own w hgd s x _ ho B 24 i0 (.slice none 0 0) 1 24 Try.underlying50 hi hz0 hz1 hz2 rfl (by decide) v _ _ hs hown ⟨b, 0, none⟩ 1 1 [u] hx rfl ?_ ?_ (by unfold maxLen; omega) (by omega) hbase ?_
  · intro j z hj
    match j, hj with
    | 0, hj => simp at hj; subst hj; simpa [Addr.add] using hu
  · intro z hz; simp at hz; subst hz; exact h1
  · intro v' w' h2 h3 _
    exact h v' w' (by unfold OwnV; simpa using h2) ((Below.refl _ _).grown h3 hbase fun k hk => (hown.lt k hk).1) h3
theorem cell_new (w : World) (u : Value) (e : TypeId) : (w.alloc (.cells #[u] e)).cell? ⟨w.heap.size, 0, none⟩ = some u := by
  rw [cell_of_row _ _ _ _ _ (0, 0) (heap_alloc_new w _)]
  rfl
end Go.Proofs.Ytdbngchbhoanpaa
namespace Go.Proofs.Ytdbngchbhoanpaa
open Go.RowKit
/-- A slice of slices at A reads as these rows. -/
def IsM (w : World) (A : Option Addr) (xss : List (List Nat)) : Prop := ∃ vs, RdV w A vs ∧ IsBs w vs xss
theorem IsM.below {w w' : World} {A : Option Addr} {xss : List (List Nat)} (h : IsM w A xss) (hb : Below w.heap.size w w') : IsM w' A xss := by
  obtain ⟨vs, h1, h2⟩ := h
  exact ⟨vs, h1.below hb, h2.below hb⟩
theorem IsM.drewN {w : World} {A : Option Addr} {xss : List (List Nat)} (h : IsM w A xss) (d : Nat) : IsM (w.drewN d) A xss := h
theorem IsM.at_ {w : World} {A : Option Addr} {xss : List (List Nat)} (h : IsM w A xss) (k : Nat) (hk : k < xss.length) :
    ∃ b off A' c, A = some ⟨b, off, none⟩ ∧ w.cell? ⟨b, off + k, none⟩ = some (.slice A' (xss.getD k []).length c) ∧ IsB w (.slice A' (xss.getD k []).length c) (xss.getD k []) ∧ (xss.getD k []).length ≤ c ∧ c ≤ 9223372036854775807 := by
  obtain ⟨vs, h1, h2, h3⟩ := h
  obtain ⟨b, off, e, hc⟩ := h1 (by intro e; rw [e] at h2; simp at h2; omega)
  have hv := h3 k (by omega)
  have ck := hc k (by omega)
  obtain ⟨A', c, e1, i1, l1, m1⟩ := hv.form rfl
  rw [e1] at ck
  exact ⟨b, off, A', c, e, ck, i1, l1, m1⟩
end Go.Proofs.Ytdbngchbhoanpaa
namespace Go.Proofs.Ytdbngchbhoanpaa
open Go.RowKit
theorem Own.stored {w : World} {B : Nat} {g n c : Nat} {xs : List Nat} (h : Own w B (.slice (some ⟨g, 0, none⟩) n c) xs) (hn : xs.length = n) (k z : Nat) :
    Own (w.setCell ⟨g, k, none⟩ (.int .u8 (z : Int))) B (.slice (some ⟨g, 0, none⟩) n c) (xs.set k z) := by
  subst hn
  unfold Own at h ⊢
  have := (World.ownsRow.stored h k (.int .u8 (z : Int))).1
  simpa [List.map_set] using this
theorem Own.at_ {w : World} {B : Nat} {v : Value} {xs : List Nat} {n : Nat} (h : Own w B v xs) (hn : xs.length = n) (h1 : 1 ≤ n) :
    ∃ g c, v = .slice (some ⟨g, 0, none⟩) n c ∧ B ≤ g ∧ n ≤ c ∧ c ≤ 9223372036854775807 ∧ (∀ k, k < n → w.cell? ⟨g, k, none⟩ = some (.int .u8 ((xs.getD k 0 : Nat) : Int))) ∧ ∀ k, w.frozen? ⟨g, k, none⟩ = false := by
  subst hn
  have h0 := h
  unfold Own at h
  rcases h.2 with ⟨rfl, hn⟩ | ⟨g, cap, cur, rfl, hb, hg, hc, hm, _⟩
  · omega
  · refine ⟨g, cap, rfl, hb, hc, by unfold maxLen at hm; omega, fun k hk => ?_, fun k => World.ownsRow.frozenAt h k⟩
    rw [World.ownsRow.cellAt h k (by omega)]
    simp [hk]
theorem xor8 (a b : Nat) (ha : a < 256) (hb : b < 256) : bits .xor .u8 (a : Int) (b : Int) = ((a ^^^ b : Nat) : Int) := u8_xor_nat a b ha hb
end Go.Proofs.Ytdbngchbhoanpaa
namespace Go.Proofs.Ytdbngchbhoanpaa
open Go.RowKit
theorem below_alloc (w : World) (o : Obj) : Below w.heap.size w (w.alloc o) := (Below.refl _ _).alloc (Nat.le_refl _) _
/-- A block of the call's own that holds these cells. -/
def Blk (w : World) (B : Nat) (e : TypeId) (g : Nat) (cs : List Value) : Prop := B ≤ g ∧ ∃ cur : Array Value, w.heap[g]? = some (.cells cur e (0, 0)) ∧ cur.toList = cs
theorem heap_lt {w : World} {g : Nat} {o : Obj} (h : w.heap[g]? = some o) : g < w.heap.size := (Array.getElem?_eq_some_iff.1 h).1
theorem Blk.lt {w : World} {B : Nat} {e : TypeId} {g : Nat} {cs : List Value} (h : Blk w B e g cs) : g < w.heap.size := by
  obtain ⟨_, cur, hg, _⟩ := h
  exact heap_lt hg
theorem Blk.cell {w : World} {B : Nat} {e : TypeId} {g : Nat} {cs : List Value} (h : Blk w B e g cs) (i : Nat) : w.cell? ⟨g, i, none⟩ = cs[i]? := by
  obtain ⟨_, cur, hg, rfl⟩ := h
  rw [cell_of_row w g i cur e (0, 0) hg]
  simp
theorem Blk.frozen {w : World} {B : Nat} {e : TypeId} {g : Nat} {cs : List Value} (h : Blk w B e g cs) (i : Nat) : w.frozen? ⟨g, i, none⟩ = false := by
  obtain ⟨_, cur, hg, rfl⟩ := h
  exact frozen_of_row w g i cur e hg
theorem Blk.stored {w : World} {B : Nat} {e : TypeId} {g : Nat} {cs : List Value} (h : Blk w B e g cs) (i : Nat) (u : Value) : Blk (w.setCell ⟨g, i, none⟩ u) B e g (cs.set i u) := by
  obtain ⟨hb, cur, hg, rfl⟩ := h
  exact ⟨hb, _, heap_setCell_same w g i cur e u hg, Array.toList_setIfInBounds ..⟩
theorem grown_set (w : World) (g i : Nat) (u : Value) : w.grownBy (w.setCell ⟨g, i, none⟩ u) (some g) :=
  ⟨rfl, rfl, rfl, by simp, fun k _ hk => heap_setCell_other w ⟨g, i, none⟩ k u (fun e => hk (by simp [e]))⟩
theorem Blk.new (w : World) {B : Nat} (e : TypeId) (cs : Array Value) (hB : B ≤ w.heap.size) : Blk (w.alloc (.cells cs e)) B e w.heap.size cs.toList := ⟨hB, cs, heap_alloc_new w _, rfl⟩
theorem Blk.kept {w w' : World} {B : Nat} {e : TypeId} {g : Nat} {cs : List Value} {row : Option Nat} (h : Blk w B e g cs) (hg : w.grownBy w' row) (hne : row ≠ some g) : Blk w' B e g cs := by
  have hl := h.lt
  obtain ⟨hb, cur, hh, rfl⟩ := h
  exact ⟨hb, cur, by rw [hg.block g hl (fun e => hne e.symm)]; exact hh, rfl⟩
theorem Blk.keep {w w' : World} {B : Nat} {e : TypeId} {g : Nat} {cs : List Value} (h : Blk w B e g cs) (hb : Below w.heap.size w w') : Blk w' B e g cs := by
  have hl := h.lt
  obtain ⟨hB, cur, hh, rfl⟩ := h
  exact ⟨hB, cur, by rw [hb.block g hl]; exact hh, rfl⟩
theorem Blk.more {w : World} {B B' : Nat} {e : TypeId} {g : Nat} {cs : List Value} (h : Blk w B e g cs) (hB : B' ≤ B) : Blk w B' e g cs := ⟨Nat.le_trans hB h.1, h.2⟩
theorem Blk.drewN {w : World} {B : Nat} {e : TypeId} {g : Nat} {cs : List Value} (h : Blk w B e g cs) (n : Nat) : Blk (w.drewN n) B e g cs := h
/-- Blocks of unlike types lie apart. -/
theorem Blk.ne {w : World} {B B' : Nat} {e e' : TypeId} {g g' : Nat} {cs cs' : List Value} (h : Blk w B e g cs) (h' : Blk w B' e' g' cs') (hne : e ≠ e') : g ≠ g' := by
  obtain ⟨_, cur, hh, _⟩ := h
  obtain ⟨_, cur', hh', _⟩ := h'
  rintro rfl
  rw [hh] at hh'
  simp only [Option.some.injEq, Obj.cells.injEq] at hh'
  exact hne hh'.2.1
end Go.Proofs.Ytdbngchbhoanpaa
namespace Go.Proofs.Ytdbngchbhoanpaa
open Go.RowKit
/-- A matrix of the call's own. -/
def OwnMt (w : World) (B : Nat) (v : Value) (xss : ML) : Prop := ∃ vs, OwnV w B v vs ∧ Owns w B vs xss
theorem OwnMt.nil (w : World) (B : Nat) : OwnMt w B (.slice none 0 0) [] := ⟨[], OwnV.nil w B, Owns.nil w B⟩
theorem OwnMt.form {w : World} {B : Nat} {v : Value} {xss : ML} {n : Nat} (h : OwnMt w B v xss) (hn : xss.length = n) : ∃ A c, v = .slice A n c ∧ IsM w A xss ∧ n ≤ 9223372036854775807 := by
  obtain ⟨vs, h1, h2⟩ := h
  obtain ⟨A, c, e, hr, hl⟩ := h1.form (n := n) (by rw [h2.1, hn])
  exact ⟨A, c, e, ⟨vs, hr, h2.isBs⟩, hl⟩
theorem OwnMt.keep {w w' : World} {B : Nat} {v : Value} {xss : ML} (h : OwnMt w B v xss) (hb : Below w.heap.size w w') : OwnMt w' B v xss := by
  obtain ⟨vs, h1, h2⟩ := h
  exact ⟨vs, h1.keep hb, h2.keep hb⟩
theorem OwnMt.more {w : World} {B B' : Nat} {v : Value} {xss : ML} (h : OwnMt w B v xss) (hb : B' ≤ B) : OwnMt w B' v xss := by
  obtain ⟨vs, h1, h2⟩ := h
  exact ⟨vs, h1.more hb, h2.more hb⟩
theorem OwnMt.drewN {w : World} {B : Nat} {v : Value} {xss : ML} (h : OwnMt w B v xss) (d : Nat) : OwnMt (w.drewN d) B v xss := h
theorem OwnMt.isM {w : World} {B : Nat} {A : Option Addr} {n c : Nat} {xss : ML} (h : OwnMt w B (.slice A n c) xss) : IsM w A xss ∧ xss.length = n := by
  obtain ⟨vs, h1, h2⟩ := h
  obtain ⟨A', c', e, hr, hl⟩ := h1.form rfl
  cases e
  exact ⟨⟨vs, hr, h2.isBs⟩, h2.1.symm⟩
/-- In a block of its own: at each place the row's slice, of the call's own. -/
theorem OwnMt.row {w : World} {B g n c : Nat} {xss : ML} (h : OwnMt w B (.slice (some ⟨g, 0, none⟩) n c) xss) (k : Nat) (hk : k < n) :
    ∃ A' c', w.cell? ⟨g, k, none⟩ = some (.slice A' (xss.getD k []).length c') ∧ Own w B (.slice A' (xss.getD k []).length c') (xss.getD k []) ∧ w.frozen? ⟨g, k, none⟩ = false := by
  obtain ⟨vs, h1, h2⟩ := h
  have hl : vs.length = n := by
    obtain ⟨A', c', e, _, _⟩ := h1.form rfl
    cases e
    rfl
  have hv := h2.2 k (by omega)
  obtain ⟨A', c', e, _⟩ := hv.form
  rw [e] at hv
  unfold OwnV at h1
  rw [hl] at h1
  refine ⟨A', c', ?_, hv, World.ownsRow.frozenAt h1 k⟩
  rw [World.ownsRow.cellAt h1 k (by omega), ← e]
  have : k < vs.length := by omega
  simp [this]
theorem Owns.put {w : World} {B : Nat} {vs : List Value} {xss : ML} {v : Value} {xs : List Nat} (h : Owns w B vs xss) (hv : Own w B v xs) (k : Nat) : Owns w B (vs.set k v) (xss.set k xs) := by
  refine ⟨by rw [List.length_set, List.length_set, h.1], fun i hi => ?_⟩
  rw [List.length_set] at hi
  have hi2 : i < xss.length := by rw [← h.1]; exact hi
  rw [List.getD_eq_getElem?_getD, List.getD_eq_getElem?_getD, List.getElem?_set, List.getElem?_set]
  by_cases e : k = i
  · subst e
    rw [if_pos rfl, if_pos rfl, if_pos hi, if_pos hi2]
    exact hv
  · rw [if_neg e, if_neg e, ← List.getD_eq_getElem?_getD, ← List.getD_eq_getElem?_getD]
    exact h.2 i hi
/-- A row of the call's own comes to a place. -/
theorem OwnMt.put {w : World} {B g n c : Nat} {xss : ML} {v : Value} {xs : List Nat} (h : OwnMt w B (.slice (some ⟨g, 0, none⟩) n c) xss) (hv : Own w B v xs) (k : Nat) :
    OwnMt (w.setCell ⟨g, k, none⟩ v) B (.slice (some ⟨g, 0, none⟩) n c) (xss.set k xs) := by
  obtain ⟨vs, h1, h2⟩ := h
  have hl : vs.length = n := by
    obtain ⟨A', c', e, _, _⟩ := h1.form rfl
    cases e
    rfl
  have h1' := h1
  unfold OwnV at h1
  have st := (World.ownsRow.stored (n := n) (by rw [hl] at h1; exact h1) k v)
  refine ⟨vs.set k v, ?_, ?_⟩
  · unfold OwnV
    rw [List.length_set, hl]
    exact st.1
  · have := (h2.put hv k).apart (us := vs) (u := .slice (some ⟨g, 0, none⟩) n c) h1' (w' := w.setCell ⟨g, k, none⟩ v) st.2
    exact this
/-- .. and the slices that were read ahead of it stand. -/
theorem Own.putIn {w : World} {B B' g n c k : Nat} {xss : ML} {u v : Value} {xs : List Nat} (h : Own w B' v xs) (hm : OwnMt w B (.slice (some ⟨g, 0, none⟩) n c) xss) : Own (w.setCell ⟨g, k, none⟩ u) B' v xs := by
  obtain ⟨vs, h1, _⟩ := hm
  exact h.apart h1 (grown_set w g k u)
theorem OwnMt.base {w : World} {B g n c : Nat} {xss : ML} (h : OwnMt w B (.slice (some ⟨g, 0, none⟩) n c) xss) : B ≤ g ∧ g < w.heap.size := by
  obtain ⟨vs, h1, _⟩ := h
  exact World.ownsRow.lt h1 g rfl
theorem OwnMt.below {w : World} {B g n c k : Nat} {xss : ML} {a : World} {u : Value} (h : OwnMt w B (.slice (some ⟨g, 0, none⟩) n c) xss) (hb : Below B a w) : Below B a (w.setCell ⟨g, k, none⟩ u) := hb.setCell h.base.1 _
/-- A row that is appended. -/
theorem OwnMt.snoc {w w' : World} {B : Nat} {v' v : Value} {vs : List Value} {u : Value} {xss : ML} {xs : List Nat} (h1 : OwnV w B v vs) (h2 : Owns w B vs xss) (hu : Own w B u xs) (ho : OwnV w' B v' (vs ++ [u])) (hg : w.grownBy w' v.ownBlock) : OwnMt w' B v' (xss ++ [xs]) :=
  ⟨vs ++ [u], ho, (h2.snoc hu).apart h1 hg⟩
/-- Whether rows are a matrix. -/
def isMt (xss : ML) : Bool := decide (1 ≤ xss.length ∧ xss.length ≤ 64 ∧ 1 ≤ (xss.getD 0 []).length ∧ (xss.getD 0 []).length ≤ 64 ∧ ∀ r ∈ xss, r.length = (xss.getD 0 []).length)
theorem isMt_shape {xss : ML} (h : isMt xss = true) (hb : ∀ r ∈ xss, ∀ x ∈ r, x < 256) : ∃ n m, 1 ≤ n ∧ n ≤ 64 ∧ 1 ≤ m ∧ m ≤ 64 ∧ Shape xss n m := by
  have h := of_decide_eq_true h
  exact ⟨_, _, h.1, h.2.1, h.2.2.1, h.2.2.2.1, ⟨rfl, h.2.2.2.2, hb⟩⟩
theorem Shape.isMt {xss : ML} {n m : Nat} (h : Shape xss n m) (h1 : 1 ≤ n) (h2 : n ≤ 64) (h3 : 1 ≤ m) (h4 : m ≤ 64) : isMt xss = true := by
  have e := (h.row (i := 0) (by omega)).1
  refine decide_eq_true ?_
  rw [e, h.high]
  exact ⟨h1, h2, h3, h4, h.wide⟩
theorem Shape.len_at {xss : ML} {n m : Nat} (h : Shape xss n m) (k : Nat) (hk : k < n) : (xss.getD k []).length = m := (h.row hk).1
theorem mem_getD {xss : ML} {k : Nat} (hk : k < xss.length) : xss.getD k [] ∈ xss := by
  have : xss.getD k [] = xss[k] := by simp [hk]
  rw [this]
  exact List.getElem_mem hk
theorem isMt_no {xss : ML} (h : ¬ (1 ≤ xss.length ∧ xss.length ≤ 64)) : isMt xss = false := decide_eq_false (fun k => h ⟨k.1, k.2.1⟩)
theorem isMt_no2 {xss : ML} (h : ¬ (1 ≤ (xss.getD 0 []).length ∧ (xss.getD 0 []).length ≤ 64)) : isMt xss = false := decide_eq_false (fun k => h ⟨k.2.2.1, k.2.2.2.1⟩)
theorem isMt_is {xss : ML} (h : 1 ≤ xss.length ∧ xss.length ≤ 64) (h2 : 1 ≤ (xss.getD 0 []).length ∧ (xss.getD 0 []).length ≤ 64) : isMt xss = decide (∀ i, i < xss.length → (xss.getD i []).length = (xss.getD 0 []).length) := by
  unfold isMt
  apply decide_eq_decide.2
  constructor
  · intro k i hi
    exact k.2.2.2.2 _ (mem_getD hi)
  · intro k
    refine ⟨h.1, h.2, h2.1, h2.2, fun r hr => ?_⟩
    obtain ⟨i, hi, e⟩ := List.getElem_of_mem hr
    have := k i hi
    rw [show xss.getD i [] = r by simp [hi, e]] at this
    exact this
end Go.Proofs.Ytdbngchbhoanpaa
