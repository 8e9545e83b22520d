/- A matrix and One side by side, row by row brought to One and the inverse: what each step leaves. It names nothing of the program. Matrices in memory: rows of rows of bytes that are read, and such as the call makes. No condition. Matrices that the call makes row by row, each row in a block of its own. No condition. A row appended to a matrix of the call's own. No condition. Products of matrices as lists; what is refused. It names nothing of the program. Words of the code: what rows and their sums are, which rows bring all back, which one is wrong. It names nothing of the program. -/
import Derived.Test.YtehgjkckhjggbaaSp5
namespace Go.Proofs.Ytehgjkckhjggbaa
def scaleR (r : List Nat) (s : Nat) : List Nat := r.map fun x => gmul x s
def addR (r t : List Nat) : List Nat := (List.range r.length).map fun j => r.getD j 0 ^^^ t.getD j 0
theorem scaleR_len (r : List Nat) (s : Nat) : (scaleR r s).length = r.length := by simp [scaleR]
theorem addR_len (r t : List Nat) : (addR r t).length = r.length := by simp [addR]
theorem scaleR_byte {r : List Nat} {s : Nat} (h : ∀ x ∈ r, x < 256) : ∀ x ∈ scaleR r s, x < 256 := by
  intro x hx
  simp only [scaleR, List.mem_map] at hx
  obtain ⟨y, hy, rfl⟩ := hx
  exact gmul_lt _ (h y hy)
theorem addR_byte {r t : List Nat} (h : ∀ x ∈ r, x < 256) (k : ∀ x ∈ t, x < 256) : ∀ x ∈ addR r t, x < 256 := by
  intro x hx
  simp only [addR, List.mem_map] at hx
  obtain ⟨j, _, rfl⟩ := hx
  exact xor_lt8 (getD_lt h j) (getD_lt k j)
theorem scaleR_at (r : List Nat) (s j : Nat) (hr : ∀ x ∈ r, x < 256) (hs : s < 256) : G.of ((scaleR r s).getD j 0) = G.of (r.getD j 0) * G.of s := by
  have h1 : (scaleR r s).getD j 0 = gmul (r.getD j 0) s := by
    unfold scaleR
    by_cases hj : j < r.length
    · simp [hj]
    · simp [Nat.le_of_not_lt hj, zero_gmul]
  have h2 := getD_lt hr j
  rw [h1]
  exact G.ext (by rw [G.of_n (gmul_lt _ h2), G.mul_n, G.of_n h2, G.of_n hs])
theorem addR_at (r t : List Nat) (j : Nat) (hj : j < r.length) (hr : ∀ x ∈ r, x < 256) (ht : ∀ x ∈ t, x < 256) : G.of ((addR r t).getD j 0) = G.of (r.getD j 0) + G.of (t.getD j 0) := by
  have h1 : (addR r t).getD j 0 = r.getD j 0 ^^^ t.getD j 0 := by simp [addR, hj]
  rw [h1]
  exact of_xor (getD_lt hr j) (getD_lt ht j)
theorem Shape.set {W : ML} {n m : Nat} (h : Shape W n m) (i : Nat) {r : List Nat} (h1 : r.length = m) (h2 : ∀ x ∈ r, x < 256) : Shape (W.set i r) n m := by
  refine ⟨by rw [List.length_set, h.high], fun q hq => ?_, fun q hq => ?_⟩
  · rcases List.mem_or_eq_of_mem_set hq with hq | rfl
    · exact h.wide q hq
    · exact h1
  · rcases List.mem_or_eq_of_mem_set hq with hq | rfl
    · exact h.byte q hq
    · exact h2
theorem set_row {W : ML} {i : Nat} (r : List Nat) (k : Nat) (hi : i < W.length) : (W.set i r).getD k [] = if k = i then r else W.getD k [] := by
  rw [List.getD_eq_getElem?_getD, List.getD_eq_getElem?_getD, List.getElem?_set]
  by_cases h : i = k
  · subst h
    rw [if_pos rfl, if_pos rfl, if_pos hi]
    rfl
  · rw [if_neg h, if_neg (fun e => h e.symm)]
theorem en_set {W : ML} {i : Nat} (r : List Nat) (k j : Nat) (hi : i < W.length) : en (W.set i r) k j = if k = i then G.of (r.getD j 0) else en W k j := by
  unfold en
  rw [set_row r k hi]
  split <;> rfl
/-- The first c columns are One's. -/
structure Half (n c : Nat) (a : Mat) (W : ML) : Prop where
  shape : Shape W n (n + n)
  steps : Steps n a (en W)
  unit : ∀ i, i < n → ∀ j, j < c → en W i j = dl i j
theorem dl_ne {i j : Nat} (h : i ≠ j) : dl i j = G.zero := if_neg h
theorem dl_eq (i : Nat) : dl i i = G.one := if_pos rfl
theorem half_start {A W : ML} {n : Nat} (hA : Shape A n n) (hW : Shape W n (n + n)) (h : ∀ i, i < n → W.getD i [] = A.getD i [] ++ (oneL n).getD i []) : Half n 0 (en A) W := by
  refine ⟨hW, steps_start n _ _ (fun i hi j hj => ?_) (fun i hi l hl => ?_), fun _ _ j hj => absurd hj (Nat.not_lt_zero j)⟩
  · have hl := (hA.row hi).1
    unfold en
    rw [h i hi]
    congr 1
    simp only [List.getD_eq_getElem?_getD] at hl ⊢
    rw [List.getElem?_append_left (by omega)]
  · have hw := (hA.row hi).1
    have h1 : en W i (n + l) = en (oneL n) i l := by
      unfold en
      rw [h i hi]
      congr 1
      simp only [List.getD_eq_getElem?_getD] at hw ⊢
      rw [List.getElem?_append_right (by omega)]
      congr 2
      omega
    rw [h1]
    exact laid_at _ hi hl
/-- The row with something in column c comes to its place, and is scaled to 1 there. -/
theorem Half.pivot {n c p : Nat} {a : Mat} {W : ML} (h : Half n c a W) (hc : c ≤ p) (hp : p < n) (hne : en W p c ≠ G.zero) :
    Half n c a ((W.set p (W.getD c [])).set c (scaleR (W.getD p []) (ginv (en W p c).n))) ∧ en ((W.set p (W.getD c [])).set c (scaleR (W.getD p []) (ginv (en W p c).n))) c c = G.one := by
  have hcn : c < n := by omega
  have hl := h.shape.high
  have rp := h.shape.row hp
  have rc := h.shape.row hcn
  have hinv : ginv (en W p c).n < 256 := ginv_lt (en W p c).lt
  have einv : G.of (ginv (en W p c).n) = (en W p c).inv := G.of_self (en W p c).inv
  have hen : ∀ k j, en ((W.set p (W.getD c [])).set c (scaleR (W.getD p []) (ginv (en W p c).n))) k j = if k = c then en W p j * (en W p c).inv else if k = p then en W c j else en W k j := fun k j => by
    rw [en_set _ _ _ (by rw [List.length_set]; omega)]
    split
    · rw [scaleR_at _ _ _ rp.2 hinv, einv]
      rfl
    · rw [en_set _ _ _ (by omega)]
      rfl
  refine ⟨⟨(h.shape.set p rc.1 rc.2).set c (by rw [scaleR_len]; exact rp.1) (scaleR_byte rp.2), ?_, fun i hi j hj => ?_⟩, ?_⟩
  · refine ((h.steps.swap hp hcn).scale (c := c) (G.inv_ne hne)).congr (fun i hi j hj => ?_)
    rw [hen]
    rcases Decidable.em (i = c) with e | e
    · rw [if_pos e, if_pos e]
      rcases Decidable.em (c = p) with e2 | e2
      · simp only [if_pos e2]
        rw [← e2]
      · simp only [if_neg e2, if_true]
    · rw [if_neg e, if_neg e]
      rcases Decidable.em (i = p) with e2 | e2
      · simp only [if_pos e2]
      · simp only [if_neg e2, if_neg e]
  · rw [hen]
    have z1 : en W p j = G.zero := by rw [h.unit p hp j hj, dl_ne (by omega)]
    have z2 : en W c j = G.zero := by rw [h.unit c hcn j hj, dl_ne (by omega)]
    rcases Decidable.em (i = c) with e | e
    · rw [if_pos e, z1, G.zero_mul, e, dl_ne (by omega)]
    · rw [if_neg e]
      rcases Decidable.em (i = p) with e2 | e2
      · rw [if_pos e2, z2, e2, dl_ne (by omega)]
      · rw [if_neg e2]
        exact h.unit i hi j hj
  · rw [hen, if_pos rfl]
    exact G.mul_inv hne
/-- Of the rows ahead of i none but row c has anything in column c. -/
structure Clear (n c i : Nat) (a : Mat) (W : ML) : Prop where
  half : Half n c a W
  one : en W c c = G.one
  none_ : ∀ k, k < i → k < n → k ≠ c → en W k c = G.zero
theorem Clear.skip {n c : Nat} {a : Mat} {W : ML} (h : Clear n c c a W) : Clear n c (c + 1) a W := ⟨h.half, h.one, fun k hk hn hne => h.none_ k (by omega) hn hne⟩
theorem Clear.next {n c i : Nat} {a : Mat} {W : ML} (h : Clear n c i a W) (hc : c < n) (hi : i < n) (hne : i ≠ c) :
    Clear n c (i + 1) a (W.set i (addR (W.getD i []) (scaleR (W.getD c []) (en W i c).n))) := by
  have hl := h.half.shape.high
  have ri := h.half.shape.row hi
  have rc := h.half.shape.row hc
  have hx := (en W i c).lt
  have hen : ∀ k j, j < n + n → en (W.set i (addR (W.getD i []) (scaleR (W.getD c []) (en W i c).n))) k j = if k = i then en W i j + en W c j * en W i c else en W k j := fun k j hj => by
    rw [en_set _ _ _ (by omega)]
    split
    · rw [addR_at _ _ _ (by rw [ri.1]; exact hj) ri.2 (scaleR_byte rc.2), scaleR_at _ _ _ rc.2 hx, G.of_self]
      rfl
    · rfl
  refine ⟨⟨h.half.shape.set i (by rw [addR_len]; exact ri.1) (addR_byte ri.2 (scaleR_byte rc.2)), ?_, fun k hk j hj => ?_⟩, ?_, fun k hk hkn hkc => ?_⟩
  · refine (h.half.steps.add (t := en W i c) hc hne).congr (fun k hk j hj => ?_)
    rw [hen k j hj]
    rcases Decidable.em (k = i) with e | e
    · rw [if_pos e, if_pos e]
    · rw [if_neg e, if_neg e]
  · rw [hen k j (by omega)]
    split
    · rename_i e
      have z : en W c j = G.zero := by rw [h.half.unit c hc j hj, dl_ne (by omega)]
      rw [z, G.zero_mul, G.add_zero, e]
      exact h.half.unit i hi j hj
    · exact h.half.unit k hk j hj
  · rw [hen c c (by omega), if_neg (fun e => hne e.symm)]
    exact h.one
  · rw [hen k c (by omega)]
    split
    · rw [h.one, G.one_mul, G.add_self]
    · rename_i e
      exact h.none_ k (by omega) hkn hkc
theorem Clear.done {n c : Nat} {a : Mat} {W : ML} (h : Clear n c n a W) : Half n (c + 1) a W := by
  refine ⟨h.half.shape, h.half.steps, fun i hi j hj => ?_⟩
  rcases Nat.lt_or_ge j c with h1 | h1
  · exact h.half.unit i hi j h1
  · obtain rfl : j = c := by omega
    rcases Decidable.em (i = j) with e | e
    · rw [e, h.one, dl_eq]
    · rw [h.none_ i hi hi e, dl_ne e]
theorem Half.flat {n c : Nat} {a : Mat} {W : ML} (h : Half n c a W) (hc : c < n) (hz : ∀ i, c ≤ i → i < n → en W i c = G.zero) : ¬ Sharp n a := h.steps.flat hc h.unit hz
/-- The right half, when all columns are One's. -/
def rightL (n : Nat) (W : ML) : ML := W.map fun r => r.drop n
theorem Half.right {n : Nat} {a : Mat} {W : ML} (h : Half n n a W) : Shape (rightL n W) n n ∧ (∀ i, i < n → ∀ j, j < n → mm n (en (rightL n W)) a i j = dl i j) ∧ (∀ i, i < n → ∀ j, j < n → mm n a (en (rightL n W)) i j = dl i j) := by
  have hs : Shape (rightL n W) n n := by
    refine ⟨by simp [rightL, h.shape.high], fun r hr => ?_, fun r hr x hx => ?_⟩
    · simp only [rightL, List.mem_map] at hr
      obtain ⟨q, hq, rfl⟩ := hr
      rw [List.length_drop, h.shape.wide q hq]
      omega
    · simp only [rightL, List.mem_map] at hr
      obtain ⟨q, hq, rfl⟩ := hr
      exact h.shape.byte q hq x (List.mem_of_mem_drop hx)
  have he : ∀ i, i < n → ∀ j, en (rightL n W) i j = en W i (n + j) := fun i hi j => by
    have hl : i < W.length := by rw [h.shape.high]; exact hi
    unfold en rightL
    congr 1
    simp [hl]
  obtain ⟨h1, h2⟩ := h.steps.done h.unit
  refine ⟨hs, fun i hi j hj => ?_, fun i hi j hj => ?_⟩
  · rw [← h1 i hi j hj]
    exact gs_congr (fun l _ => by rw [he i hi l])
  · rw [← h2 i hi j hj]
    exact gs_congr (fun l hl => by rw [he l hl j])
/-- There is one inverse. -/
theorem one_inverse {A B C : ML} {n : Nat} (hB : Shape B n n) (hC : Shape C n n) (h1 : ∀ i, i < n → ∀ j, j < n → mm n (en B) (en A) i j = dl i j) (h2 : ∀ i, i < n → ∀ j, j < n → mm n (en A) (en C) i j = dl i j) : B = C :=
  hB.ext hC (inverse_one h1 h2)
end Go.Proofs.Ytehgjkckhjggbaa
namespace Go.Proofs.Ytehgjkckhjggbaa
open Go.RowKit
/-- A matrix of the call's own. -/
def OwnMt (w : World) (B : Nat) (v : Value) (xss : ML) : Prop := ∃ vs, OwnV w B v vs ∧ Owns w B vs xss
theorem OwnMt.nil (w : World) (B : Nat) : OwnMt w B (.slice none 0 0) [] := ⟨[], OwnV.nil w B, Owns.nil w B⟩
theorem OwnMt.form {w : World} {B : Nat} {v : Value} {xss : ML} {n : Nat} (h : OwnMt w B v xss) (hn : xss.length = n) : ∃ A c, v = .slice A n c ∧ IsM w A xss ∧ n ≤ 9223372036854775807 := by
  obtain ⟨vs, h1, h2⟩ := h
  obtain ⟨A, c, e, hr, hl⟩ := h1.form (n := n) (by rw [h2.1, hn])
  exact ⟨A, c, e, ⟨vs, hr, h2.isBs⟩, hl⟩
theorem OwnMt.keep {w w' : World} {B : Nat} {v : Value} {xss : ML} (h : OwnMt w B v xss) (hb : Below w.heap.size w w') : OwnMt w' B v xss := by
  obtain ⟨vs, h1, h2⟩ := h
  exact ⟨vs, h1.keep hb, h2.keep hb⟩
theorem OwnMt.more {w : World} {B B' : Nat} {v : Value} {xss : ML} (h : OwnMt w B v xss) (hb : B' ≤ B) : OwnMt w B' v xss := by
  obtain ⟨vs, h1, h2⟩ := h
  exact ⟨vs, h1.more hb, h2.more hb⟩
theorem OwnMt.drewN {w : World} {B : Nat} {v : Value} {xss : ML} (h : OwnMt w B v xss) (d : Nat) : OwnMt (w.drewN d) B v xss := h
theorem OwnMt.isM {w : World} {B : Nat} {A : Option Addr} {n c : Nat} {xss : ML} (h : OwnMt w B (.slice A n c) xss) : IsM w A xss ∧ xss.length = n := by
  obtain ⟨vs, h1, h2⟩ := h
  obtain ⟨A', c', e, hr, hl⟩ := h1.form rfl
  cases e
  exact ⟨⟨vs, hr, h2.isBs⟩, h2.1.symm⟩
/-- In a block of its own: at each place the row's slice, of the call's own. -/
theorem OwnMt.row {w : World} {B g n c : Nat} {xss : ML} (h : OwnMt w B (.slice (some ⟨g, 0, none⟩) n c) xss) (k : Nat) (hk : k < n) :
    ∃ A' c', w.cell? ⟨g, k, none⟩ = some (.slice A' (xss.getD k []).length c') ∧ Own w B (.slice A' (xss.getD k []).length c') (xss.getD k []) ∧ w.frozen? ⟨g, k, none⟩ = false := by
  obtain ⟨vs, h1, h2⟩ := h
  have hl : vs.length = n := by
    obtain ⟨A', c', e, _, _⟩ := h1.form rfl
    cases e
    rfl
  have hv := h2.2 k (by omega)
  obtain ⟨A', c', e, _⟩ := hv.form
  rw [e] at hv
  unfold OwnV at h1
  rw [hl] at h1
  refine ⟨A', c', ?_, hv, World.ownsRow.frozenAt h1 k⟩
  rw [World.ownsRow.cellAt h1 k (by omega), ← e]
  have : k < vs.length := by omega
  simp [this]
theorem Owns.put {w : World} {B : Nat} {vs : List Value} {xss : ML} {v : Value} {xs : List Nat} (h : Owns w B vs xss) (hv : Own w B v xs) (k : Nat) : Owns w B (vs.set k v) (xss.set k xs) := by
  refine ⟨by rw [List.length_set, List.length_set, h.1], fun i hi => ?_⟩
  rw [List.length_set] at hi
  have hi2 : i < xss.length := by rw [← h.1]; exact hi
  rw [List.getD_eq_getElem?_getD, List.getD_eq_getElem?_getD, List.getElem?_set, List.getElem?_set]
  by_cases e : k = i
  · subst e
    rw [if_pos rfl, if_pos rfl, if_pos hi, if_pos hi2]
    exact hv
  · rw [if_neg e, if_neg e, ← List.getD_eq_getElem?_getD, ← List.getD_eq_getElem?_getD]
    exact h.2 i hi
/-- A row of the call's own comes to a place. -/
theorem OwnMt.put {w : World} {B g n c : Nat} {xss : ML} {v : Value} {xs : List Nat} (h : OwnMt w B (.slice (some ⟨g, 0, none⟩) n c) xss) (hv : Own w B v xs) (k : Nat) :
    OwnMt (w.setCell ⟨g, k, none⟩ v) B (.slice (some ⟨g, 0, none⟩) n c) (xss.set k xs) := by
  obtain ⟨vs, h1, h2⟩ := h
  have hl : vs.length = n := by
    obtain ⟨A', c', e, _, _⟩ := h1.form rfl
    cases e
    rfl
  have h1' := h1
  unfold OwnV at h1
  have st := (World.ownsRow.stored (n := n) (by rw [hl] at h1; exact h1) k v)
  refine ⟨vs.set k v, ?_, ?_⟩
  · unfold OwnV
    rw [List.length_set, hl]
    exact st.1
  · have := (h2.put hv k).apart (us := vs) (u := .slice (some ⟨g, 0, none⟩) n c) h1' (w' := w.setCell ⟨g, k, none⟩ v) st.2
    exact this
/-- .. and the slices that were read ahead of it stand. -/
theorem Own.putIn {w : World} {B B' g n c k : Nat} {xss : ML} {u v : Value} {xs : List Nat} (h : Own w B' v xs) (hm : OwnMt w B (.slice (some ⟨g, 0, none⟩) n c) xss) : Own (w.setCell ⟨g, k, none⟩ u) B' v xs := by
  obtain ⟨vs, h1, _⟩ := hm
  exact h.apart h1 (grown_set w g k u)
theorem OwnMt.base {w : World} {B g n c : Nat} {xss : ML} (h : OwnMt w B (.slice (some ⟨g, 0, none⟩) n c) xss) : B ≤ g ∧ g < w.heap.size := by
  obtain ⟨vs, h1, _⟩ := h
  exact World.ownsRow.lt h1 g rfl
theorem OwnMt.below {w : World} {B g n c k : Nat} {xss : ML} {a : World} {u : Value} (h : OwnMt w B (.slice (some ⟨g, 0, none⟩) n c) xss) (hb : Below B a w) : Below B a (w.setCell ⟨g, k, none⟩ u) := hb.setCell h.base.1 _
/-- A row that is appended. -/
theorem OwnMt.snoc {w w' : World} {B : Nat} {v' v : Value} {vs : List Value} {u : Value} {xss : ML} {xs : List Nat} (h1 : OwnV w B v vs) (h2 : Owns w B vs xss) (hu : Own w B u xs) (ho : OwnV w' B v' (vs ++ [u])) (hg : w.grownBy w' v.ownBlock) : OwnMt w' B v' (xss ++ [xs]) :=
  ⟨vs ++ [u], ho, (h2.snoc hu).apart h1 hg⟩
/-- Whether rows are a matrix. -/
def isMt (xss : ML) : Bool := decide (1 ≤ xss.length ∧ xss.length ≤ 64 ∧ 1 ≤ (xss.getD 0 []).length ∧ (xss.getD 0 []).length ≤ 64 ∧ ∀ r ∈ xss, r.length = (xss.getD 0 []).length)
theorem isMt_shape {xss : ML} (h : isMt xss = true) (hb : ∀ r ∈ xss, ∀ x ∈ r, x < 256) : ∃ n m, 1 ≤ n ∧ n ≤ 64 ∧ 1 ≤ m ∧ m ≤ 64 ∧ Shape xss n m := by
  have h := of_decide_eq_true h
  exact ⟨_, _, h.1, h.2.1, h.2.2.1, h.2.2.2.1, ⟨rfl, h.2.2.2.2, hb⟩⟩
theorem Shape.isMt {xss : ML} {n m : Nat} (h : Shape xss n m) (h1 : 1 ≤ n) (h2 : n ≤ 64) (h3 : 1 ≤ m) (h4 : m ≤ 64) : isMt xss = true := by
  have e := (h.row (i := 0) (by omega)).1
  refine decide_eq_true ?_
  rw [e, h.high]
  exact ⟨h1, h2, h3, h4, h.wide⟩
theorem Shape.len_at {xss : ML} {n m : Nat} (h : Shape xss n m) (k : Nat) (hk : k < n) : (xss.getD k []).length = m := (h.row hk).1
theorem mem_getD {xss : ML} {k : Nat} (hk : k < xss.length) : xss.getD k [] ∈ xss := by
  have : xss.getD k [] = xss[k] := by simp [hk]
  rw [this]
  exact List.getElem_mem hk
theorem isMt_no {xss : ML} (h : ¬ (1 ≤ xss.length ∧ xss.length ≤ 64)) : isMt xss = false := decide_eq_false (fun k => h ⟨k.1, k.2.1⟩)
theorem isMt_no2 {xss : ML} (h : ¬ (1 ≤ (xss.getD 0 []).length ∧ (xss.getD 0 []).length ≤ 64)) : isMt xss = false := decide_eq_false (fun k => h ⟨k.2.2.1, k.2.2.2.1⟩)
theorem isMt_is {xss : ML} (h : 1 ≤ xss.length ∧ xss.length ≤ 64) (h2 : 1 ≤ (xss.getD 0 []).length ∧ (xss.getD 0 []).length ≤ 64) : isMt xss = decide (∀ i, i < xss.length → (xss.getD i []).length = (xss.getD 0 []).length) := by
  unfold isMt
  apply decide_eq_decide.2
  constructor
  · intro k i hi
    exact k.2.2.2.2 _ (mem_getD hi)
  · intro k
    refine ⟨h.1, h.2, h2.1, h2.2, fun r hr => ?_⟩
    obtain ⟨i, hi, e⟩ := List.getElem_of_mem hr
    have := k i hi
    rw [show xss.getD i [] = r by simp [hi, e]] at this
    exact this
end Go.Proofs.Ytehgjkckhjggbaa
namespace Go.Proofs.Ytehgjkckhjggbaa
open Go.RowKit
def rowV (r m : Nat) : Value := .slice (some ⟨r, 0, none⟩) m m
def cellsG (f : Mat) (i m : Nat) : List Value := (List.range m).map fun j => .int .u8 ((f i j).n : Int)
structure Grid (w : World) (B g n m : Nat) (R : Nat → Nat) (f : Mat) : Prop where
  outer : Blk w B 23 g ((List.range n).map fun i => rowV (R i) m)
  row : ∀ i, i < n → Blk w B 5 (R i) (cellsG f i m)
  apart : ∀ i j, i < n → j < n → R i = R j → i = j
theorem Grid.keep {w w' : World} {B g n m : Nat} {R : Nat → Nat} {f : Mat} (h : Grid w B g n m R f) (hb : Below w.heap.size w w') : Grid w' B g n m R f := ⟨h.outer.keep hb, fun i hi => (h.row i hi).keep hb, h.apart⟩
theorem Grid.more {w : World} {B B' g n m : Nat} {R : Nat → Nat} {f : Mat} (h : Grid w B g n m R f) (hb : B' ≤ B) : Grid w B' g n m R f := ⟨h.outer.more hb, fun i hi => (h.row i hi).more hb, h.apart⟩
theorem Grid.drewN {w : World} {B g n m : Nat} {R : Nat → Nat} {f : Mat} (h : Grid w B g n m R f) (d : Nat) : Grid (w.drewN d) B g n m R f := ⟨h.outer.drewN d, fun i hi => (h.row i hi).drewN d, h.apart⟩
theorem Grid.cell {w : World} {B g n m : Nat} {R : Nat → Nat} {f : Mat} (h : Grid w B g n m R f) (i : Nat) (hi : i < n) : w.cell? ⟨g, i, none⟩ = some (.slice (some ⟨R i, 0, none⟩) m m) := by
  rw [h.outer.cell]
  simp [hi, rowV]
theorem Grid.num {w : World} {B g n m : Nat} {R : Nat → Nat} {f : Mat} (h : Grid w B g n m R f) (i j : Nat) (hi : i < n) (hj : j < m) : w.cell? ⟨R i, j, none⟩ = some (.int .u8 ((f i j).n : Int)) := by
  rw [(h.row i hi).cell]
  simp [hj, cellsG]
theorem Grid.frozen {w : World} {B g n m : Nat} {R : Nat → Nat} {f : Mat} (h : Grid w B g n m R f) (i j : Nat) (hi : i < n) : w.frozen? ⟨R i, j, none⟩ = false := (h.row i hi).frozen j
def upd (f : Mat) (i j : Nat) (x : G) : Mat := fun a b => if a = i ∧ b = j then x else f a b
theorem upd_at (f : Mat) (i j : Nat) (x : G) : upd f i j x i j = x := if_pos ⟨rfl, rfl⟩
theorem upd_row {f : Mat} {i j a b : Nat} {x : G} (h : a ≠ i) : upd f i j x a b = f a b := if_neg (fun e => h e.1)
theorem upd_col {f : Mat} {i j a b : Nat} {x : G} (h : b ≠ j) : upd f i j x a b = f a b := if_neg (fun e => h e.2)
theorem cellsG_set (f : Mat) (i j m : Nat) (x : G) : (cellsG f i m).set j (.int .u8 (x.n : Int)) = cellsG (upd f i j x) i m := by
  apply List.ext_getElem
  · simp [cellsG]
  · intro b h1 h2
    rw [List.getElem_set]
    simp only [cellsG, List.getElem_map, List.getElem_range]
    by_cases e : j = b
    · subst e; rw [if_pos rfl, upd_at]
    · rw [if_neg e, upd_col (fun q => e q.symm)]
theorem cellsG_other (f : Mat) {i a : Nat} (j m : Nat) (x : G) (h : a ≠ i) : cellsG (upd f i j x) a m = cellsG f a m := by
  unfold cellsG
  congr 1
  funext b
  rw [upd_row h]
theorem Grid.ne {w : World} {B g n m : Nat} {R : Nat → Nat} {f : Mat} (h : Grid w B g n m R f) (i : Nat) (hi : i < n) : R i ≠ g := (h.row i hi).ne h.outer (by decide)
theorem Grid.set {w : World} {B g n m : Nat} {R : Nat → Nat} {f : Mat} (h : Grid w B g n m R f) (i j : Nat) (hi : i < n) (x : G) : Grid (w.setCell ⟨R i, j, none⟩ (.int .u8 (x.n : Int))) B g n m R (upd f i j x) := by
  refine ⟨h.outer.kept (grown_set w (R i) j _) (fun e => h.ne i hi (by simpa using e)), fun a ha => ?_, h.apart⟩
  by_cases e : a = i
  · subst e
    rw [← cellsG_set]
    exact (h.row a hi).stored j _
  · rw [cellsG_other f j m x e]
    exact (h.row a ha).kept (grown_set w (R i) j _) (fun q => e (h.apart a i ha hi (by simpa using q.symm)))
theorem Grid.base {w : World} {B g n m : Nat} {R : Nat → Nat} {f : Mat} (h : Grid w B g n m R f) (i : Nat) (hi : i < n) : B ≤ R i := (h.row i hi).1
theorem Grid.below {w a : World} {B g n m : Nat} {R : Nat → Nat} {f : Mat} (h : Grid w B g n m R f) (i j : Nat) (hi : i < n) (u : Value) (hb : Below B a w) : Below B a (w.setCell ⟨R i, j, none⟩ u) := hb.setCell (h.base i hi) _
theorem blk_own {w : World} {B g n : Nat} {xs : List Nat} (h : Blk w B 5 g (xs.map fun x : Nat => Value.int .u8 (x : Int))) (hn : xs.length = n) (h3 : n ≤ 9223372036854775807) : Own w B (.slice (some ⟨g, 0, none⟩) n n) xs := by
  obtain ⟨hb, cur, hg, hc⟩ := h
  have hs : cur.size = n := by rw [← Array.length_toList, hc, List.length_map, hn]
  unfold Own
  refine ⟨by rw [List.length_map, Nat.mul_one], .inr ⟨g, n, cur, by rw [hn], hb, hg, by omega, by unfold maxLen; omega, by omega, ?_⟩⟩
  rw [hc, Nat.mul_one]
  exact List.take_of_length_le (by rw [List.length_map]; exact Nat.le_refl _)
theorem laid_len (n m : Nat) (f : Mat) : (laid n m f).length = n := by simp [laid]
theorem Grid.own {w : World} {B g n m : Nat} {R : Nat → Nat} {f : Mat} (h : Grid w B g n m R f) (h1 : n ≤ 1000000) (h2 : m ≤ 1000000) : OwnMt w B (.slice (some ⟨g, 0, none⟩) n n) (laid n m f) := by
  refine ⟨(List.range n).map fun i => rowV (R i) m, ?_, by rw [laid_len, List.length_map, List.length_range], fun i hi => ?_⟩
  · obtain ⟨hb, cur, hg, hc⟩ := h.outer
    have hs : cur.size = n := by rw [← Array.length_toList, hc, List.length_map, List.length_range]
    unfold OwnV
    rw [List.length_map, List.length_range]
    refine ⟨by rw [List.length_map, List.length_range, Nat.mul_one], .inr ⟨g, n, cur, rfl, hb, hg, by omega, by unfold maxLen; omega, by omega, ?_⟩⟩
    rw [hc, Nat.mul_one]
    exact List.take_of_length_le (by rw [List.length_map, List.length_range]; exact Nat.le_refl _)
  · have hi2 : i < n := by simpa using hi
    have e1 : ((List.range n).map fun i => rowV (R i) m).getD i (.slice none 0 0) = rowV (R i) m := by simp [hi2]
    rw [e1, laid_row f hi2]
    refine blk_own ?_ (by simp) (by omega)
    have := h.row i hi2
    unfold cellsG at this
    rw [List.map_map]
    exact this
theorem Grid.isM {w : World} {B g n m : Nat} {R : Nat → Nat} {f : Mat} (h : Grid w B g n m R f) (h1 : n ≤ 1000000) (h2 : m ≤ 1000000) : IsM w (some ⟨g, 0, none⟩) (laid n m f) := (h.own h1 h2).isM.1
theorem laid_congr {n m : Nat} {f g : Mat} (h : ∀ i, i < n → ∀ j, j < m → f i j = g i j) : laid n m f = laid n m g :=
  (laid_shape n m f).ext (laid_shape n m g) (fun i hi j hj => by rw [laid_at f hi hj, laid_at g hi hj]; exact h i hi j hj)
theorem made_nils {w : World} {B g n : Nat} (h : w.ownsRow B 23 1 (.slice (some ⟨g, 0, none⟩) n n) n (madeCells (Value.slice none 0 0).cells (n * 1)).toList) : Blk w B 23 g (List.replicate n (.slice none 0 0)) := by
  have e : (madeCells (Value.slice none 0 0).cells (n * 1)).toList = List.replicate n (Value.slice none 0 0) := by
    rw [Nat.mul_one]; exact toList_madeCells_one (Value.slice none 0 0) n
  rw [e] at h
  rcases h.2 with ⟨h', _⟩ | ⟨g', cap, cur, h', hb, hg, _, _, h4, h5⟩
  · cases h'
  · simp only [Value.slice.injEq, Option.some.injEq, Addr.mk.injEq, and_true, true_and] at h'
    obtain ⟨rfl, rfl⟩ := h'
    refine ⟨hb, cur, hg, ?_⟩
    rw [← h5, List.take_of_length_le]
    rw [Array.length_toList]
    omega
theorem made_zeros {w : World} {B g n : Nat} (h : w.ownsRow B 5 1 (.slice (some ⟨g, 0, none⟩) n n) n (madeCells (Value.int .u8 0).cells (n * 1)).toList) (i : Nat) : Blk w B 5 g (cellsG (fun _ _ => G.zero) i n) := by
  have e : (madeCells (Value.int .u8 0).cells (n * 1)).toList = List.replicate n (Value.int .u8 0) := by
    rw [Nat.mul_one]; exact toList_madeCells_one (Value.int .u8 0) n
  rw [e] at h
  have e2 : cellsG (fun _ _ => G.zero) i n = List.replicate n (Value.int .u8 0) := by
    apply List.ext_getElem
    · simp [cellsG]
    · intro b h1 h2
      simp [cellsG, G.zero]
  rw [e2]
  rcases h.2 with ⟨h', _⟩ | ⟨g', cap, cur, h', hb, hg, _, _, h4, h5⟩
  · cases h'
  · simp only [Value.slice.injEq, Option.some.injEq, Addr.mk.injEq, and_true, true_and] at h'
    obtain ⟨rfl, rfl⟩ := h'
    refine ⟨hb, cur, hg, ?_⟩
    rw [← h5, List.take_of_length_le]
    rw [Array.length_toList]
    omega
/-- The first k rows stand. -/
structure Begun (w : World) (B g n m k : Nat) (R : Nat → Nat) : Prop where
  outer : Blk w B 23 g ((List.range n).map fun i => if i < k then rowV (R i) m else .slice none 0 0)
  row : ∀ i, i < k → Blk w B 5 (R i) (cellsG (fun _ _ => G.zero) i m)
  apart : ∀ i j, i < k → j < k → R i = R j → i = j
theorem Begun.next {w w' : World} {B g n m k : Nat} {R : Nat → Nat} {b : Nat} (h : Begun w B g n m k R) (hk : k < n) (hb : Blk w' B 5 b (cellsG (fun _ _ => G.zero) k m)) (hw : Below w.heap.size w w') (hn : w.heap.size ≤ b) :
    Begun (w'.setCell ⟨g, k, none⟩ (.slice (some ⟨b, 0, none⟩) m m)) B g n m (k + 1) (fun i => if i = k then b else R i) := by
  have ho := h.outer.keep hw
  have hgb : b ≠ g := hb.ne ho (by decide)
  refine ⟨?_, fun i hi => ?_, fun i j hi hj e => ?_⟩
  · have := ho.stored k (rowV b m)
    have e : ((List.range n).map fun i => if i < k then rowV (R i) m else .slice none 0 0).set k (rowV b m) = (List.range n).map fun i => if i < k + 1 then rowV (if i = k then b else R i) m else .slice none 0 0 := by
      apply List.ext_getElem
      · simp
      · intro i h1 h2
        rw [List.getElem_set]
        simp only [List.getElem_map, List.getElem_range]
        by_cases e : k = i
        · subst e; simp
        · rw [if_neg e]
          by_cases hlt : i < k
          · have : i < k + 1 := by omega
            have ne : i ≠ k := by omega
            simp [hlt, this, ne]
          · have : ¬ i < k + 1 := by omega
            simp [hlt, this]
    rw [e] at this
    exact this
  · by_cases e : i = k
    · subst e
      rw [if_pos rfl]
      exact hb.kept (grown_set w' g i _) (fun q => hgb (by simpa using q.symm))
    · rw [if_neg e]
      have hr := (h.row i (by omega)).keep hw
      exact hr.kept (grown_set w' g k _) (fun q => hr.ne ho (by decide) (by simpa using q.symm))
  · by_cases e1 : i = k
    · by_cases e2 : j = k
      · omega
      · rw [if_pos e1, if_neg e2] at e
        have := (h.row j (by omega)).lt
        omega
    · by_cases e2 : j = k
      · rw [if_neg e1, if_pos e2] at e
        have := (h.row i (by omega)).lt
        omega
      · rw [if_neg e1, if_neg e2] at e
        exact h.apart i j (by omega) (by omega) e
theorem Begun.done {w : World} {B g n m : Nat} {R : Nat → Nat} (h : Begun w B g n m n R) : Grid w B g n m R (fun _ _ => G.zero) := by
  refine ⟨?_, h.row, h.apart⟩
  have := h.outer
  rwa [show ((List.range n).map fun i => if i < n then rowV (R i) m else .slice none 0 0) = (List.range n).map fun i => rowV (R i) m from List.map_congr_left (fun i hi => if_pos (List.mem_range.1 hi))] at this
end Go.Proofs.Ytehgjkckhjggbaa
namespace Go.Proofs.Ytehgjkckhjggbaa
open Go.RowKit
theorem wpList_append_mrow {w : World} {ops : Array Oper} {rest : List Oper} {o : Oper} {a : Act} {Q : Exit → Act → World → Prop} (hgd : o.guard = none) (s x : Operand)
    (ho : o.op = .call { callee := .builtin .append, args := #[s, x], argTypes := #[42, 42] })
    (B : Nat) (v : Value) (xss : ML) (hs : a.eval s = v) (hown : OwnMt w B v xss)
    (b : Nat) (u : Value) (xs : List Nat) (hx : a.eval x = .slice (some ⟨b, 0, none⟩) 1 1) (hu : w.cell? ⟨b, 0, none⟩ = some u) (hr : Own w B u xs)
    (hlen : xss.length + 1 ≤ 1099511627776) (hbase : B ≤ w.heap.size)
    (h : ∀ v' w', OwnMt w' B v' (xss ++ [xs]) → Below B w w' → wpList Try.prog ops Q rest (a.put o.dst v') w') : wpList Try.prog ops Q (o :: rest) a w := by
  obtain ⟨vs, h1, h2⟩ := hown
  obtain ⟨A, c, e, _⟩ := hr.form
  exact wpList_append_row hgd s x ho B v vs hs h1 b u hx hu (by rw [e]; rfl) (by rw [h2.1]; exact hlen) hbase (fun v' w' k1 k2 k3 => h v' w' (OwnMt.snoc h1 h2 hr k1 k3) k2)
theorem cell_newAt (w : World) (u : Value) (e : TypeId) {b : Nat} (h : b = w.heap.size) : (w.alloc (.cells #[u] e)).cell? ⟨b, 0, none⟩ = some u := by
  subst h
  exact cell_new w u e
theorem take_snoc (xss : ML) (k : Nat) (h : k < xss.length) : xss.take (k + 1) = xss.take k ++ [xss.getD k []] := by
  rw [List.take_succ_eq_append_getElem h]
  simp [h]
theorem one_row {n k : Nat} (hk : k < n) : (List.replicate n 0).set k 1 = (oneL n).getD k [] := by
  unfold oneL
  rw [laid_row dl hk]
  apply List.ext_getElem
  · simp
  · intro i h1 h2
    rw [List.getElem_set]
    simp only [List.getElem_replicate, List.getElem_map, List.getElem_range]
    by_cases e : k = i
    · subst e; rw [if_pos rfl, dl_eq]; rfl
    · rw [if_neg e, dl_ne e]; rfl
end Go.Proofs.Ytehgjkckhjggbaa
namespace Go.Proofs.Ytehgjkckhjggbaa
open Go.RowKit
/-- The matrix whose rows are another's columns. -/
def turn (f : Mat) : Mat := fun a b => f b a
theorem dot_mm {A : ML} (B : ML) {n p m : Nat} (hA : Shape A n p) (i j : Nat) (hi : i < n) (hj : j < m) :
    dotS (A.getD i []) ((laid m p (turn (en B))).getD j []) p = (mm p (en A) (en B) i j).n := by
  have h2 := (laid_shape m p (turn (en B))).row hj
  rw [dot_gs (hA.row hi).2 h2.2]
  congr 1
  refine gs_congr (fun l hl => ?_)
  show en A i l * en (laid m p (turn (en B))) j l = en A i l * en B l j
  rw [laid_at _ hj hl]
  rfl
theorem Shape.num {xss : ML} {n m : Nat} (h : Shape xss n m) (i j : Nat) (hi : i < n) : (xss.getD i []).getD j 0 = (en xss i j).n := (h.at_ hi j).symm
/-- What is refused. -/
def mulBad (A B : ML) : Prop := isMt A = false ∨ isMt B = false ∨ (A.getD 0 []).length ≠ B.length
theorem take_snocN (xs : List Nat) (k : Nat) (h : k < xs.length) : xs.take (k + 1) = xs.take k ++ [xs.getD k 0] := by
  rw [List.take_succ_eq_append_getElem h]
  simp [h]
theorem isB_one (w : World) (z : Nat) {b : Nat} (h : b = w.heap.size) : IsB (w.alloc (.cells #[.int .u8 (z : Int)] 5)) (.slice (some ⟨b, 0, none⟩) 1 1) [z] := by
  subst h
  exact isB_new w _ [z] rfl (by simp) _ 1 rfl rfl
end Go.Proofs.Ytehgjkckhjggbaa
namespace Go.Proofs.Ytehgjkckhjggbaa
theorem getD_at {xs : List Nat} {x : Nat} (h : x < xs.length) : xs.getD x 0 = xs[x] := by simp [h]
/-- All rows, by the data. -/
def word (k : Nat) (X : Mat) : Mat := mm k (codeRow k) X
theorem word_low {k l : Nat} (X : Mat) (h : l < k) (x : Nat) : word k X l x = X l x := by
  show gs k (fun j => codeRow k l j * X j x) = X l x
  rw [gs_congr (g := fun j => dl l j * X j x) (fun j _ => by unfold codeRow; rw [if_pos h])]
  exact gs_dl_left (f := fun j => X j x) h
theorem word_congr {k : Nat} {X Y : Mat} {x : Nat} (h : ∀ j, j < k → X j x = Y j x) (l : Nat) : word k X l x = word k Y l x := gs_congr (fun j hj => by rw [h j hj])
theorem word_add (k : Nat) (X Y : Mat) (l x : Nat) : word k (fun i j => X i j + Y i j) l x = word k X l x + word k Y l x := by
  show gs k (fun j => codeRow k l j * (X j x + Y j x)) = _
  rw [gs_congr (g := fun j => codeRow k l j * X j x + codeRow k l j * Y j x) (fun j _ => G.mul_add _ _ _), gs_add]
  rfl
/-- Two words that agree in k unlike rows are the same. -/
theorem word_agree {k : Nat} {P : List Nat} (hk : P.length = k) (hn : P.Nodup) (hb : ∀ l ∈ P, l < 256) (h256 : k ≤ 256) {X Y : Mat} {x : Nat} (h : ∀ l ∈ P, word k X l x = word k Y l x) : ∀ i, i < k → X i x = Y i x := by
  have hs := code_sharp k P hk hn hb h256
  intro i hi
  have hv : ∀ r, r < k → mv k (fun i j => codeRow k (P.getD i 0) j) (fun j => X j x + Y j x) r = G.zero := fun r hr => by
    have hr2 : r < P.length := by omega
    have e : P.getD r 0 = P[r] := by simp [hr2]
    show gs k (fun j => codeRow k (P.getD r 0) j * (X j x + Y j x)) = G.zero
    rw [gs_congr (g := fun j => codeRow k P[r] j * X j x + codeRow k P[r] j * Y j x) (fun j _ => by rw [e, G.mul_add]), gs_add]
    have := h P[r] (List.getElem_mem hr2)
    have e1 : gs k (fun j => codeRow k P[r] j * X j x) = word k X P[r] x := rfl
    have e2 : gs k (fun j => codeRow k P[r] j * Y j x) = word k Y P[r] x := rfl
    rw [e1, e2, this, G.add_self]
  exact G.eq_of (hs _ hv i hi)
def wordL (k m n : Nat) (X : Mat) : ML := laid (k + m) n (word k X)
theorem wordL_len (k m n : Nat) (X : Mat) : (wordL k m n X).length = k + m := by simp [wordL, laid]
theorem wordL_shape (k m n : Nat) (X : Mat) : Shape (wordL k m n X) (k + m) n := laid_shape _ _ _
theorem wordL_congr {k m n : Nat} {X Y : Mat} (h : ∀ j, j < k → ∀ x, x < n → X j x = Y j x) : wordL k m n X = wordL k m n Y :=
  (laid_shape _ _ _).ext (laid_shape _ _ _) (fun i hi x hx => by
    unfold wordL
    rw [laid_at _ hi hx, laid_at _ hi hx]
    exact word_congr (fun j hj => h j hj x hx) i)
theorem wordL_row {k m n l : Nat} {X Y : Mat} (hl : l < k + m) (h : (wordL k m n X).getD l [] = (wordL k m n Y).getD l []) {x : Nat} (hx : x < n) : word k X l x = word k Y l x := by
  have h1 : en (wordL k m n X) l x = word k X l x := laid_at _ hl hx
  have h2 : en (wordL k m n Y) l x = word k Y l x := laid_at _ hl hx
  rw [← h1, ← h2]
  unfold en
  rw [h]
/-- Words that agree in the rows of P are the same. -/
theorem wordL_agree {k m n : Nat} {P : List Nat} (hk : P.length = k) (hn : P.Nodup) (hb : ∀ l ∈ P, l < k + m) (h256 : k + m ≤ 256) {X Y : Mat} (h : ∀ l ∈ P, (wordL k m n X).getD l [] = (wordL k m n Y).getD l []) : wordL k m n X = wordL k m n Y :=
  wordL_congr (fun j hj x hx => word_agree hk hn (fun l hl => by have := hb l hl; omega) (by omega) (fun l hl => wordL_row (hb l hl) (h l hl) hx) j hj)
/-- The data's rows stand first. -/
theorem wordL_low {k m n : Nat} {D : ML} (h : Shape D k n) : (wordL k m n (en D)).take k = D := by
  have hs := wordL_shape k m n (en D)
  have hl : ((wordL k m n (en D)).take k).length = k := by rw [List.length_take, wordL_len]; omega
  refine (Shape.ext (n := k) (m := n) ⟨hl, fun r hr => hs.wide r (List.mem_of_mem_take hr), fun r hr => hs.byte r (List.mem_of_mem_take hr)⟩ h (fun i hi x hx => ?_))
  have e : en ((wordL k m n (en D)).take k) i x = en (wordL k m n (en D)) i x := by
    unfold en
    congr 1
    simp [hi]
  rw [e]
  unfold wordL
  rw [laid_at _ (by omega) hx, word_low _ hi]
/-! ### which rows are there -/
def present (W : ML) : List Nat := (List.range W.length).filter fun i => !(W.getD i []).isEmpty
theorem present_mem {W : ML} {i : Nat} : i ∈ present W ↔ i < W.length ∧ W.getD i [] ≠ [] := by
  unfold present
  rw [List.mem_filter, List.mem_range]
  simp
theorem present_nodup (W : ML) : (present W).Nodup := List.nodup_range.filter _
/-- The first k of them. -/
def firstP (W : ML) (k : Nat) : List Nat := (present W).take k
theorem firstP_mem {W : ML} {k i : Nat} (h : i ∈ firstP W k) : i < W.length ∧ W.getD i [] ≠ [] := present_mem.1 (List.mem_of_mem_take h)
theorem firstP_nodup (W : ML) (k : Nat) : (firstP W k).Nodup := (present_nodup W).sublist (List.take_sublist k _)
theorem firstP_len {W : ML} {k : Nat} (h : k ≤ (present W).length) : (firstP W k).length = k := by unfold firstP; rw [List.length_take]; omega
/-- Which of the first i rows are there. -/
def filt (W : ML) (i : Nat) : List Nat := (List.range i).filter fun t => !(W.getD t []).isEmpty
theorem filt_all (W : ML) : filt W W.length = present W := rfl
theorem filt_yes {W : ML} {i : Nat} (h : W.getD i [] ≠ []) : filt W (i + 1) = filt W i ++ [i] := by
  unfold filt
  rw [List.range_succ, List.filter_append]
  congr 1
  have e : (W.getD i []).isEmpty = false := by
    cases q : W.getD i [] with
    | nil => exact absurd q h
    | cons a b => rfl
  simp only [List.filter_cons, e, List.filter_nil]
  rfl
theorem filt_no {W : ML} {i : Nat} (h : W.getD i [] = []) : filt W (i + 1) = filt W i := by
  unfold filt
  rw [List.range_succ, List.filter_append]
  have e : (W.getD i []).isEmpty = true := by rw [h]; rfl
  simp only [List.filter_cons, e, List.filter_nil]
  simp
theorem filt_take {W : ML} {i : Nat} : ∀ N, i ≤ N → ∃ r, filt W N = filt W i ++ r
  | 0, h => by
    obtain rfl : i = 0 := by omega
    exact ⟨[], by simp⟩
  | N + 1, h => by
    rcases Nat.lt_or_ge N i with h1 | h1
    · obtain rfl : i = N + 1 := by omega
      exact ⟨[], by simp⟩
    · obtain ⟨r, hr⟩ := filt_take N h1
      rcases Decidable.em (W.getD N [] = []) with e | e
      · exact ⟨r, by rw [filt_no e, hr]⟩
      · exact ⟨r ++ [N], by rw [filt_yes e, hr, List.append_assoc]⟩
theorem filt_first {W : ML} {i k : Nat} (h : i ≤ W.length) (hk : (filt W i).length = k) : firstP W k = filt W i ∧ k ≤ (present W).length := by
  obtain ⟨r, hr⟩ := filt_take W.length h
  rw [filt_all] at hr
  unfold firstP
  rw [hr]
  refine ⟨List.take_left' hk, by rw [List.length_append]; omega⟩
theorem filt_mem {W : ML} {i t : Nat} (h : t ∈ filt W i) : t < i ∧ W.getD t [] ≠ [] := by
  unfold filt at h
  rw [List.mem_filter, List.mem_range] at h
  simpa using h
/-- What Mend answers, where it answers: the word that has the first k rows that are there. -/
def mended (W : ML) (k m n : Nat) (L : ML) : Prop := ∃ X, L = wordL k m n X ∧ ∀ l ∈ firstP W k, L.getD l [] = W.getD l []
theorem mended_once {W : ML} {k m n : Nat} {L L' : ML} (hW : W.length = k + m) (h256 : k + m ≤ 256) (hp : k ≤ (present W).length) (h : mended W k m n L) (h' : mended W k m n L') : L = L' := by
  obtain ⟨X, rfl, hx⟩ := h
  obtain ⟨Y, rfl, hy⟩ := h'
  refine wordL_agree (firstP_len hp) (firstP_nodup W k) (fun l hl => ?_) h256 (fun l hl => by rw [hx l hl, hy l hl])
  rw [← hW]
  exact (firstP_mem hl).1
/-- The word that is made by the inverse of the rows that are there. -/
theorem mended_by {W : ML} {k m n : Nat} {inv hav : Mat} (hW : W.length = k + m) (hs : ∀ r ∈ W, r ≠ [] → r.length = n) (hb : ∀ r ∈ W, ∀ x ∈ r, x < 256) (hp : k ≤ (present W).length)
    (hi : ∀ i, i < k → ∀ j, j < k → mm k (fun i j => codeRow k ((firstP W k).getD i 0) j) inv i j = dl i j) (hh : ∀ i, i < k → ∀ x, x < n → hav i x = en W ((firstP W k).getD i 0) x) :
    mended W k m n (wordL k m n (mm k inv hav)) := by
  refine ⟨_, rfl, fun l hl => ?_⟩
  obtain ⟨i, hi2, e⟩ := List.getElem_of_mem hl
  have hlen := firstP_len hp
  have hik : i < k := by omega
  have hlm := firstP_mem hl
  have hlW : l < k + m := by rw [← hW]; exact hlm.1
  have hmem : W.getD l [] ∈ W := by
    have : W.getD l [] = W[l]'hlm.1 := by simp [hlm.1]
    rw [this]; exact List.getElem_mem _
  have hg : (firstP W k).getD i 0 = l := by simp [hi2, e]
  have hrl := hs _ hmem hlm.2
  have hrow := (wordL_shape k m n (mm k inv hav)).row hlW
  apply List.ext_getElem (by rw [hrow.1, hrl])
  intro x h1 h2
  have hx : x < n := by rw [← hrow.1]; exact h1
  have e1 : en (wordL k m n (mm k inv hav)) l x = en W l x := by
    unfold wordL
    rw [laid_at _ hlW hx]
    have h3 : word k (mm k inv hav) l x = mm k (mm k (fun i j => codeRow k ((firstP W k).getD i 0) j) inv) hav i x := by
      rw [mm_assoc]
      show gs k (fun j => codeRow k l j * _) = gs k (fun j => codeRow k ((firstP W k).getD i 0) j * _)
      rw [hg]
    rw [h3]
    have h4 : mm k (mm k (fun i j => codeRow k ((firstP W k).getD i 0) j) inv) hav i x = mm k dl hav i x := gs_congr (fun j hj => by rw [hi i hik j hj])
    rw [h4, mm_one_left hik, hh i hik x hx, hg]
  have e2 := congrArg G.n e1
  have e3 : (en (wordL k m n (mm k inv hav)) l x).n = ((wordL k m n (mm k inv hav)).getD l []).getD x 0 := (wordL_shape k m n (mm k inv hav)).at_ hlW x
  have e4 : (en W l x).n = (W.getD l []).getD x 0 := G.of_n (getD_lt (hb _ hmem) x)
  rw [e3, e4, getD_at h1, getD_at h2] at e2
  exact e2
/-- Whether all rows fit. -/
def fitting (W : ML) (k m n : Nat) : Prop := ∃ X, W = wordL k m n X
/-- All but row i. -/
def fittingBut (W : ML) (k m n i : Nat) : Prop := ∃ X, ∀ l, l < k + m → l ≠ i → W.getD l [] = (wordL k m n X).getD l []
theorem fitting_mended {W : ML} {k m n : Nat} (h : fitting W k m n) (V : ML) (hV : ∀ l ∈ firstP V k, W.getD l [] = V.getD l []) : mended V k m n W := by
  obtain ⟨X, rfl⟩ := h
  exact ⟨X, rfl, hV⟩
/-- k unlike numbers below k + m, none of them among two. -/
theorem rest_len {k m i j : Nat} (_hm : 2 ≤ m) : k ≤ ((List.range (k + m)).filter fun l => decide (l ≠ i ∧ l ≠ j)).length := by
  have h1 : (List.range (k + m)).length ≤ (((List.range (k + m)).filter fun l => decide (l ≠ i ∧ l ≠ j)) ++ [i, j]).length := nodup_len List.nodup_range (fun x hx => by
    by_cases h : x ≠ i ∧ x ≠ j
    · exact List.mem_append.2 (.inl (List.mem_filter.2 ⟨hx, decide_eq_true h⟩))
    · refine List.mem_append.2 (.inr ?_)
      by_cases e : x = i
      · simp [e]
      · have : x = j := by
          by_cases e2 : x = j
          · exact e2
          · exact absurd ⟨e, e2⟩ h
        simp [this])
  rw [List.length_range, List.length_append] at h1
  have h2 : ([i, j] : List Nat).length = 2 := rfl
  omega
/-- Two words that differ in row j at most, or in rows i and j, are the same, where m is 2 or more. -/
theorem word_two {k m n i j : Nat} (hm : 2 ≤ m) (h256 : k + m ≤ 256) {X Y : Mat} (h : ∀ l, l < k + m → l ≠ i → l ≠ j → (wordL k m n X).getD l [] = (wordL k m n Y).getD l []) : wordL k m n X = wordL k m n Y := by
  have hr := rest_len (k := k) (m := m) (i := i) (j := j) hm
  refine wordL_agree (P := ((List.range (k + m)).filter fun l => decide (l ≠ i ∧ l ≠ j)).take k) (by rw [List.length_take]; omega) ((List.nodup_range.filter _).sublist (List.take_sublist _ _)) (fun l hl => ?_) h256 (fun l hl => ?_)
  · exact List.mem_range.1 (List.mem_filter.1 (List.mem_of_mem_take hl)).1
  · have h2 := List.mem_filter.1 (List.mem_of_mem_take hl)
    have h3 := of_decide_eq_true h2.2
    exact h l (List.mem_range.1 h2.1) h3.1 h3.2
/-- One row of a word is changed: it no longer fits, and no row but that one is wrong. -/
theorem one_wrong {k m n j : Nat} {X : Mat} {r : List Nat} (hm : 2 ≤ m) (h256 : k + m ≤ 256) (hj : j < k + m) (hr : r ≠ (wordL k m n X).getD j []) (i : Nat) :
    fittingBut ((wordL k m n X).set j r) k m n i ↔ i = j := by
  have hset : ∀ l, ((wordL k m n X).set j r).getD l [] = if l = j then r else (wordL k m n X).getD l [] := fun l => set_row r l (by rw [wordL_len]; exact hj)
  constructor
  · rintro ⟨Y, hY⟩
    rcases Decidable.em (i = j) with e | e
    · exact e
    · exfalso
      have hsame : wordL k m n X = wordL k m n Y := word_two (i := i) (j := j) hm h256 (fun l hl h1 h2 => by
        have := hY l hl h1
        rw [hset, if_neg h2] at this
        exact this)
      have := hY j hj (fun q => e q.symm)
      rw [hset, if_pos rfl, ← hsame] at this
      exact hr this
  · rintro rfl
    exact ⟨X, fun l hl hne => by rw [hset, if_neg hne]⟩
theorem one_not {k m n j : Nat} {X : Mat} {r : List Nat} (hm : 2 ≤ m) (h256 : k + m ≤ 256) (hj : j < k + m) (hr : r ≠ (wordL k m n X).getD j []) : ¬ fitting ((wordL k m n X).set j r) k m n := by
  rintro ⟨Y, hY⟩
  have h1 := (one_wrong hm h256 hj hr (j + 1)).1 ⟨Y, fun l hl _ => by rw [hY]⟩
  omega
end Go.Proofs.Ytehgjkckhjggbaa
