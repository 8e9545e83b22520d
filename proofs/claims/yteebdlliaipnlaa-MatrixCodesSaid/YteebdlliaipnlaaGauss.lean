/- A matrix and One side by side, row by row brought to One and the inverse: what each step leaves. It names nothing of the program. -/
import Derived.Test.YteebdlliaipnlaaMatL
namespace Go.Proofs.Yteebdlliaipnlaa
def scaleR (r : List Nat) (s : Nat) : List Nat := r.map fun x => gmul x s
def addR (r t : List Nat) : List Nat := (List.range r.length).map fun j => r.getD j 0 ^^^ t.getD j 0
theorem scaleR_len (r : List Nat) (s : Nat) : (scaleR r s).length = r.length := by simp [scaleR]
theorem addR_len (r t : List Nat) : (addR r t).length = r.length := by simp [addR]
theorem scaleR_byte {r : List Nat} {s : Nat} (h : ∀ x ∈ r, x < 256) : ∀ x ∈ scaleR r s, x < 256 := by
  intro x hx
  simp only [scaleR, List.mem_map] at hx
  obtain ⟨y, hy, rfl⟩ := hx
  exact gmul_lt _ (h y hy)
theorem addR_byte {r t : List Nat} (h : ∀ x ∈ r, x < 256) (k : ∀ x ∈ t, x < 256) : ∀ x ∈ addR r t, x < 256 := by
  intro x hx
  simp only [addR, List.mem_map] at hx
  obtain ⟨j, _, rfl⟩ := hx
  exact xor_lt8 (getD_lt h j) (getD_lt k j)
theorem scaleR_at (r : List Nat) (s j : Nat) (hr : ∀ x ∈ r, x < 256) (hs : s < 256) : G.of ((scaleR r s).getD j 0) = G.of (r.getD j 0) * G.of s := by
  have h1 : (scaleR r s).getD j 0 = gmul (r.getD j 0) s := by
    unfold scaleR
    by_cases hj : j < r.length
    · simp [hj]
    · simp [Nat.le_of_not_lt hj, zero_gmul]
  have h2 := getD_lt hr j
  rw [h1]
  exact G.ext (by rw [G.of_n (gmul_lt _ h2), G.mul_n, G.of_n h2, G.of_n hs])
theorem addR_at (r t : List Nat) (j : Nat) (hj : j < r.length) (hr : ∀ x ∈ r, x < 256) (ht : ∀ x ∈ t, x < 256) : G.of ((addR r t).getD j 0) = G.of (r.getD j 0) + G.of (t.getD j 0) := by
  have h1 : (addR r t).getD j 0 = r.getD j 0 ^^^ t.getD j 0 := by simp [addR, hj]
  rw [h1]
  exact of_xor (getD_lt hr j) (getD_lt ht j)
theorem Shape.set {W : ML} {n m : Nat} (h : Shape W n m) (i : Nat) {r : List Nat} (h1 : r.length = m) (h2 : ∀ x ∈ r, x < 256) : Shape (W.set i r) n m := by
  refine ⟨by rw [List.length_set, h.high], fun q hq => ?_, fun q hq => ?_⟩
  · rcases List.mem_or_eq_of_mem_set hq with hq | rfl
    · exact h.wide q hq
    · exact h1
  · rcases List.mem_or_eq_of_mem_set hq with hq | rfl
    · exact h.byte q hq
    · exact h2
theorem set_row {W : ML} {i : Nat} (r : List Nat) (k : Nat) (hi : i < W.length) : (W.set i r).getD k [] = if k = i then r else W.getD k [] := by
  rw [List.getD_eq_getElem?_getD, List.getD_eq_getElem?_getD, List.getElem?_set]
  by_cases h : i = k
  · subst h
    rw [if_pos rfl, if_pos rfl, if_pos hi]
    rfl
  · rw [if_neg h, if_neg (fun e => h e.symm)]
theorem en_set {W : ML} {i : Nat} (r : List Nat) (k j : Nat) (hi : i < W.length) : en (W.set i r) k j = if k = i then G.of (r.getD j 0) else en W k j := by
  unfold en
  rw [set_row r k hi]
  split <;> rfl
/-- The first c columns are One's. -/
structure Half (n c : Nat) (a : Mat) (W : ML) : Prop where
  shape : Shape W n (n + n)
  steps : Steps n a (en W)
  unit : ∀ i, i < n → ∀ j, j < c → en W i j = dl i j
theorem dl_ne {i j : Nat} (h : i ≠ j) : dl i j = G.zero := if_neg h
theorem dl_eq (i : Nat) : dl i i = G.one := if_pos rfl
theorem half_start {A W : ML} {n : Nat} (hA : Shape A n n) (hW : Shape W n (n + n)) (h : ∀ i, i < n → W.getD i [] = A.getD i [] ++ (oneL n).getD i []) : Half n 0 (en A) W := by
  refine ⟨hW, steps_start n _ _ (fun i hi j hj => ?_) (fun i hi l hl => ?_), fun _ _ j hj => absurd hj (Nat.not_lt_zero j)⟩
  · have hl := (hA.row hi).1
    unfold en
    rw [h i hi]
    congr 1
    simp only [List.getD_eq_getElem?_getD] at hl ⊢
    rw [List.getElem?_append_left (by omega)]
  · have hw := (hA.row hi).1
    have h1 : en W i (n + l) = en (oneL n) i l := by
      unfold en
      rw [h i hi]
      congr 1
      simp only [List.getD_eq_getElem?_getD] at hw ⊢
      rw [List.getElem?_append_right (by omega)]
      congr 2
      omega
    rw [h1]
    exact laid_at _ hi hl
/-- The row with something in column c comes to its place, and is scaled to 1 there. -/
theorem Half.pivot {n c p : Nat} {a : Mat} {W : ML} (h : Half n c a W) (hc : c ≤ p) (hp : p < n) (hne : en W p c ≠ G.zero) :
    Half n c a ((W.set p (W.getD c [])).set c (scaleR (W.getD p []) (ginv (en W p c).n))) ∧ en ((W.set p (W.getD c [])).set c (scaleR (W.getD p []) (ginv (en W p c).n))) c c = G.one := by
  have hcn : c < n := by omega
  have hl := h.shape.high
  have rp := h.shape.row hp
  have rc := h.shape.row hcn
  have hinv : ginv (en W p c).n < 256 := ginv_lt (en W p c).lt
  have einv : G.of (ginv (en W p c).n) = (en W p c).inv := G.of_self (en W p c).inv
  have hen : ∀ k j, en ((W.set p (W.getD c [])).set c (scaleR (W.getD p []) (ginv (en W p c).n))) k j = if k = c then en W p j * (en W p c).inv else if k = p then en W c j else en W k j := fun k j => by
    rw [en_set _ _ _ (by rw [List.length_set]; omega)]
    split
    · rw [scaleR_at _ _ _ rp.2 hinv, einv]
      rfl
    · rw [en_set _ _ _ (by omega)]
      rfl
  refine ⟨⟨(h.shape.set p rc.1 rc.2).set c (by rw [scaleR_len]; exact rp.1) (scaleR_byte rp.2), ?_, fun i hi j hj => ?_⟩, ?_⟩
  · refine ((h.steps.swap hp hcn).scale (c := c) (G.inv_ne hne)).congr (fun i hi j hj => ?_)
    rw [hen]
    rcases Decidable.em (i = c) with e | e
    · rw [if_pos e, if_pos e]
      rcases Decidable.em (c = p) with e2 | e2
      · simp only [if_pos e2]
        rw [← e2]
      · simp only [if_neg e2, if_true]
    · rw [if_neg e, if_neg e]
      rcases Decidable.em (i = p) with e2 | e2
      · simp only [if_pos e2]
      · simp only [if_neg e2, if_neg e]
  · rw [hen]
    have z1 : en W p j = G.zero := by rw [h.unit p hp j hj, dl_ne (by omega)]
    have z2 : en W c j = G.zero := by rw [h.unit c hcn j hj, dl_ne (by omega)]
    rcases Decidable.em (i = c) with e | e
    · rw [if_pos e, z1, G.zero_mul, e, dl_ne (by omega)]
    · rw [if_neg e]
      rcases Decidable.em (i = p) with e2 | e2
      · rw [if_pos e2, z2, e2, dl_ne (by omega)]
      · rw [if_neg e2]
        exact h.unit i hi j hj
  · rw [hen, if_pos rfl]
    exact G.mul_inv hne
/-- Of the rows ahead of i none but row c has anything in column c. -/
structure Clear (n c i : Nat) (a : Mat) (W : ML) : Prop where
  half : Half n c a W
  one : en W c c = G.one
  none_ : ∀ k, k < i → k < n → k ≠ c → en W k c = G.zero
theorem Clear.skip {n c : Nat} {a : Mat} {W : ML} (h : Clear n c c a W) : Clear n c (c + 1) a W := ⟨h.half, h.one, fun k hk hn hne => h.none_ k (by omega) hn hne⟩
theorem Clear.next {n c i : Nat} {a : Mat} {W : ML} (h : Clear n c i a W) (hc : c < n) (hi : i < n) (hne : i ≠ c) :
    Clear n c (i + 1) a (W.set i (addR (W.getD i []) (scaleR (W.getD c []) (en W i c).n))) := by
  have hl := h.half.shape.high
  have ri := h.half.shape.row hi
  have rc := h.half.shape.row hc
  have hx := (en W i c).lt
  have hen : ∀ k j, j < n + n → en (W.set i (addR (W.getD i []) (scaleR (W.getD c []) (en W i c).n))) k j = if k = i then en W i j + en W c j * en W i c else en W k j := fun k j hj => by
    rw [en_set _ _ _ (by omega)]
    split
    · rw [addR_at _ _ _ (by rw [ri.1]; exact hj) ri.2 (scaleR_byte rc.2), scaleR_at _ _ _ rc.2 hx, G.of_self]
      rfl
    · rfl
  refine ⟨⟨h.half.shape.set i (by rw [addR_len]; exact ri.1) (addR_byte ri.2 (scaleR_byte rc.2)), ?_, fun k hk j hj => ?_⟩, ?_, fun k hk hkn hkc => ?_⟩
  · refine (h.half.steps.add (t := en W i c) hc hne).congr (fun k hk j hj => ?_)
    rw [hen k j hj]
    rcases Decidable.em (k = i) with e | e
    · rw [if_pos e, if_pos e]
    · rw [if_neg e, if_neg e]
  · rw [hen k j (by omega)]
    split
    · rename_i e
      have z : en W c j = G.zero := by rw [h.half.unit c hc j hj, dl_ne (by omega)]
      rw [z, G.zero_mul, G.add_zero, e]
      exact h.half.unit i hi j hj
    · exact h.half.unit k hk j hj
  · rw [hen c c (by omega), if_neg (fun e => hne e.symm)]
    exact h.one
  · rw [hen k c (by omega)]
    split
    · rw [h.one, G.one_mul, G.add_self]
    · rename_i e
      exact h.none_ k (by omega) hkn hkc
theorem Clear.done {n c : Nat} {a : Mat} {W : ML} (h : Clear n c n a W) : Half n (c + 1) a W := by
  refine ⟨h.half.shape, h.half.steps, fun i hi j hj => ?_⟩
  rcases Nat.lt_or_ge j c with h1 | h1
  · exact h.half.unit i hi j h1
  · obtain rfl : j = c := by omega
    rcases Decidable.em (i = j) with e | e
    · rw [e, h.one, dl_eq]
    · rw [h.none_ i hi hi e, dl_ne e]
theorem Half.flat {n c : Nat} {a : Mat} {W : ML} (h : Half n c a W) (hc : c < n) (hz : ∀ i, c ≤ i → i < n → en W i c = G.zero) : ¬ Sharp n a := h.steps.flat hc h.unit hz
/-- The right half, when all columns are One's. -/
def rightL (n : Nat) (W : ML) : ML := W.map fun r => r.drop n
theorem Half.right {n : Nat} {a : Mat} {W : ML} (h : Half n n a W) : Shape (rightL n W) n n ∧ (∀ i, i < n → ∀ j, j < n → mm n (en (rightL n W)) a i j = dl i j) ∧ (∀ i, i < n → ∀ j, j < n → mm n a (en (rightL n W)) i j = dl i j) := by
  have hs : Shape (rightL n W) n n := by
    refine ⟨by simp [rightL, h.shape.high], fun r hr => ?_, fun r hr x hx => ?_⟩
    · simp only [rightL, List.mem_map] at hr
      obtain ⟨q, hq, rfl⟩ := hr
      rw [List.length_drop, h.shape.wide q hq]
      omega
    · simp only [rightL, List.mem_map] at hr
      obtain ⟨q, hq, rfl⟩ := hr
      exact h.shape.byte q hq x (List.mem_of_mem_drop hx)
  have he : ∀ i, i < n → ∀ j, en (rightL n W) i j = en W i (n + j) := fun i hi j => by
    have hl : i < W.length := by rw [h.shape.high]; exact hi
    unfold en rightL
    congr 1
    simp [hl]
  obtain ⟨h1, h2⟩ := h.steps.done h.unit
  refine ⟨hs, fun i hi j hj => ?_, fun i hi j hj => ?_⟩
  · rw [← h1 i hi j hj]
    exact gs_congr (fun l _ => by rw [he i hi l])
  · rw [← h2 i hi j hj]
    exact gs_congr (fun l hl => by rw [he l hl j])
/-- There is one inverse. -/
theorem one_inverse {A B C : ML} {n : Nat} (hB : Shape B n n) (hC : Shape C n n) (h1 : ∀ i, i < n → ∀ j, j < n → mm n (en B) (en A) i j = dl i j) (h2 : ∀ i, i < n → ∀ j, j < n → mm n (en A) (en C) i j = dl i j) : B = C :=
  hB.ext hC (inverse_one h1 h2)
end Go.Proofs.Yteebdlliaipnlaa
