/- Matrices as lists of rows of bytes: product, One, the code, picks. It names nothing of the program. -/
import Derived.Test.YteebdlliaipnlaaCode
import Derived.Test.YteebdlliaipnlaaGPart
namespace Go.Proofs.Yteebdlliaipnlaa
abbrev ML := List (List Nat)
def en (A : ML) : Mat := fun i j => G.of ((A.getD i []).getD j 0)
structure Shape (A : ML) (n m : Nat) : Prop where
  high : A.length = n
  wide : ∀ r ∈ A, r.length = m
  byte : ∀ r ∈ A, ∀ x ∈ r, x < 256
theorem Shape.row {A : ML} {n m i : Nat} (h : Shape A n m) (hi : i < n) : (A.getD i []).length = m ∧ ∀ x ∈ A.getD i [], x < 256 := by
  have hl : i < A.length := by rw [h.high]; exact hi
  have e : A.getD i [] = A[i] := by simp [hl]
  rw [e]
  exact ⟨h.wide _ (List.getElem_mem hl), h.byte _ (List.getElem_mem hl)⟩
theorem Shape.at_ {A : ML} {n m i : Nat} (h : Shape A n m) (hi : i < n) (j : Nat) : (en A i j).n = (A.getD i []).getD j 0 := G.of_n (getD_lt (h.row hi).2 j)
/-- Two that agree at every place are the same. -/
theorem Shape.ext {A B : ML} {n m : Nat} (h : Shape A n m) (k : Shape B n m) (e : ∀ i, i < n → ∀ j, j < m → en A i j = en B i j) : A = B := by
  apply List.ext_getElem (by rw [h.high, k.high])
  intro i h1 h2
  have hi : i < n := by rw [← h.high]; exact h1
  obtain ⟨a1, a2⟩ := h.row hi
  obtain ⟨b1, b2⟩ := k.row hi
  have ea : A.getD i [] = A[i] := by simp [h1]
  have eb : B.getD i [] = B[i] := by simp [h2]
  rw [ea] at a1 a2
  rw [eb] at b1 b2
  apply List.ext_getElem (by rw [a1, b1])
  intro j g1 g2
  have hj : j < m := by rw [← a1]; exact g1
  have := congrArg G.n (e i hi j hj)
  rw [h.at_ hi, k.at_ hi, ea, eb] at this
  simpa [g1, g2] using this
/-- A matrix that is laid place by place. -/
def laid (n m : Nat) (f : Mat) : ML := (List.range n).map fun i => (List.range m).map fun j => (f i j).n
theorem laid_shape (n m : Nat) (f : Mat) : Shape (laid n m f) n m := by
  refine ⟨by simp [laid], fun r hr => ?_, fun r hr x hx => ?_⟩
  · simp only [laid, List.mem_map] at hr
    obtain ⟨i, _, rfl⟩ := hr
    simp
  · simp only [laid, List.mem_map] at hr
    obtain ⟨i, _, rfl⟩ := hr
    simp only [List.mem_map] at hx
    obtain ⟨j, _, rfl⟩ := hx
    exact (f i j).lt
theorem laid_row {n m i : Nat} (f : Mat) (hi : i < n) : (laid n m f).getD i [] = (List.range m).map fun j => (f i j).n := by simp [laid, hi]
theorem laid_at {n m i j : Nat} (f : Mat) (hi : i < n) (hj : j < m) : en (laid n m f) i j = f i j := by
  unfold en
  rw [laid_row f hi]
  simp [hj, G.of_self]
theorem laid_en {A : ML} {n m : Nat} (h : Shape A n m) : laid n m (en A) = A := (laid_shape n m _).ext h (fun _ hi _ hj => laid_at _ hi hj)
def mulL (A B : ML) (n p m : Nat) : ML := laid n m (mm p (en A) (en B))
theorem mul_joins (A B C : ML) (n p q m : Nat) : mulL (mulL A B n p q) C n q m = mulL A (mulL B C p q m) n p m := by
  refine (laid_shape n m _).ext (laid_shape n m _) (fun i hi j hj => ?_)
  unfold mulL
  rw [laid_at _ hi hj, laid_at _ hi hj]
  have h1 : mm q (en (laid n q (mm p (en A) (en B)))) (en C) i j = mm q (mm p (en A) (en B)) (en C) i j := gs_congr (fun l hl => by rw [laid_at _ hi hl])
  have h2 : mm p (en A) (en (laid p m (mm q (en B) (en C)))) i j = mm p (en A) (mm q (en B) (en C)) i j := gs_congr (fun l hl => by rw [laid_at _ hl hj])
  rw [h1, h2, mm_assoc]
def oneL (n : Nat) : ML := laid n n dl
theorem one_mulL {A : ML} {n m : Nat} (h : Shape A n m) : mulL (oneL n) A n n m = A := by
  refine (laid_shape n m _).ext h (fun i hi j hj => ?_)
  rw [laid_at _ hi hj]
  have : mm n (en (oneL n)) (en A) i j = mm n dl (en A) i j := gs_congr (fun l hl => by unfold oneL; rw [laid_at _ hi hl])
  rw [this, mm_one_left hi]
theorem mulL_one_of {A B : ML} {n : Nat} (h : ∀ i, i < n → ∀ j, j < n → mm n (en A) (en B) i j = dl i j) : mulL A B n n n = oneL n :=
  (laid_shape n n _).ext (laid_shape n n _) (fun i hi j hj => by unfold oneL; rw [laid_at _ hi hj, laid_at _ hi hj]; exact h i hi j hj)
/-- The sum of products of two rows, as it is reckoned. -/
theorem dot_gs {xs ys : List Nat} (hx : ∀ x ∈ xs, x < 256) (hy : ∀ y ∈ ys, y < 256) : ∀ k, dotS xs ys k = (gs k (fun l => G.of (xs.getD l 0) * G.of (ys.getD l 0))).n
  | 0 => rfl
  | k + 1 => by
    show dotS xs ys k ^^^ gmul (xs.getD k 0) (ys.getD k 0) = (gs k _ + _).n
    rw [dot_gs hx hy k, G.add_n, G.mul_n, G.of_n (getD_lt hx k), G.of_n (getD_lt hy k)]
def codeL (k m : Nat) : ML := laid (k + m) k (codeRow k)
theorem code_known : codeL 2 1 = [[1, 0], [0, 1], [142, 244]] := by decide +kernel
theorem kx_n {x y : Nat} (hx : x < 256) (hy : y < 256) : (kx x y).n = ginv (x ^^^ y) := by
  show ginv (G.of (x ^^^ y)).n = _
  rw [G.of_n (xor_lt8 hx hy)]
/-! ### picks: rows that are taken one by one out of those that are left -/
structure Picks (t : Nat) (left P : List Nat) : Prop where
  count : P.length + left.length = t
  nodupL : left.Nodup
  nodupP : P.Nodup
  apart : ∀ x ∈ P, x ∉ left
  low : ∀ x ∈ P, x < t
  lowL : ∀ x ∈ left, x < t
theorem picks_start (t : Nat) : Picks t (List.range t) [] :=
  ⟨by simp, List.nodup_range, List.nodup_nil, fun _ h => absurd h (by simp), fun _ h => absurd h (by simp), fun x hx => List.mem_range.1 hx⟩
theorem Picks.take {t j : Nat} {left P : List Nat} (h : Picks t left P) (hj : j < left.length) : Picks t (left.take j ++ left.drop (j + 1)) (P ++ [left.getD j 0]) := by
  have e : left = left.take j ++ left[j] :: left.drop (j + 1) := by rw [List.getElem_cons_drop, List.take_append_drop]
  have eg : left.getD j 0 = left[j] := by simp [hj]
  have hn := h.nodupL
  rw [e, List.nodup_append] at hn
  obtain ⟨n1, n2, n3⟩ := hn
  obtain ⟨m1, m2⟩ := List.nodup_cons.1 n2
  have sub : ∀ x ∈ left.take j ++ left.drop (j + 1), x ∈ left := fun x hx => by
    rcases List.mem_append.1 hx with hx | hx
    · exact List.mem_of_mem_take hx
    · exact List.mem_of_mem_drop hx
  have hnot : left[j] ∉ left.take j ++ left.drop (j + 1) := fun hx => by
    rcases List.mem_append.1 hx with hx | hx
    · exact n3 _ hx _ (List.mem_cons.2 (.inl rfl)) rfl
    · exact m1 hx
  have hmem : left[j] ∈ left := List.getElem_mem hj
  rw [eg]
  refine ⟨?_, ?_, ?_, fun x hx => ?_, fun x hx => ?_, fun x hx => h.lowL x (sub x hx)⟩
  · have := h.count
    simp only [List.length_append, List.length_take, List.length_drop, List.length_singleton]
    omega
  · exact List.nodup_append.2 ⟨n1, m2, fun a ha b hb => n3 a ha b (List.mem_cons.2 (.inr hb))⟩
  · refine List.nodup_append.2 ⟨h.nodupP, by simp, fun a ha b hb e => ?_⟩
    rw [List.mem_singleton] at hb
    exact h.apart a ha (by rw [e, hb]; exact hmem)
  · rcases List.mem_append.1 hx with hx | hx
    · exact fun hl => h.apart x hx (sub x hl)
    · rw [List.mem_singleton] at hx
      rw [hx]
      exact hnot
  · rcases List.mem_append.1 hx with hx | hx
    · exact h.low x hx
    · rw [List.mem_singleton] at hx
      rw [hx]
      exact h.lowL _ hmem
/-- The rows that were picked are a matrix that takes nothing but noughts to noughts. -/
theorem picked_sharp {k m : Nat} {left P : List Nat} (h : Picks (k + m) left P) (hk : P.length = k) (ht : k + m ≤ 256) : Sharp k (en (P.map fun l => (codeL k m).getD l [])) := by
  have hs := code_sharp k P hk h.nodupP (fun l hl => by have := h.low l hl; omega) (by omega)
  intro v hv
  refine hs v (fun i hi => ?_)
  rw [← hv i hi]
  refine gs_congr (fun j hj => ?_)
  congr 1
  have hiP : i < P.length := by omega
  have e1 : P.getD i 0 = P[i] := by simp [hiP]
  have hlow := h.low P[i] (List.getElem_mem hiP)
  have e2 : (P.map fun l => (codeL k m).getD l []).getD i [] = (codeL k m).getD P[i] [] := by simp [hiP]
  show codeRow k (P.getD i 0) j = G.of (((P.map fun l => (codeL k m).getD l []).getD i []).getD j 0)
  rw [e1, e2]
  exact (laid_at (n := k + m) (m := k) (codeRow k) hlow hj).symm
end Go.Proofs.Yteebdlliaipnlaa
