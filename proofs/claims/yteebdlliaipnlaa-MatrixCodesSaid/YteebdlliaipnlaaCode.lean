/- Any k rows of a code, in any order, take nothing but noughts to noughts. It names nothing of the program. -/
import Derived.Test.YteebdlliaipnlaaField
namespace Go.Proofs.Yteebdlliaipnlaa
/-! ### sums over a list -/
def ls (f : Nat → G) : List Nat → G
  | [] => G.zero
  | y :: r => f y + ls f r
theorem ls_congr {f g : Nat → G} : ∀ {l : List Nat}, (∀ y ∈ l, f y = g y) → ls f l = ls g l
  | [], _ => rfl
  | y :: r, h => by
    show f y + ls f r = g y + ls g r
    rw [h y (by simp), ls_congr (fun z hz => h z (by simp [hz]))]
theorem ls_add (f g : Nat → G) : ∀ l : List Nat, ls (fun y => f y + g y) l = ls f l + ls g l
  | [] => (G.add_zero _).symm
  | y :: r => by
    show f y + g y + ls (fun y => f y + g y) r = (f y + ls f r) + (g y + ls g r)
    rw [ls_add f g r]
    ac_rfl
theorem ls_mul (f : Nat → G) (c : G) : ∀ l : List Nat, ls (fun y => f y * c) l = ls f l * c
  | [] => (G.zero_mul _).symm
  | y :: r => by
    show f y * c + ls (fun y => f y * c) r = (f y + ls f r) * c
    rw [ls_mul f c r, G.add_mul]
theorem ls_none {f : Nat → G} : ∀ {l : List Nat}, (∀ y ∈ l, f y = G.zero) → ls f l = G.zero
  | [], _ => rfl
  | y :: r, h => by
    show f y + ls f r = _
    rw [h y (by simp), ls_none (fun z hz => h z (by simp [hz])), G.add_zero]
theorem gs_eq_ls (f : Nat → G) : ∀ n : Nat, gs n f = ls f (List.range n)
  | 0 => rfl
  | n + 1 => by
    have app : ∀ (a b : List Nat), ls f (a ++ b) = ls f a + ls f b := fun a b => by
      induction a with
      | nil => exact (G.zero_add _).symm
      | cons y r ih =>
        show f y + ls f (r ++ b) = f y + ls f r + ls f b
        rw [ih, G.add_assoc]
    rw [List.range_succ, app, ← gs_eq_ls f n]
    show gs n f + f n = gs n f + (f n + G.zero)
    rw [G.add_zero]
theorem ls_filter (f : Nat → G) (p : Nat → Bool) : ∀ l : List Nat, (∀ y ∈ l, p y = false → f y = G.zero) → ls f l = ls f (l.filter p)
  | [], _ => rfl
  | y :: r, h => by
    have ih := ls_filter f p r (fun z hz => h z (by simp [hz]))
    rcases hp : p y with _ | _
    · rw [List.filter_cons_of_neg (by simp [hp])]
      show f y + ls f r = _
      rw [h y (by simp) hp, G.zero_add, ih]
    · rw [List.filter_cons_of_pos (by simp [hp])]
      show f y + ls f r = f y + ls f (r.filter p)
      rw [ih]

/-! ### the rows behind One's -/
def kx (x y : Nat) : G := (G.of (x ^^^ y)).inv
theorem of_xor {x y : Nat} (hx : x < 256) (hy : y < 256) : G.of (x ^^^ y) = G.of x + G.of y := G.ext (by
  rw [G.of_n (xor_lt8 hx hy), G.add_n, G.of_n hx, G.of_n hy])
theorem of_ne {x y : Nat} (hx : x < 256) (hy : y < 256) (h : x ≠ y) : G.of (x ^^^ y) ≠ G.zero := fun e => by
  have e : x ^^^ y = 0 := by
    have := congrArg G.n e
    rwa [G.of_n (xor_lt8 hx hy)] at this
  apply h
  have : (x ^^^ y) ^^^ y = 0 ^^^ y := by rw [e]
  rwa [Nat.xor_assoc, Nat.xor_self, Nat.xor_zero, Nat.zero_xor] at this
theorem kx_mul {x y : Nat} (hx : x < 256) (hy : y < 256) (h : x ≠ y) : (G.of x + G.of y) * kx x y = G.one := by
  rw [← of_xor hx hy]
  exact G.mul_inv (of_ne hx hy h)
theorem kx_ne {x y : Nat} (hx : x < 256) (hy : y < 256) (h : x ≠ y) : kx x y ≠ G.zero := G.inv_ne (of_ne hx hy h)
theorem sum_ne {x y : Nat} (hx : x < 256) (hy : y < 256) (h : x ≠ y) : G.of x + G.of y ≠ G.zero := by
  rw [← of_xor hx hy]
  exact of_ne hx hy h
/-- Another column's factor: (x + z) / (x + y) is 1 and (y + z) / (x + y). -/
theorem kx_shift {x y : Nat} (z : G) (hx : x < 256) (hy : y < 256) (h : x ≠ y) : (G.of x + z) * kx x y = G.one + (G.of y + z) * kx x y := by
  have e : G.of x + z = (G.of x + G.of y) + (G.of y + z) := by
    have : (G.of x + G.of y) + (G.of y + z) = G.of x + (G.of y + G.of y) + z := by ac_rfl
    rw [this, G.add_self, G.add_zero]
  rw [e, G.add_mul, kx_mul hx hy h]
theorem kx_diff {x w y : Nat} (hx : x < 256) (hw : w < 256) (hy : y < 256) (h1 : x ≠ y) (h2 : w ≠ y) : kx x y + kx w y = (G.of x + G.of w) * (kx x y * kx w y) := by
  have e : G.of x + G.of w = (G.of w + G.of y) + (G.of x + G.of y) := by
    have : (G.of w + G.of y) + (G.of x + G.of y) = G.of x + G.of w + (G.of y + G.of y) := by ac_rfl
    rw [this, G.add_self, G.add_zero]
  have h3 : (G.of w + G.of y) * (kx x y * kx w y) = kx x y := by
    have : (G.of w + G.of y) * (kx x y * kx w y) = ((G.of w + G.of y) * kx w y) * kx x y := by ac_rfl
    rw [this, kx_mul hw hy h2, G.one_mul]
  have h4 : (G.of x + G.of y) * (kx x y * kx w y) = kx w y := by
    have : (G.of x + G.of y) * (kx x y * kx w y) = ((G.of x + G.of y) * kx x y) * kx w y := by ac_rfl
    rw [this, kx_mul hx hy h1, G.one_mul]
  rw [e, G.add_mul, h3, h4]
/-- As many rows as columns, all unlike: nothing but noughts comes to noughts. -/
theorem cauchy : ∀ (ys xs : List Nat) (v : Nat → G), ys.length ≤ xs.length → xs.Nodup → ys.Nodup → (∀ x ∈ xs, x < 256) → (∀ y ∈ ys, y < 256) → (∀ x ∈ xs, ∀ y ∈ ys, x ≠ y) →
    (∀ x ∈ xs, ls (fun y => v y * kx x y) ys = G.zero) → ∀ y ∈ ys, v y = G.zero
  | [], _, _, _, _, _, _, _, _, _ => fun _ h => absurd h (by simp)
  | y0 :: ys, [], _, hl, _, _, _, _, _, _ => by simp at hl
  | y0 :: ys, x0 :: xs, v, hl, nx, ny, bx, b_y, hne, h => by
    obtain ⟨nx0, nx1⟩ := List.nodup_cons.1 nx
    obtain ⟨ny0, ny1⟩ := List.nodup_cons.1 ny
    have hy0 : y0 < 256 := b_y y0 (by simp)
    have hx0 : x0 < 256 := bx x0 (by simp)
    have hc : ∀ x ∈ x0 :: xs, ls (fun y => v y * (G.of y + G.of y0) * kx x y) ys = v y0 + ls v ys := fun x hx => by
      have hx8 := bx x hx
      have h1 : (v y0 * kx x y0 + ls (fun y => v y * kx x y) ys) * (G.of x + G.of y0) = G.zero := by
        have := h x hx
        rw [show v y0 * kx x y0 + ls (fun y => v y * kx x y) ys = G.zero from this, G.zero_mul]
      rw [G.add_mul, ← ls_mul] at h1
      have h2 : v y0 * kx x y0 * (G.of x + G.of y0) = v y0 := by
        have : v y0 * kx x y0 * (G.of x + G.of y0) = v y0 * ((G.of x + G.of y0) * kx x y0) := by ac_rfl
        rw [this, kx_mul hx8 hy0 (hne x hx y0 (by simp)), G.mul_one]
      have h3 : ls (fun y => v y * kx x y * (G.of x + G.of y0)) ys = ls v ys + ls (fun y => v y * (G.of y + G.of y0) * kx x y) ys := by
        rw [← ls_add]
        refine ls_congr (fun y hy => ?_)
        have : v y * kx x y * (G.of x + G.of y0) = v y * ((G.of x + G.of y0) * kx x y) := by ac_rfl
        rw [this, kx_shift (G.of y0) hx8 (b_y y (by simp [hy])) (hne x hx y (by simp [hy])), G.mul_add, G.mul_one]
        congr 1
        ac_rfl
      rw [h2, h3, ← G.add_assoc] at h1
      exact (G.eq_of h1).symm
    have hd : ∀ x ∈ xs, ls (fun y => v y * (G.of y + G.of y0) * kx x0 y * kx x y) ys = G.zero := fun x hx => by
      have hx8 := bx x (by simp [hx])
      have hxx : x ≠ x0 := fun e => nx0 (e ▸ hx)
      have h1 : ls (fun y => v y * (G.of y + G.of y0) * kx x y + v y * (G.of y + G.of y0) * kx x0 y) ys = G.zero := by
        rw [ls_add, hc x (by simp [hx]), hc x0 (by simp), G.add_self]
      have h2 : ls (fun y => v y * (G.of y + G.of y0) * kx x y + v y * (G.of y + G.of y0) * kx x0 y) ys = (G.of x + G.of x0) * ls (fun y => v y * (G.of y + G.of y0) * kx x0 y * kx x y) ys := by
        rw [G.mul_comm, ← ls_mul]
        refine ls_congr (fun y hy => ?_)
        rw [← G.mul_add, kx_diff hx8 hx0 (b_y y (by simp [hy])) (hne x (by simp [hx]) y (by simp [hy])) (hne x0 (by simp) y (by simp [hy]))]
        ac_rfl
      rw [h2] at h1
      exact G.zero_of (sum_ne hx8 hx0 hxx) h1
    have ih := cauchy ys xs (fun y => v y * (G.of y + G.of y0) * kx x0 y) (by simpa using hl) nx1 ny1 (fun x hx => bx x (by simp [hx])) (fun y hy => b_y y (by simp [hy])) (fun x hx y hy => hne x (by simp [hx]) y (by simp [hy])) hd
    have hrest : ∀ y ∈ ys, v y = G.zero := fun y hy => by
      have h1 := ih y hy
      have hy8 := b_y y (by simp [hy])
      rw [G.mul_comm] at h1
      have h2 := G.zero_of (kx_ne hx0 hy8 (hne x0 (by simp) y (by simp [hy]))) h1
      rw [G.mul_comm] at h2
      exact G.zero_of (sum_ne hy8 hy0 (fun e => ny0 (e ▸ hy))) h2
    intro y hy
    rcases List.mem_cons.1 hy with rfl | hy
    · have h1 : v y * kx x0 y + ls (fun y => v y * kx x0 y) ys = G.zero := h x0 (by simp)
      rw [ls_none (fun z hz => by rw [hrest z hz, G.zero_mul]), G.add_zero, G.mul_comm] at h1
      exact G.zero_of (kx_ne hx0 hy0 (hne x0 (by simp) y (by simp))) h1
    · exact hrest y hy
/-- A code's row. -/
def codeRow (k l j : Nat) : G := if l < k then dl l j else kx l j
theorem filter_split (p : Nat → Bool) : ∀ l : List Nat, (l.filter p).length + (l.filter fun x => !p x).length = l.length
  | [] => rfl
  | y :: r => by
    have ih := filter_split p r
    rcases hp : p y with _ | _
    · rw [List.filter_cons_of_neg (by simp [hp]), List.filter_cons_of_pos (by simp [hp]), List.length_cons, List.length_cons]
      omega
    · rw [List.filter_cons_of_pos (by simp [hp]), List.filter_cons_of_neg (by simp [hp]), List.length_cons, List.length_cons]
      omega
theorem nodup_len {l m : List Nat} (hl : l.Nodup) (h : ∀ x ∈ l, x ∈ m) : l.length ≤ m.length := by
  induction l generalizing m with
  | nil => exact Nat.zero_le _
  | cons x r ih =>
    obtain ⟨h1, h2⟩ := List.nodup_cons.1 hl
    have hx : x ∈ m := h x (by simp)
    have := ih (m := m.erase x) h2 (fun y hy => (List.mem_erase_of_ne (fun e : y = x => h1 (e ▸ hy))).2 (h y (by simp [hy])))
    rw [List.length_erase_of_mem hx] at this
    have hm : 0 < m.length := List.length_pos_of_mem hx
    rw [List.length_cons]
    omega
/-- k rows of the code, in any order, all unlike: nothing but noughts comes to noughts. -/
theorem code_sharp (k : Nat) (P : List Nat) (hk : P.length = k) (hn : P.Nodup) (hb : ∀ l ∈ P, l < 256) (h256 : k ≤ 256) : Sharp k (fun i j => codeRow k (P.getD i 0) j) := by
  intro v hv
  have hrow : ∀ l ∈ P, gs k (fun j => codeRow k l j * v j) = G.zero := fun l hl => by
    obtain ⟨i, hi, e⟩ := List.getElem_of_mem hl
    have h1 : gs k (fun j => codeRow k (P.getD i 0) j * v j) = G.zero := hv i (by rw [← hk]; exact hi)
    rw [show P.getD i 0 = l by simp [hi, e]] at h1
    exact h1
  have hlow : ∀ l ∈ P, l < k → v l = G.zero := fun l hl hlk => by
    have := hrow l hl
    rw [gs_congr (g := fun j => dl l j * v j) (fun j _ => by unfold codeRow; rw [if_pos hlk]), gs_dl_left hlk] at this
    exact this
  have hS : ∀ y ∈ (List.range k).filter (fun y => !decide (y ∈ P)), v y = G.zero := by
    refine cauchy _ (P.filter fun l => !decide (l < k)) v ?_ (hn.filter _) ((List.nodup_range).filter _) (fun x hx => hb x (List.mem_filter.1 hx).1) (fun y hy => by
      have := List.mem_range.1 (List.mem_filter.1 hy).1
      omega) (fun x hx y hy e => by
      have h1 := (List.mem_filter.1 hx).2
      have h2 := List.mem_range.1 (List.mem_filter.1 hy).1
      simp at h1
      omega) (fun x hx => ?_)
    · have h1 := filter_split (fun l => decide (l < k)) P
      have h2 := filter_split (fun y => decide (y ∈ P)) (List.range k)
      rw [List.length_range] at h2
      have h3 : (P.filter fun l => decide (l < k)).length ≤ ((List.range k).filter fun y => decide (y ∈ P)).length := nodup_len (hn.filter _) (fun x hx => by
        obtain ⟨a, b⟩ := List.mem_filter.1 hx
        exact List.mem_filter.2 ⟨List.mem_range.2 (of_decide_eq_true b), decide_eq_true a⟩)
      omega
    · obtain ⟨hxP, hxk⟩ := List.mem_filter.1 hx
      have hxk : ¬ x < k := by simpa using hxk
      have := hrow x hxP
      rw [gs_congr (g := fun j => v j * kx x j) (fun j _ => by unfold codeRow; rw [if_neg hxk, G.mul_comm]), gs_eq_ls, ls_filter _ (fun y => !decide (y ∈ P)) _ (fun y hy hp => by
        have hp : y ∈ P := by simpa using hp
        rw [hlow y hp (List.mem_range.1 hy), G.zero_mul])] at this
      exact this
  intro l hl
  rcases Decidable.em (l ∈ P) with h | h
  · exact hlow l h hl
  · exact hS l (List.mem_filter.2 ⟨List.mem_range.2 hl, by simp [h]⟩)
end Go.Proofs.Yteebdlliaipnlaa
