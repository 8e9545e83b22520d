/- Any k rows of a code, in any order, take nothing but noughts to noughts. It names nothing of the program. Sets as digits of a number, fewer than 15 of them. It names nothing of the program. -/
import Derived.Test.YtdbngchbhoanpaaSr2
namespace Go.Proofs.Ytdbngchbhoanpaa
/-! ### sums over a list -/
def ls (f : Nat → G) : List Nat → G
  | [] => G.zero
  | y :: r => f y + ls f r
theorem ls_congr {f g : Nat → G} : ∀ {l : List Nat}, (∀ y ∈ l, f y = g y) → ls f l = ls g l
  | [], _ => rfl
  | y :: r, h => by
    show f y + ls f r = g y + ls g r
    rw [h y (by simp), ls_congr (fun z hz => h z (by simp [hz]))]
theorem ls_add (f g : Nat → G) : ∀ l : List Nat, ls (fun y => f y + g y) l = ls f l + ls g l
  | [] => (G.add_zero _).symm
  | y :: r => by
    show f y + g y + ls (fun y => f y + g y) r = (f y + ls f r) + (g y + ls g r)
    rw [ls_add f g r]
    ac_rfl
theorem ls_mul (f : Nat → G) (c : G) : ∀ l : List Nat, ls (fun y => f y * c) l = ls f l * c
  | [] => (G.zero_mul _).symm
  | y :: r => by
    show f y * c + ls (fun y => f y * c) r = (f y + ls f r) * c
    rw [ls_mul f c r, G.add_mul]
theorem ls_none {f : Nat → G} : ∀ {l : List Nat}, (∀ y ∈ l, f y = G.zero) → ls f l = G.zero
  | [], _ => rfl
  | y :: r, h => by
    show f y + ls f r = _
    rw [h y (by simp), ls_none (fun z hz => h z (by simp [hz])), G.add_zero]
theorem gs_eq_ls (f : Nat → G) : ∀ n : Nat, gs n f = ls f (List.range n)
  | 0 => rfl
  | n + 1 => by
    have app : ∀ (a b : List Nat), ls f (a ++ b) = ls f a + ls f b := fun a b => by
      induction a with
      | nil => exact (G.zero_add _).symm
      | cons y r ih =>
        show f y + ls f (r ++ b) = f y + ls f r + ls f b
        rw [ih, G.add_assoc]
    rw [List.range_succ, app, ← gs_eq_ls f n]
    show gs n f + f n = gs n f + (f n + G.zero)
    rw [G.add_zero]
theorem ls_filter (f : Nat → G) (p : Nat → Bool) : ∀ l : List Nat, (∀ y ∈ l, p y = false → f y = G.zero) → ls f l = ls f (l.filter p)
  | [], _ => rfl
  | y :: r, h => by
    have ih := ls_filter f p r (fun z hz => h z (by simp [hz]))
    rcases hp : p y with _ | _
    · rw [List.filter_cons_of_neg (by simp [hp])]
      show f y + ls f r = _
      rw [h y (by simp) hp, G.zero_add, ih]
    · rw [List.filter_cons_of_pos (by simp [hp])]
      show f y + ls f r = f y + ls f (r.filter p)
      rw [ih]

/-! ### the rows behind One's -/
def kx (x y : Nat) : G := (G.of (x ^^^ y)).inv
theorem of_xor {x y : Nat} (hx : x < 256) (hy : y < 256) : G.of (x ^^^ y) = G.of x + G.of y := G.ext (by
  rw [G.of_n (xor_lt8 hx hy), G.add_n, G.of_n hx, G.of_n hy])
theorem of_ne {x y : Nat} (hx : x < 256) (hy : y < 256) (h : x ≠ y) : G.of (x ^^^ y) ≠ G.zero := fun e => by
  have e : x ^^^ y = 0 := by
    have := congrArg G.n e
    rwa [G.of_n (xor_lt8 hx hy)] at this
  apply h
  have : (x ^^^ y) ^^^ y = 0 ^^^ y := by rw [e]
  rwa [Nat.xor_assoc, Nat.xor_self, Nat.xor_zero, Nat.zero_xor] at this
theorem kx_mul {x y : Nat} (hx : x < 256) (hy : y < 256) (h : x ≠ y) : (G.of x + G.of y) * kx x y = G.one := by
  rw [← of_xor hx hy]
  exact G.mul_inv (of_ne hx hy h)
theorem kx_ne {x y : Nat} (hx : x < 256) (hy : y < 256) (h : x ≠ y) : kx x y ≠ G.zero := G.inv_ne (of_ne hx hy h)
theorem sum_ne {x y : Nat} (hx : x < 256) (hy : y < 256) (h : x ≠ y) : G.of x + G.of y ≠ G.zero := by
  rw [← of_xor hx hy]
  exact of_ne hx hy h
/-- Another column's factor: (x + z) / (x + y) is 1 and (y + z) / (x + y). -/
theorem kx_shift {x y : Nat} (z : G) (hx : x < 256) (hy : y < 256) (h : x ≠ y) : (G.of x + z) * kx x y = G.one + (G.of y + z) * kx x y := by
  have e : G.of x + z = (G.of x + G.of y) + (G.of y + z) := by
    have : (G.of x + G.of y) + (G.of y + z) = G.of x + (G.of y + G.of y) + z := by ac_rfl
    rw [this, G.add_self, G.add_zero]
  rw [e, G.add_mul, kx_mul hx hy h]
theorem kx_diff {x w y : Nat} (hx : x < 256) (hw : w < 256) (hy : y < 256) (h1 : x ≠ y) (h2 : w ≠ y) : kx x y + kx w y = (G.of x + G.of w) * (kx x y * kx w y) := by
  have e : G.of x + G.of w = (G.of w + G.of y) + (G.of x + G.of y) := by
    have : (G.of w + G.of y) + (G.of x + G.of y) = G.of x + G.of w + (G.of y + G.of y) := by ac_rfl
    rw [this, G.add_self, G.add_zero]
  have h3 : (G.of w + G.of y) * (kx x y * kx w y) = kx x y := by
    have : (G.of w + G.of y) * (kx x y * kx w y) = ((G.of w + G.of y) * kx w y) * kx x y := by ac_rfl
    rw [this, kx_mul hw hy h2, G.one_mul]
  have h4 : (G.of x + G.of y) * (kx x y * kx w y) = kx w y := by
    have : (G.of x + G.of y) * (kx x y * kx w y) = ((G.of x + G.of y) * kx x y) * kx w y := by ac_rfl
    rw [this, kx_mul hx hy h1, G.one_mul]
  rw [e, G.add_mul, h3, h4]
/-- As many rows as columns, all unlike: nothing but noughts comes to noughts. -/
theorem cauchy : ∀ (ys xs : List Nat) (v : Nat → G), ys.length ≤ xs.length → xs.Nodup → ys.Nodup → (∀ x ∈ xs, x < 256) → (∀ y ∈ ys, y < 256) → (∀ x ∈ xs, ∀ y ∈ ys, x ≠ y) →
    (∀ x ∈ xs, ls (fun y => v y * kx x y) ys = G.zero) → ∀ y ∈ ys, v y = G.zero
  | [], _, _, _, _, _, _, _, _, _ => fun _ h => absurd h (by simp)
  | y0 :: ys, [], _, hl, _, _, _, _, _, _ => by simp at hl
  | y0 :: ys, x0 :: xs, v, hl, nx, ny, bx, b_y, hne, h => by
    obtain ⟨nx0, nx1⟩ := List.nodup_cons.1 nx
    obtain ⟨ny0, ny1⟩ := List.nodup_cons.1 ny
    have hy0 : y0 < 256 := b_y y0 (by simp)
    have hx0 : x0 < 256 := bx x0 (by simp)
    have hc : ∀ x ∈ x0 :: xs, ls (fun y => v y * (G.of y + G.of y0) * kx x y) ys = v y0 + ls v ys := fun x hx => by
      have hx8 := bx x hx
      have h1 : (v y0 * kx x y0 + ls (fun y => v y * kx x y) ys) * (G.of x + G.of y0) = G.zero := by
        have := h x hx
        rw [show v y0 * kx x y0 + ls (fun y => v y * kx x y) ys = G.zero from this, G.zero_mul]
      rw [G.add_mul, ← ls_mul] at h1
      have h2 : v y0 * kx x y0 * (G.of x + G.of y0) = v y0 := by
        have : v y0 * kx x y0 * (G.of x + G.of y0) = v y0 * ((G.of x + G.of y0) * kx x y0) := by ac_rfl
        rw [this, kx_mul hx8 hy0 (hne x hx y0 (by simp)), G.mul_one]
      have h3 : ls (fun y => v y * kx x y * (G.of x + G.of y0)) ys = ls v ys + ls (fun y => v y * (G.of y + G.of y0) * kx x y) ys := by
        rw [← ls_add]
        refine ls_congr (fun y hy => ?_)
        have : v y * kx x y * (G.of x + G.of y0) = v y * ((G.of x + G.of y0) * kx x y) := by ac_rfl
        rw [this, kx_shift (G.of y0) hx8 (b_y y (by simp [hy])) (hne x hx y (by simp [hy])), G.mul_add, G.mul_one]
        congr 1
        ac_rfl
      rw [h2, h3, ← G.add_assoc] at h1
      exact (G.eq_of h1).symm
    have hd : ∀ x ∈ xs, ls (fun y => v y * (G.of y + G.of y0) * kx x0 y * kx x y) ys = G.zero := fun x hx => by
      have hx8 := bx x (by simp [hx])
      have hxx : x ≠ x0 := fun e => nx0 (e ▸ hx)
      have h1 : ls (fun y => v y * (G.of y + G.of y0) * kx x y + v y * (G.of y + G.of y0) * kx x0 y) ys = G.zero := by
        rw [ls_add, hc x (by simp [hx]), hc x0 (by simp), G.add_self]
      have h2 : ls (fun y => v y * (G.of y + G.of y0) * kx x y + v y * (G.of y + G.of y0) * kx x0 y) ys = (G.of x + G.of x0) * ls (fun y => v y * (G.of y + G.of y0) * kx x0 y * kx x y) ys := by
        rw [G.mul_comm, ← ls_mul]
        refine ls_congr (fun y hy => ?_)
        rw [← G.mul_add, kx_diff hx8 hx0 (b_y y (by simp [hy])) (hne x (by simp [hx]) y (by simp [hy])) (hne x0 (by simp) y (by simp [hy]))]
        ac_rfl
      rw [h2] at h1
      exact G.zero_of (sum_ne hx8 hx0 hxx) h1
    have ih := cauchy ys xs (fun y => v y * (G.of y + G.of y0) * kx x0 y) (by simpa using hl) nx1 ny1 (fun x hx => bx x (by simp [hx])) (fun y hy => b_y y (by simp [hy])) (fun x hx y hy => hne x (by simp [hx]) y (by simp [hy])) hd
    have hrest : ∀ y ∈ ys, v y = G.zero := fun y hy => by
      have h1 := ih y hy
      have hy8 := b_y y (by simp [hy])
      rw [G.mul_comm] at h1
      have h2 := G.zero_of (kx_ne hx0 hy8 (hne x0 (by simp) y (by simp [hy]))) h1
      rw [G.mul_comm] at h2
      exact G.zero_of (sum_ne hy8 hy0 (fun e => ny0 (e ▸ hy))) h2
    intro y hy
    rcases List.mem_cons.1 hy with rfl | hy
    · have h1 : v y * kx x0 y + ls (fun y => v y * kx x0 y) ys = G.zero := h x0 (by simp)
      rw [ls_none (fun z hz => by rw [hrest z hz, G.zero_mul]), G.add_zero, G.mul_comm] at h1
      exact G.zero_of (kx_ne hx0 hy0 (hne x0 (by simp) y (by simp))) h1
    · exact hrest y hy
/-- A code's row. -/
def codeRow (k l j : Nat) : G := if l < k then dl l j else kx l j
theorem filter_split (p : Nat → Bool) : ∀ l : List Nat, (l.filter p).length + (l.filter fun x => !p x).length = l.length
  | [] => rfl
  | y :: r => by
    have ih := filter_split p r
    rcases hp : p y with _ | _
    · rw [List.filter_cons_of_neg (by simp [hp]), List.filter_cons_of_pos (by simp [hp]), List.length_cons, List.length_cons]
      omega
    · rw [List.filter_cons_of_pos (by simp [hp]), List.filter_cons_of_neg (by simp [hp]), List.length_cons, List.length_cons]
      omega
theorem nodup_len {l m : List Nat} (hl : l.Nodup) (h : ∀ x ∈ l, x ∈ m) : l.length ≤ m.length := by
  induction l generalizing m with
  | nil => exact Nat.zero_le _
  | cons x r ih =>
    obtain ⟨h1, h2⟩ := List.nodup_cons.1 hl
    have hx : x ∈ m := h x (by simp)
    have := ih (m := m.erase x) h2 (fun y hy => (List.mem_erase_of_ne (fun e : y = x => h1 (e ▸ hy))).2 (h y (by simp [hy])))
    rw [List.length_erase_of_mem hx] at this
    have hm : 0 < m.length := List.length_pos_of_mem hx
    rw [List.length_cons]
    omega
/-- k rows of the code, in any order, all unlike: nothing but noughts comes to noughts. -/
theorem code_sharp (k : Nat) (P : List Nat) (hk : P.length = k) (hn : P.Nodup) (hb : ∀ l ∈ P, l < 256) (h256 : k ≤ 256) : Sharp k (fun i j => codeRow k (P.getD i 0) j) := by
  intro v hv
  have hrow : ∀ l ∈ P, gs k (fun j => codeRow k l j * v j) = G.zero := fun l hl => by
    obtain ⟨i, hi, e⟩ := List.getElem_of_mem hl
    have h1 : gs k (fun j => codeRow k (P.getD i 0) j * v j) = G.zero := hv i (by rw [← hk]; exact hi)
    rw [show P.getD i 0 = l by simp [hi, e]] at h1
    exact h1
  have hlow : ∀ l ∈ P, l < k → v l = G.zero := fun l hl hlk => by
    have := hrow l hl
    rw [gs_congr (g := fun j => dl l j * v j) (fun j _ => by unfold codeRow; rw [if_pos hlk]), gs_dl_left hlk] at this
    exact this
  have hS : ∀ y ∈ (List.range k).filter (fun y => !decide (y ∈ P)), v y = G.zero := by
    refine cauchy _ (P.filter fun l => !decide (l < k)) v ?_ (hn.filter _) ((List.nodup_range).filter _) (fun x hx => hb x (List.mem_filter.1 hx).1) (fun y hy => by
      have := List.mem_range.1 (List.mem_filter.1 hy).1
      omega) (fun x hx y hy e => by
      have h1 := (List.mem_filter.1 hx).2
      have h2 := List.mem_range.1 (List.mem_filter.1 hy).1
      simp at h1
      omega) (fun x hx => ?_)
    · have h1 := filter_split (fun l => decide (l < k)) P
      have h2 := filter_split (fun y => decide (y ∈ P)) (List.range k)
      rw [List.length_range] at h2
      have h3 : (P.filter fun l => decide (l < k)).length ≤ ((List.range k).filter fun y => decide (y ∈ P)).length := nodup_len (hn.filter _) (fun x hx => by
        obtain ⟨a, b⟩ := List.mem_filter.1 hx
        exact List.mem_filter.2 ⟨List.mem_range.2 (of_decide_eq_true b), decide_eq_true a⟩)
      omega
    · obtain ⟨hxP, hxk⟩ := List.mem_filter.1 hx
      have hxk : ¬ x < k := by simpa using hxk
      have := hrow x hxP
      rw [gs_congr (g := fun j => v j * kx x j) (fun j _ => by unfold codeRow; rw [if_neg hxk, G.mul_comm]), gs_eq_ls, ls_filter _ (fun y => !decide (y ∈ P)) _ (fun y hy hp => by
        have hp : y ∈ P := by simpa using hp
        rw [hlow y hp (List.mem_range.1 hy), G.zero_mul])] at this
      exact this
  intro l hl
  rcases Decidable.em (l ∈ P) with h | h
  · exact hlow l h hl
  · exact hS l (List.mem_filter.2 ⟨List.mem_range.2 hl, by simp [h]⟩)
end Go.Proofs.Ytdbngchbhoanpaa
namespace Go.Proofs.Ytdbngchbhoanpaa
/-- The digits that are 1, rising. -/
def digs (x : Nat) : List Nat := (List.range 14).filter fun i => x.testBit i
theorem digs_mem {x i : Nat} : i ∈ digs x ↔ i < 14 ∧ x.testBit i = true := by
  unfold digs
  rw [List.mem_filter, List.mem_range]
theorem digs_nodup (x : Nat) : (digs x).Nodup := List.nodup_range.filter _
theorem digs_lt {x i : Nat} (h : i ∈ digs x) : i < 14 := (digs_mem.1 h).1
theorem digs_len (x : Nat) : (digs x).length ≤ 14 := by
  have := List.length_filter_le (fun i => x.testBit i) (List.range 14)
  rw [List.length_range] at this
  exact this
theorem bit_high {x i : Nat} (h : x < 16384) (hi : 14 ≤ i) : x.testBit i = false := Nat.testBit_lt_two_pow (Nat.lt_of_lt_of_le h ((Nat.pow_le_pow_right (Nat.zero_lt_two) hi : 2 ^ 14 ≤ 2 ^ i)))
theorem digs_ext {x y : Nat} (hx : x < 16384) (hy : y < 16384) (h : digs x = digs y) : x = y := by
  apply Nat.eq_of_testBit_eq
  intro i
  rcases Nat.lt_or_ge i 14 with hi | hi
  · have : i ∈ digs x ↔ i ∈ digs y := by rw [h]
    rw [digs_mem, digs_mem] at this
    cases ex : x.testBit i <;> cases ey : y.testBit i <;> simp_all
  · rw [bit_high hx hi, bit_high hy hi]
/-- What the library's count does with small sets. -/
def o1 (x : Nat) : Nat := (x / 2 &&& 6148914691236517205) + (x &&& 6148914691236517205)
def o2 (x : Nat) : Nat := (o1 x / 4 &&& 3689348814741910323) + (o1 x &&& 3689348814741910323)
def o3 (x : Nat) : Nat := o2 x / 16 + o2 x &&& 1085102592571150095
def o4 (x : Nat) : Nat := o3 x + o3 x / 256
def o5 (x : Nat) : Nat := o4 x + o4 x / 65536
def o6 (x : Nat) : Nat := o5 x + o5 x / 4294967296
def pop : Nat → Nat → Nat
  | 0, _ => 0
  | n + 1, x => pop n x + Nat.land (Nat.shiftRight x n) 1
theorem pop_filter (x : Nat) : ∀ n, pop n x = ((List.range n).filter fun i => x.testBit i).length
  | 0 => rfl
  | n + 1 => by
    rw [List.range_succ, List.filter_append, List.length_append, ← pop_filter x n]
    show pop n x + (x >>> n &&& 1) = _
    congr 1
    rw [Nat.and_one_is_mod]
    have e : x.testBit n = decide (x >>> n % 2 = 1) := by
      rw [Nat.testBit, Nat.one_and_eq_mod_two]
      rcases Nat.mod_two_eq_zero_or_one (x >>> n) with h | h <;> simp [h]
    rcases Nat.mod_two_eq_zero_or_one (x >>> n) with h | h
    · simp [e, h]
    · simp [e, h]
def onesC (x : Nat) : Bool := Nat.beq (Nat.land (o6 x) 127) (pop 14 x) && Nat.blt (o1 x) 65536 && Nat.blt (o2 x) 65536 && Nat.blt (o3 x) 65536 && Nat.blt (o4 x) 65536 && Nat.blt (o5 x) 65536 && Nat.blt (o6 x) 65536
theorem ones_all : ((List.range 128).all fun a => (List.range 128).all fun b => onesC (128 * a + b)) = true := by decide +kernel
theorem all_small {p : Nat → Bool} (h : ((List.range 128).all fun a => (List.range 128).all fun b => p (128 * a + b)) = true) {x : Nat} (hx : x < 16384) : p x = true := by
  rw [List.all_eq_true] at h
  have h1 := h (x / 128) (List.mem_range.2 (by omega))
  rw [List.all_eq_true] at h1
  have h2 := h1 (x % 128) (List.mem_range.2 (Nat.mod_lt _ (by decide)))
  rwa [Nat.div_add_mod] at h2
theorem blt_iff {a b : Nat} (h : Nat.blt a b = true) : a < b := by
  unfold Nat.blt at h
  exact Nat.le_of_ble_eq_true h
theorem ones_at {x : Nat} (h : x < 16384) : o6 x &&& 127 = (digs x).length ∧ o1 x < 65536 ∧ o2 x < 65536 ∧ o3 x < 65536 ∧ o4 x < 65536 ∧ o5 x < 65536 ∧ o6 x < 65536 := by
  have := all_small ones_all h
  unfold onesC at this
  simp only [Bool.and_eq_true] at this
  obtain ⟨⟨⟨⟨⟨⟨h0, h1⟩, h2⟩, h3⟩, h4⟩, h5⟩, h6⟩ := this
  refine ⟨?_, blt_iff h1, blt_iff h2, blt_iff h3, blt_iff h4, blt_iff h5, blt_iff h6⟩
  have := Nat.eq_of_beq_eq_true h0
  rw [pop_filter] at this
  exact this
/-- The lowest digit that is 1, by the library's table; and the set without it. -/
def tzT : List Nat := [0, 1, 56, 2, 57, 49, 28, 3, 61, 58, 42, 50, 38, 29, 17, 4, 62, 47, 59, 36, 45, 43, 51, 22, 53, 39, 33, 30, 24, 18, 12, 5, 63, 55, 48, 27, 60, 41, 37, 16, 46, 35, 44, 21, 52, 32, 23, 11, 54, 26, 40, 15, 34, 20, 31, 10, 25, 14, 19, 9, 13, 8, 7, 6]
def lowB (x : Nat) : Nat := x &&& (18446744073709551616 - x)
def tzI (x : Nat) : Nat := lowB x * 285870213051353865 % 18446744073709551616 / 288230376151711744
def lowC (x : Nat) : Bool := Nat.beq x 0 || (Nat.beq (Nat.land x (x - 1)) (Nat.xor x (2 ^ (tzT.getD (tzI x) 0))) && Nat.beq (x % 2 ^ (tzT.getD (tzI x) 0)) 0 && x.testBit (tzT.getD (tzI x) 0) && Nat.blt (tzI x) 64 && Nat.blt (tzT.getD (tzI x) 0) 14 && Nat.blt (lowB x) 16384)
theorem lowD_all : ((List.range 128).all fun a => (List.range 128).all fun b => lowC (128 * a + b)) = true := by decide +kernel
theorem lowD_is {x : Nat} (h : x < 16384) (h0 : x ≠ 0) : (x &&& (x - 1) = x ^^^ 2 ^ (tzT.getD (tzI x) 0)) ∧ x % 2 ^ (tzT.getD (tzI x) 0) = 0 ∧ x.testBit (tzT.getD (tzI x) 0) = true ∧ tzI x < 64 ∧ tzT.getD (tzI x) 0 < 14 ∧ lowB x < 16384 := by
  have := all_small lowD_all h
  unfold lowC at this
  rw [Bool.or_eq_true] at this
  rcases this with q | q
  · exact absurd (Nat.eq_of_beq_eq_true q) h0
  · simp only [Bool.and_eq_true] at q
    obtain ⟨⟨⟨⟨⟨q1, q2⟩, q3⟩, q4⟩, q5⟩, q6⟩ := q
    exact ⟨Nat.eq_of_beq_eq_true q1, Nat.eq_of_beq_eq_true q2, q3, blt_iff q4, blt_iff q5, blt_iff q6⟩
theorem filter_first {p : Nat → Bool} {n t : Nat} (ht : t < n) (hp : p t = true) (hl : ∀ i, i < t → p i = false) : (List.range n).filter p = t :: (List.range n).filter (fun i => p i && decide (i ≠ t)) := by
  have e : List.range n = List.range t ++ (t :: List.range' (t + 1) (n - t - 1)) := by
    have h1 := List.range'_append_1 (s := 0) (m := t) (n := n - t)
    rw [Nat.zero_add, Nat.add_sub_cancel' (Nat.le_of_lt ht), ← List.range_eq_range', ← List.range_eq_range'] at h1
    rw [← h1]
    congr 1
    have : n - t = (n - t - 1) + 1 := by omega
    rw [this, List.range'_succ]
    rfl
  have z1 : (List.range t).filter p = [] := List.filter_eq_nil_iff.2 (fun i hi => by rw [hl i (List.mem_range.1 hi)]; simp)
  have z2 : (List.range t).filter (fun i => p i && decide (i ≠ t)) = [] := List.filter_eq_nil_iff.2 (fun i hi => by rw [hl i (List.mem_range.1 hi)]; simp)
  rw [e, List.filter_append, List.filter_append, z1, z2, List.nil_append, List.nil_append, List.filter_cons, List.filter_cons, hp]
  simp only [if_true]
  congr 1
  rw [if_neg (by simp)]
  refine List.filter_congr (fun i hi => ?_)
  have := (List.mem_range'_1.1 hi).1
  have : decide (i ≠ t) = true := decide_eq_true (by omega)
  rw [this, Bool.and_true]
theorem lowD_at {x : Nat} (h : x < 16384) (h0 : x ≠ 0) : digs x = tzT.getD (tzI x) 0 :: digs (x &&& (x - 1)) ∧ tzI x < 64 ∧ (x &&& (x - 1)) < 16384 ∧ lowB x < 16384 ∧ tzT.getD (tzI x) 0 < 14 := by
  obtain ⟨e, hm, hb, h64, h14, hl⟩ := lowD_is h h0
  refine ⟨?_, h64, Nat.lt_of_le_of_lt Nat.and_le_left h, hl, h14⟩
  obtain ⟨t, ht⟩ : ∃ t, t = tzT.getD (tzI x) 0 := ⟨_, rfl⟩
  rw [← ht] at e hm hb h14 ⊢
  unfold digs
  rw [filter_first h14 hb (fun i hi => ?_)]
  · congr 1
    refine List.filter_congr (fun i _ => ?_)
    rw [e, Nat.testBit_xor, Nat.testBit_two_pow]
    by_cases q : t = i
    · subst q; simp [hb]
    · have : decide (i ≠ t) = true := decide_eq_true (fun r => q r.symm)
      rw [this]
      simp [q]
  · have := Nat.testBit_mod_two_pow x t i
    rw [hm] at this
    simp [hi] at this
    exact this
theorem digs_zero : digs 0 = [] := by decide
theorem digs_pos {x : Nat} (h : x < 16384) (h0 : x ≠ 0) : digs x ≠ [] := by
  rw [(lowD_at h h0).1]
  simp
/-- Taken out of a set, put into one. -/
theorem andNot_bit {x y i : Nat} (hi : i < 64) (hy : y < 18446744073709551616) : (x &&& (18446744073709551615 - y)).testBit i = (x.testBit i && !y.testBit i) := by
  rw [Nat.testBit_and]
  congr 1
  have := Nat.testBit_two_pow_sub_succ (n := 64) hy i
  rw [show 2 ^ 64 - (y + 1) = 18446744073709551615 - y by omega] at this
  rw [this]
  simp [hi]
theorem and_lt {x y : Nat} (h : x < 16384) : x &&& y < 16384 := Nat.lt_of_le_of_lt Nat.and_le_left h
theorem digs_andNot (x : Nat) {y : Nat} (hy : y < 18446744073709551616) : digs (x &&& (18446744073709551615 - y)) = (digs x).filter fun i => !y.testBit i := by
  unfold digs
  rw [List.filter_filter]
  refine List.filter_congr (fun i hi => ?_)
  have := List.mem_range.1 hi
  rw [andNot_bit (by omega) hy, Bool.and_comm]
theorem digs_or_one {x n : Nat} : digs (x ||| 2 ^ n) = (List.range 14).filter fun i => x.testBit i || decide (n = i) := by
  unfold digs
  refine List.filter_congr (fun i _ => ?_)
  rw [Nat.testBit_or, Nat.testBit_two_pow]
theorem or_lt {x n : Nat} (h : x < 16384) (hn : n < 14) : x ||| 2 ^ n < 16384 := Nat.or_lt_two_pow (n := 14) h (Nat.pow_lt_pow_right (by decide) hn)
/-- The rows below i that p names, as a set. -/
def isSet (p : Nat → Bool) (i x : Nat) : Prop := x < 16384 ∧ ∀ j, x.testBit j = (decide (j < i) && p j)
theorem isSet_zero (p : Nat → Bool) : isSet p 0 0 := ⟨by decide, fun j => by simp⟩
theorem isSet_yes {p : Nat → Bool} {i x : Nat} (h : isSet p i x) (hi : i < 14) (hp : p i = true) : isSet p (i + 1) (x ||| 2 ^ i) := by
  refine ⟨or_lt h.1 hi, fun j => ?_⟩
  rw [Nat.testBit_or, Nat.testBit_two_pow, h.2]
  by_cases e : i = j
  · subst e; simp [hp]
  · have : decide (j < i + 1) = decide (j < i) := by apply decide_eq_decide.2; omega
    rw [this]
    simp [e]
theorem isSet_no {p : Nat → Bool} {i x : Nat} (h : isSet p i x) (hp : p i = false) : isSet p (i + 1) x := by
  refine ⟨h.1, fun j => ?_⟩
  rw [h.2]
  by_cases e : i = j
  · subst e; simp [hp]
  · have : decide (j < i + 1) = decide (j < i) := by apply decide_eq_decide.2; omega
    rw [this]
theorem isSet_digs {p : Nat → Bool} {i x : Nat} (h : isSet p i x) (hi : i ≤ 14) : digs x = (List.range i).filter p := by
  unfold digs
  have e : List.range 14 = List.range i ++ List.range' i (14 - i) := by
    have h1 := List.range'_append_1 (s := 0) (m := i) (n := 14 - i)
    rw [Nat.zero_add, Nat.add_sub_cancel' hi, ← List.range_eq_range', ← List.range_eq_range'] at h1
    exact h1.symm
  rw [e, List.filter_append]
  have e1 : (List.range' i (14 - i)).filter (fun j => x.testBit j) = [] := List.filter_eq_nil_iff.2 (fun j hj => by
    have := (List.mem_range'_1.1 hj).1
    rw [h.2]
    simp; omega)
  rw [e1, List.append_nil]
  refine List.filter_congr (fun j hj => ?_)
  have := List.mem_range.1 hj
  rw [h.2]
  simp [this]
theorem isSet_once {p : Nat → Bool} {i x y : Nat} (h : isSet p i x) (k : isSet p i y) : x = y := Nat.eq_of_testBit_eq (fun j => by rw [h.2, k.2])
end Go.Proofs.Ytdbngchbhoanpaa
