/- The field of 256 as a type of its own, sums over it, matrices as functions: product, kernel, steps by rows, the code. It names nothing of the program. -/
import Derived.Test.YteebdlliaipnlaaGf
namespace Go.Proofs.Yteebdlliaipnlaa
structure G where
  n : Nat
  lt : n < 256
theorem G.ext {a b : G} (h : a.n = b.n) : a = b := by
  cases a; cases b; cases h; rfl
instance : DecidableEq G := fun a b => if h : a.n = b.n then isTrue (G.ext h) else isFalse (fun e => h (by rw [e]))
instance : Mul G := ⟨fun a b => ⟨gmul a.n b.n, gmul_lt _ a.lt⟩⟩
instance : Add G := ⟨fun a b => ⟨a.n ^^^ b.n, xor_lt8 a.lt b.lt⟩⟩
def G.zero : G := ⟨0, by decide⟩
def G.one : G := ⟨1, by decide⟩
def G.inv (a : G) : G := ⟨ginv a.n, ginv_lt a.lt⟩
def G.of (n : Nat) : G := ⟨n % 256, Nat.mod_lt _ (by decide)⟩
theorem G.of_n {n : Nat} (h : n < 256) : (G.of n).n = n := Nat.mod_eq_of_lt h
theorem G.of_self (a : G) : G.of a.n = a := G.ext (G.of_n a.lt)
theorem G.mul_n (a b : G) : (a * b).n = gmul a.n b.n := rfl
theorem G.add_n (a b : G) : (a + b).n = a.n ^^^ b.n := rfl
theorem G.add_comm (a b : G) : a + b = b + a := G.ext (Nat.xor_comm _ _)
theorem G.add_assoc (a b c : G) : a + b + c = a + (b + c) := G.ext (Nat.xor_assoc _ _ _)
theorem G.mul_comm (a b : G) : a * b = b * a := G.ext (gmul_comm a.lt b.lt)
theorem G.mul_assoc (a b c : G) : a * b * c = a * (b * c) := G.ext (gmul_assoc a.lt b.lt c.lt).symm
instance : Std.Associative (α := G) (· + ·) := ⟨G.add_assoc⟩
instance : Std.Commutative (α := G) (· + ·) := ⟨G.add_comm⟩
instance : Std.Associative (α := G) (· * ·) := ⟨G.mul_assoc⟩
instance : Std.Commutative (α := G) (· * ·) := ⟨G.mul_comm⟩
theorem G.mul_add (a b c : G) : a * (b + c) = a * b + a * c := G.ext (gmul_right _ _ _)
theorem G.add_mul (a b c : G) : (a + b) * c = a * c + b * c := G.ext (gmul_left _ _ _)
theorem G.add_zero (a : G) : a + G.zero = a := G.ext (Nat.xor_zero _)
theorem G.zero_add (a : G) : G.zero + a = a := G.ext (Nat.zero_xor _)
theorem G.add_self (a : G) : a + a = G.zero := G.ext (Nat.xor_self _)
theorem G.mul_one (a : G) : a * G.one = a := G.ext (gmul_one a.lt)
theorem G.one_mul (a : G) : G.one * a = a := G.ext (one_gmul a.lt)
theorem G.mul_zero (a : G) : a * G.zero = G.zero := G.ext (gmul_zero _)
theorem G.zero_mul (a : G) : G.zero * a = G.zero := G.ext (zero_gmul _)
theorem G.mul_inv {a : G} (h : a ≠ G.zero) : a * a.inv = G.one := G.ext (gmul_inv a.lt (fun e => h (G.ext e)))
theorem G.one_ne : G.one ≠ G.zero := by decide
theorem G.mul_ne {a b : G} (ha : a ≠ G.zero) (hb : b ≠ G.zero) : a * b ≠ G.zero := fun e => gmul_ne a.lt b.lt (fun h => ha (G.ext h)) (fun h => hb (G.ext h)) (congrArg G.n e)
theorem G.inv_ne {a : G} (ha : a ≠ G.zero) : a.inv ≠ G.zero := fun e => by
  have := G.mul_inv ha
  rw [e, G.mul_zero] at this
  exact G.one_ne this.symm
theorem G.zero_of {a b : G} (ha : a ≠ G.zero) (h : a * b = G.zero) : b = G.zero := by
  rcases Decidable.em (b = G.zero) with e | e
  · exact e
  · exact absurd h (G.mul_ne ha e)
theorem G.eq_of {a b : G} (h : a + b = G.zero) : a = b := by
  have : a + b + b = b := by rw [h, G.zero_add]
  rwa [G.add_assoc, G.add_self, G.add_zero] at this

/-! ### sums -/
def gs : Nat → (Nat → G) → G
  | 0, _ => G.zero
  | n + 1, f => gs n f + f n
theorem gs_congr {f g : Nat → G} : ∀ {n : Nat}, (∀ i, i < n → f i = g i) → gs n f = gs n g
  | 0, _ => rfl
  | n + 1, h => by
    show gs n f + f n = gs n g + g n
    rw [gs_congr (fun i hi => h i (by omega)), h n (by omega)]
theorem gs_none {f : Nat → G} : ∀ {n : Nat}, (∀ i, i < n → f i = G.zero) → gs n f = G.zero
  | 0, _ => rfl
  | n + 1, h => by
    show gs n f + f n = _
    rw [gs_none (fun i hi => h i (by omega)), h n (by omega), G.add_zero]
theorem gs_add (f g : Nat → G) : ∀ n : Nat, gs n (fun i => f i + g i) = gs n f + gs n g
  | 0 => (G.add_zero _).symm
  | n + 1 => by
    show gs n (fun i => f i + g i) + (f n + g n) = (gs n f + f n) + (gs n g + g n)
    rw [gs_add f g n]
    ac_rfl
theorem gs_mul (f : Nat → G) (c : G) : ∀ n : Nat, gs n (fun i => f i * c) = gs n f * c
  | 0 => (G.zero_mul _).symm
  | n + 1 => by
    show gs n (fun i => f i * c) + f n * c = (gs n f + f n) * c
    rw [gs_mul f c n, G.add_mul]
theorem mul_gs (f : Nat → G) (c : G) (n : Nat) : gs n (fun i => c * f i) = c * gs n f := by
  rw [G.mul_comm c, ← gs_mul]
  exact gs_congr (fun i _ => G.mul_comm _ _)
theorem gs_swap (f : Nat → Nat → G) (m : Nat) : ∀ n : Nat, gs n (fun i => gs m (fun j => f i j)) = gs m (fun j => gs n (fun i => f i j))
  | 0 => (gs_none (fun _ _ => rfl)).symm
  | n + 1 => by
    show gs n (fun i => gs m (fun j => f i j)) + gs m (fun j => f n j) = gs m (fun j => gs n (fun i => f i j) + f n j)
    rw [gs_swap f m n, gs_add]
theorem gs_one {f : Nat → G} {j : Nat} : ∀ {n : Nat}, j < n → (∀ i, i < n → i ≠ j → f i = G.zero) → gs n f = f j
  | 0, h, _ => by omega
  | n + 1, h, h0 => by
    show gs n f + f n = f j
    rcases Nat.lt_or_ge j n with hj | hj
    · rw [gs_one hj (fun i hi hne => h0 i (by omega) hne), h0 n (by omega) (by omega), G.add_zero]
    · obtain rfl : j = n := by omega
      rw [gs_none (fun i hi => h0 i (by omega) (by omega)), G.zero_add]
def dl (i j : Nat) : G := if i = j then G.one else G.zero
theorem gs_dl_left {f : Nat → G} {n i : Nat} (h : i < n) : gs n (fun l => dl i l * f l) = f i := by
  rw [gs_one (j := i) h (fun l _ hne => by unfold dl; rw [if_neg (fun e => hne e.symm), G.zero_mul])]
  unfold dl
  rw [if_pos rfl, G.one_mul]
theorem gs_dl_right {f : Nat → G} {n j : Nat} (h : j < n) : gs n (fun l => f l * dl l j) = f j := by
  rw [gs_one (j := j) h (fun l _ hne => by unfold dl; rw [if_neg hne, G.mul_zero])]
  unfold dl
  rw [if_pos rfl, G.mul_one]

/-! ### matrices -/
abbrev Mat := Nat → Nat → G
def mm (p : Nat) (a b : Mat) : Mat := fun i j => gs p (fun l => a i l * b l j)
theorem mm_assoc (p q : Nat) (a b c : Mat) (i j : Nat) : mm q (mm p a b) c i j = mm p a (mm q b c) i j := by
  unfold mm
  have h1 : gs q (fun m => gs p (fun l => a i l * b l m) * c m j) = gs q (fun m => gs p (fun l => a i l * b l m * c m j)) := gs_congr (fun m _ => (gs_mul _ _ _).symm)
  have h2 : gs p (fun l => a i l * gs q (fun m => b l m * c m j)) = gs p (fun l => gs q (fun m => a i l * b l m * c m j)) := gs_congr (fun l _ => by
    rw [← mul_gs]
    exact gs_congr (fun m _ => by rw [G.mul_assoc]))
  rw [h1, h2]
  exact gs_swap _ _ _
theorem mm_one_left {n : Nat} {a : Mat} {i : Nat} (h : i < n) (j : Nat) : mm n dl a i j = a i j := gs_dl_left (f := fun l => a l j) h
theorem mm_one_right {n : Nat} {a : Mat} {j : Nat} (h : j < n) (i : Nat) : mm n a dl i j = a i j := gs_dl_right (f := fun l => a i l) h
def mv (p : Nat) (a : Mat) (v : Nat → G) : Nat → G := fun i => gs p (fun l => a i l * v l)
/-- Nothing but noughts is taken to noughts. -/
def Sharp (n : Nat) (a : Mat) : Prop := ∀ v : Nat → G, (∀ i, i < n → mv n a v i = G.zero) → ∀ l, l < n → v l = G.zero
theorem mv_mm (n : Nat) (a b : Mat) (v : Nat → G) (i : Nat) : mv n (mm n a b) v i = mv n a (mv n b v) i := mm_assoc n n a b (fun l _ => v l) i 0
/-- What has a left inverse that is sharp has it on the right too. -/
theorem both_sides {n : Nat} {a b : Mat} (hb : Sharp n b) (h : ∀ i, i < n → ∀ j, j < n → mm n b a i j = dl i j) : ∀ i, i < n → ∀ j, j < n → mm n a b i j = dl i j := by
  intro i hi j hj
  have hz : ∀ k, k < n → mv n b (fun l => mm n a b l j + dl l j) k = G.zero := fun k hk => by
    have h1 : mv n b (fun l => mm n a b l j + dl l j) k = mm n b (mm n a b) k j + mm n b dl k j := by
      show gs n (fun l => b k l * (mm n a b l j + dl l j)) = _
      unfold mm
      rw [← gs_add]
      exact gs_congr (fun l _ => G.mul_add _ _ _)
    rw [h1, ← mm_assoc, mm_one_right hj]
    have h2 : mm n (mm n b a) b k j = b k j := by
      show gs n (fun l => mm n b a k l * b l j) = _
      rw [gs_congr (fun l hl => by rw [h k hk l hl])]
      exact mm_one_left hk j
    rw [h2, G.add_self]
  exact G.eq_of (hb _ hz i hi)
theorem inverse_one {n : Nat} {a b c : Mat} (hb : ∀ i, i < n → ∀ j, j < n → mm n b a i j = dl i j) (hc : ∀ i, i < n → ∀ j, j < n → mm n a c i j = dl i j) : ∀ i, i < n → ∀ j, j < n → b i j = c i j := by
  intro i hi j hj
  have h1 : mm n (mm n b a) c i j = c i j := by
    show gs n (fun l => mm n b a i l * c l j) = _
    rw [gs_congr (fun l hl => by rw [hb i hi l hl])]
    exact mm_one_left hi j
  have h2 : mm n b (mm n a c) i j = b i j := by
    show gs n (fun l => b i l * mm n a c l j) = _
    rw [gs_congr (fun l hl => by rw [hc l hl j hj])]
    exact mm_one_right hj i
  rw [← h2, ← mm_assoc, h1]
theorem sharp_of_left {n : Nat} {a b : Mat} (h : ∀ i, i < n → ∀ j, j < n → mm n b a i j = dl i j) : Sharp n a := by
  intro v hv l hl
  have h1 : mv n (mm n b a) v l = v l := by
    show gs n (fun k => mm n b a l k * v k) = _
    rw [gs_congr (fun k hk => by rw [h l hl k hk])]
    exact gs_dl_left hl
  rw [← h1, mv_mm]
  exact gs_none (fun k hk => by rw [hv k hk, G.mul_zero])

/-! ### steps by rows: the rows of a and of One side by side -/
structure Steps (n : Nat) (a r : Mat) : Prop where
  left : ∀ i, i < n → ∀ j, j < n → r i j = gs n (fun l => r i (n + l) * a l j)
  sharp : Sharp n (fun i l => r i (n + l))
theorem steps_start (n : Nat) (a r : Mat) (h1 : ∀ i, i < n → ∀ j, j < n → r i j = a i j) (h2 : ∀ i, i < n → ∀ l, l < n → r i (n + l) = dl i l) : Steps n a r := by
  refine ⟨fun i hi j hj => ?_, fun v hv l hl => ?_⟩
  · rw [h1 i hi j hj, gs_congr (fun l hl => by rw [h2 i hi l hl])]
    exact (gs_dl_left (f := fun l => a l j) hi).symm
  · have hh : gs n (fun k => r l (n + k) * v k) = G.zero := hv l hl
    rw [gs_congr (g := fun k => dl l k * v k) (fun k hk => by rw [h2 l hl k hk]), gs_dl_left hl] at hh
    exact hh
theorem Steps.congr {n : Nat} {a r s : Mat} (h : Steps n a r) (e : ∀ i, i < n → ∀ j, j < n + n → s i j = r i j) : Steps n a s := by
  refine ⟨fun i hi j hj => ?_, fun v hv => h.sharp v (fun i hi => ?_)⟩
  · rw [e i hi j (by omega), h.left i hi j hj]
    exact gs_congr (fun l hl => by rw [e i hi (n + l) (by omega)])
  · have hh : gs n (fun l => s i (n + l) * v l) = G.zero := hv i hi
    show gs n (fun l => r i (n + l) * v l) = G.zero
    rw [← hh]
    exact gs_congr (fun l hl => by rw [e i hi (n + l) (by omega)])
theorem Steps.swap {n : Nat} {a r : Mat} (h : Steps n a r) {p q : Nat} (hp : p < n) (hq : q < n) : Steps n a (fun i => if i = p then r q else if i = q then r p else r i) := by
  have pick : ∀ i, i < n → ∃ k, k < n ∧ (fun i => if i = p then r q else if i = q then r p else r i) i = r k := fun i hi => by
    dsimp only
    split
    · exact ⟨q, hq, rfl⟩
    · split
      · exact ⟨p, hp, rfl⟩
      · exact ⟨i, hi, rfl⟩
  have back : ∀ k, k < n → ∃ i, i < n ∧ (fun i => if i = p then r q else if i = q then r p else r i) i = r k := fun k hk => by
    rcases Decidable.em (k = p) with rfl | h1
    · refine ⟨q, hq, ?_⟩
      dsimp only
      split
      · rename_i e; rw [e]
      · rw [if_pos rfl]
    · rcases Decidable.em (k = q) with rfl | h2
      · exact ⟨p, hp, by dsimp only; rw [if_pos rfl]⟩
      · exact ⟨k, hk, by dsimp only; rw [if_neg h1, if_neg h2]⟩
  refine ⟨fun i hi j hj => ?_, fun v hv => h.sharp v (fun k hk => ?_)⟩
  · obtain ⟨k, hk, e⟩ := pick i hi
    dsimp only at e ⊢
    rw [e]
    exact h.left k hk j hj
  · obtain ⟨i, hi, e⟩ := back k hk
    have := hv i hi
    unfold mv at this ⊢
    dsimp only at e this ⊢
    rwa [e] at this
theorem Steps.scale {n : Nat} {a r : Mat} (h : Steps n a r) {c : Nat} {s : G} (hs : s ≠ G.zero) : Steps n a (fun i => if i = c then (fun j => r c j * s) else r i) := by
  refine ⟨fun i hi j hj => ?_, fun v hv => h.sharp v (fun i hi => ?_)⟩
  · try dsimp only
    split
    · rename_i e
      subst e
      show r i j * s = gs n (fun l => r i (n + l) * s * a l j)
      rw [h.left i hi j hj, ← gs_mul]
      exact gs_congr (fun l _ => by ac_rfl)
    · exact h.left i hi j hj
  · have := hv i hi
    unfold mv at this ⊢
    try dsimp only at this ⊢
    split at this
    · rename_i e
      subst e
      have e2 : gs n (fun l => r i (n + l) * s * v l) = s * gs n (fun l => r i (n + l) * v l) := by
        rw [← mul_gs]
        exact gs_congr (fun l _ => by ac_rfl)
      rw [e2] at this
      exact G.zero_of hs this
    · exact this
theorem Steps.add {n : Nat} {a r : Mat} (h : Steps n a r) {i c : Nat} {t : G} (hc : c < n) (hne : i ≠ c) : Steps n a (fun k => if k = i then (fun j => r i j + r c j * t) else r k) := by
  refine ⟨fun k hk j hj => ?_, fun v hv => h.sharp v (fun k hk => ?_)⟩
  · try dsimp only
    split
    · rename_i e
      subst e
      show r k j + r c j * t = gs n (fun l => (r k (n + l) + r c (n + l) * t) * a l j)
      rw [h.left k hk j hj, h.left c hc j hj, ← gs_mul, ← gs_add]
      exact gs_congr (fun l _ => by rw [G.add_mul]; congr 1; ac_rfl)
    · exact h.left k hk j hj
  · have hcz : gs n (fun l => r c (n + l) * v l) = G.zero := by
      have := hv c hc
      unfold mv at this
      try dsimp only at this
      rwa [if_neg (fun e => hne e.symm)] at this
    have := hv k hk
    unfold mv at this ⊢
    try dsimp only at this ⊢
    split at this
    · rename_i e
      subst e
      have e2 : gs n (fun l => (r k (n + l) + r c (n + l) * t) * v l) = gs n (fun l => r k (n + l) * v l) + gs n (fun l => r c (n + l) * v l) * t := by
        rw [← gs_mul, ← gs_add]
        exact gs_congr (fun l _ => by rw [G.add_mul]; congr 1; ac_rfl)
      rw [e2, hcz, G.zero_mul, G.add_zero] at this
      exact this
    · exact this
/-- All columns are One's: the right half is the inverse, on both sides. -/
theorem Steps.done {n : Nat} {a r : Mat} (h : Steps n a r) (hu : ∀ i, i < n → ∀ j, j < n → r i j = dl i j) :
    (∀ i, i < n → ∀ j, j < n → mm n (fun i l => r i (n + l)) a i j = dl i j) ∧ (∀ i, i < n → ∀ j, j < n → mm n a (fun i l => r i (n + l)) i j = dl i j) := by
  have h1 : ∀ i, i < n → ∀ j, j < n → mm n (fun i l => r i (n + l)) a i j = dl i j := fun i hi j hj => by
    rw [← hu i hi j hj]
    exact (h.left i hi j hj).symm
  exact ⟨h1, both_sides h.sharp h1⟩
/-- The first c columns are One's, and no row from c on has anything in the next one: there is no inverse. -/
theorem Steps.flat {n c : Nat} {a r : Mat} (h : Steps n a r) (hc : c < n) (hu : ∀ i, i < n → ∀ j, j < c → r i j = dl i j) (hz : ∀ i, c ≤ i → i < n → r i c = G.zero) : ¬ Sharp n a := by
  intro hs
  have hv : ∀ i, i < n → mv n r (fun l => if l < c then r l c else if l = c then G.one else G.zero) i = G.zero := fun i hi => by
    unfold mv
    have split_ : gs n (fun l => r i l * (if l < c then r l c else if l = c then G.one else G.zero)) = gs n (fun l => r i l * (if l < c then r l c else G.zero)) + gs n (fun l => r i l * dl l c) := by
      rw [← gs_add]
      refine gs_congr (fun l _ => ?_)
      rw [← G.mul_add]
      congr 1
      unfold dl
      rcases Nat.lt_trichotomy l c with h1 | h1 | h1
      · have h2 : ¬ l = c := by omega
        rw [if_pos h1, if_pos h1, if_neg h2, G.add_zero]
      · have h2 : ¬ l < c := by omega
        rw [if_neg h2, if_neg h2, if_pos h1, G.zero_add]
      · have h2 : ¬ l < c := by omega
        have h3 : ¬ l = c := by omega
        rw [if_neg h2, if_neg h2, if_neg h3, G.add_zero]
    rw [split_, gs_dl_right hc]
    rcases Nat.lt_or_ge i c with hic | hic
    · rw [gs_one (j := i) hi (fun l hl hne => by
        rcases Nat.lt_or_ge l c with h1 | h1
        · rw [hu i hi l h1]
          unfold dl
          rw [if_neg (fun e => hne e.symm), G.zero_mul]
        · rw [if_neg (by omega), G.mul_zero])]
      rw [if_pos hic, hu i hi i hic]
      unfold dl
      rw [if_pos rfl, G.one_mul, G.add_self]
    · rw [hz i hic hi, G.add_zero]
      refine gs_none (fun l hl => ?_)
      rcases Nat.lt_or_ge l c with h1 | h1
      · rw [hu i hi l h1]
        unfold dl
        rw [if_neg (by omega), G.zero_mul]
      · rw [if_neg (by omega), G.mul_zero]
  have hA : ∀ i, i < n → mv n a (fun l => if l < c then r l c else if l = c then G.one else G.zero) i = G.zero := by
    generalize (fun l => if l < c then r l c else if l = c then G.one else G.zero) = u at hv
    refine h.sharp _ (fun i hi => ?_)
    have e : mv n (mm n (fun i l => r i (n + l)) a) u i = mv n r u i := gs_congr (fun l hl => by rw [h.left i hi l hl]; rfl)
    rw [← mv_mm, e]
    exact hv i hi
  have := hs _ hA c hc
  rw [if_neg (by omega), if_pos rfl] at this
  exact G.one_ne this
end Go.Proofs.Yteebdlliaipnlaa
