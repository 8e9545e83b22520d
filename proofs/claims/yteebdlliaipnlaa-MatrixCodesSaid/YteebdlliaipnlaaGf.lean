/- The field of 256 as numbers: product, powers, inverses, and that it is a field. It names nothing of the program. -/
import Derived.Test.YteebdlliaipnlaaNums
namespace Go.Proofs.Yteebdlliaipnlaa
open Go.RowKit
/-- A polynomial without its digit j, the field's own laid there. -/
def red1 (j p : Nat) : Nat := p ^^^ p / 2 ^ j % 2 * (285 * 2 ^ (j - 8))
def xt (a : Nat) : Nat := red1 8 (a * 2)
def pw : Nat → Nat → Nat
  | 0, a => a
  | k + 1, a => xt (pw k a)
def gm : Nat → Nat → Nat → Nat
  | 0, _, _ => 0
  | k + 1, a, b => gm k a b ^^^ b / 2 ^ k % 2 * pw k a
def gmul (a b : Nat) : Nat := gm 8 a b

/-! ### digits -/
theorem dig_or (j p : Nat) : p / 2 ^ j % 2 = 0 ∨ p / 2 ^ j % 2 = 1 := by omega
theorem dig_test (j p : Nat) : p / 2 ^ j % 2 = (p.testBit j).toNat := by
  rw [Nat.testBit_eq_decide_div_mod_eq]
  rcases dig_or j p with h | h <;> rw [h] <;> rfl
theorem dig_xor (j p q : Nat) : (p ^^^ q) / 2 ^ j % 2 = (p / 2 ^ j % 2 + q / 2 ^ j % 2) % 2 := by
  rw [dig_test, dig_test, dig_test, Nat.testBit_xor]
  cases p.testBit j <;> cases q.testBit j <;> rfl
theorem xor_four (a b c d : Nat) : (a ^^^ b) ^^^ (c ^^^ d) = (a ^^^ c) ^^^ (b ^^^ d) := by
  rw [Nat.xor_assoc, Nat.xor_assoc, ← Nat.xor_assoc b, Nat.xor_comm b, Nat.xor_assoc]
theorem dig_mul_xor (j p q c : Nat) : (p ^^^ q) / 2 ^ j % 2 * c = (p / 2 ^ j % 2 * c) ^^^ (q / 2 ^ j % 2 * c) := by
  rw [dig_xor]
  rcases dig_or j p with h | h <;> rcases dig_or j q with h' | h' <;> rw [h, h'] <;> simp
theorem mul_dig_xor (j p x y : Nat) : p / 2 ^ j % 2 * (x ^^^ y) = (p / 2 ^ j % 2 * x) ^^^ (p / 2 ^ j % 2 * y) := by
  rcases dig_or j p with h | h <;> rw [h] <;> simp
theorem red1_xor (j p q : Nat) : red1 j (p ^^^ q) = red1 j p ^^^ red1 j q := by
  unfold red1
  rw [dig_mul_xor, xor_four]
theorem twice_xor (a b : Nat) : (a ^^^ b) * 2 = (a * 2) ^^^ (b * 2) := by
  have := Nat.shiftLeft_xor_distrib (a := a) (b := b) (i := 1)
  simpa [Nat.shiftLeft_eq] using this
theorem xt_xor (a b : Nat) : xt (a ^^^ b) = xt a ^^^ xt b := by
  unfold xt
  rw [twice_xor, red1_xor]
theorem pw_xor (k a b : Nat) : pw k (a ^^^ b) = pw k a ^^^ pw k b := by
  induction k with
  | zero => rfl
  | succ k ih => simp only [pw]; rw [ih, xt_xor]
theorem gm_left (k a b c : Nat) : gm k (a ^^^ b) c = gm k a c ^^^ gm k b c := by
  induction k with
  | zero => simp [gm]
  | succ k ih => simp only [gm]; rw [ih, pw_xor, mul_dig_xor, xor_four]
theorem gm_right (k a b c : Nat) : gm k a (b ^^^ c) = gm k a b ^^^ gm k a c := by
  induction k with
  | zero => simp [gm]
  | succ k ih => simp only [gm]; rw [ih, dig_mul_xor, xor_four]
theorem gmul_left (a b c : Nat) : gmul (a ^^^ b) c = gmul a c ^^^ gmul b c := gm_left 8 a b c
theorem gmul_right (a b c : Nat) : gmul a (b ^^^ c) = gmul a b ^^^ gmul a c := gm_right 8 a b c
theorem xor_lt8 {a b : Nat} (ha : a < 256) (hb : b < 256) : a ^^^ b < 256 := Nat.xor_lt_two_pow (n := 8) ha hb
theorem xt_lt : ∀ {a : Nat}, a < 256 → xt a < 256 := by
  have h : ∀ a < 256, xt a < 256 := by decide +kernel
  exact fun {a} ha => h a ha
theorem pw_lt (k : Nat) {a : Nat} (ha : a < 256) : pw k a < 256 := by
  induction k with
  | zero => exact ha
  | succ k ih => exact xt_lt ih
theorem gm_lt (k b : Nat) {a : Nat} (ha : a < 256) : gm k a b < 256 := by
  induction k with
  | zero => show 0 < 256; omega
  | succ k ih =>
    refine xor_lt8 ih ?_
    have := pw_lt k ha
    rcases dig_or k b with h | h <;> rw [h] <;> omega
theorem gmul_lt {a : Nat} (b : Nat) (ha : a < 256) : gmul a b < 256 := gm_lt 8 b ha

/-! ### what holds for the eight digits holds for all -/
theorem low_dig : ∀ a < 256, a ≠ 0 → ∃ i < 8, a ^^^ 2 ^ i < a := by decide +kernel
theorem by_digits (f g : Nat → Nat) (hf : ∀ a b, f (a ^^^ b) = f a ^^^ f b) (hg : ∀ a b, g (a ^^^ b) = g a ^^^ g b) (h : ∀ i < 8, f (2 ^ i) = g (2 ^ i)) : ∀ n a, a ≤ n → a < 256 → f a = g a := by
  have f0 : f 0 = 0 := by have := hf 0 0; simpa using this
  have g0 : g 0 = 0 := by have := hg 0 0; simpa using this
  intro n
  induction n with
  | zero => intro a ha _; obtain rfl : a = 0 := by omega
            rw [f0, g0]
  | succ n ih =>
    intro a ha hl
    by_cases h0 : a = 0
    · rw [h0, f0, g0]
    · obtain ⟨i, hi, hlt⟩ := low_dig a hl h0
      have e : a = (a ^^^ 2 ^ i) ^^^ 2 ^ i := by rw [Nat.xor_assoc, Nat.xor_self, Nat.xor_zero]
      rw [e, hf, hg, h i hi, ih (a ^^^ 2 ^ i) (by omega) (by omega)]
theorem comm_digits : ∀ i < 8, ∀ j < 8, gmul (2 ^ i) (2 ^ j) = gmul (2 ^ j) (2 ^ i) := by decide +kernel
theorem gmul_comm {a b : Nat} (ha : a < 256) (hb : b < 256) : gmul a b = gmul b a := by
  refine by_digits (fun a => gmul a b) (fun a => gmul b a) (fun x y => gmul_left x y b) (fun x y => gmul_right b x y) (fun i hi => ?_) a a (Nat.le_refl _) ha
  exact by_digits (fun b => gmul (2 ^ i) b) (fun b => gmul b (2 ^ i)) (fun x y => gmul_right _ x y) (fun x y => gmul_left x y _) (fun j hj => comm_digits i hi j hj) b b (Nat.le_refl _) hb
theorem assoc_digits : ∀ i < 8, ∀ j < 8, ∀ k < 8, gmul (2 ^ i) (gmul (2 ^ j) (2 ^ k)) = gmul (gmul (2 ^ i) (2 ^ j)) (2 ^ k) := by decide +kernel
theorem gmul_assoc {a b c : Nat} (ha : a < 256) (hb : b < 256) (hc : c < 256) : gmul a (gmul b c) = gmul (gmul a b) c := by
  refine by_digits (fun a => gmul a (gmul b c)) (fun a => gmul (gmul a b) c) (fun x y => gmul_left x y _) (fun x y => by simp only [gmul_left]) (fun i hi => ?_) a a (Nat.le_refl _) ha
  refine by_digits (fun b => gmul (2 ^ i) (gmul b c)) (fun b => gmul (gmul (2 ^ i) b) c) (fun x y => by simp only [gmul_left, gmul_right]) (fun x y => by simp only [gmul_left, gmul_right]) (fun j hj => ?_) b b (Nat.le_refl _) hb
  exact by_digits (fun c => gmul (2 ^ i) (gmul (2 ^ j) c)) (fun c => gmul (gmul (2 ^ i) (2 ^ j)) c) (fun x y => by simp only [gmul_right]) (fun x y => by simp only [gmul_right]) (fun k hk => assoc_digits i hi j hj k hk) c c (Nat.le_refl _) hc
theorem gmul_one {a : Nat} (ha : a < 256) : gmul a 1 = a :=
  by_digits (fun a => gmul a 1) (fun a => a) (fun x y => gmul_left x y _) (fun _ _ => rfl) (by decide +kernel) a a (Nat.le_refl _) ha
theorem one_gmul {a : Nat} (ha : a < 256) : gmul 1 a = a := by rw [gmul_comm (by decide) ha, gmul_one ha]
theorem gmul_zero (a : Nat) : gmul a 0 = 0 := by have := gmul_right a 0 0; simpa using this
theorem zero_gmul (a : Nat) : gmul 0 a = 0 := by have := gmul_left 0 0 a; simpa using this

/-! ### the way by polynomials -/
def cl : Nat → Nat → Nat → Nat
  | 0, _, _ => 0
  | k + 1, a, b => cl k a b ^^^ b / 2 ^ k % 2 * (a * 2 ^ k)
def red : Nat → Nat → Nat
  | 0, p => p
  | k + 1, p => red1 (14 - k) (red k p)
theorem red_xor (k p q : Nat) : red k (p ^^^ q) = red k p ^^^ red k q := by
  induction k with
  | zero => rfl
  | succ k ih => simp only [red]; rw [ih, red1_xor]
theorem red_digits : ∀ k < 8, ∀ i < 8, red 7 (2 ^ i * 2 ^ k) = pw k (2 ^ i) := by decide +kernel
theorem mul_pow_xor (k a b : Nat) : (a ^^^ b) * 2 ^ k = (a * 2 ^ k) ^^^ (b * 2 ^ k) := by
  have := Nat.shiftLeft_xor_distrib (a := a) (b := b) (i := k)
  simpa [Nat.shiftLeft_eq] using this
theorem red_pw {k a : Nat} (hk : k < 8) (ha : a < 256) : red 7 (a * 2 ^ k) = pw k a :=
  by_digits (fun a => red 7 (a * 2 ^ k)) (fun a => pw k a) (fun x y => by simp only [mul_pow_xor, red_xor]) (fun x y => pw_xor k x y) (fun i hi => red_digits k hk i hi) a a (Nat.le_refl _) ha
theorem red_zero (k : Nat) : red k 0 = 0 := by have := red_xor k 0 0; simpa using this
theorem red_cl {a : Nat} (b : Nat) (ha : a < 256) : ∀ k, k ≤ 8 → red 7 (cl k a b) = gm k a b := by
  intro k
  induction k with
  | zero => intro _; exact red_zero 7
  | succ k ih =>
    intro hk
    simp only [cl, gm]
    rw [red_xor, ih (by omega)]
    congr 1
    rcases dig_or k b with h | h <;> rw [h]
    · rw [Nat.zero_mul, Nat.zero_mul]; exact red_zero 7
    · rw [Nat.one_mul, Nat.one_mul]; exact red_pw (by omega) ha
theorem xor_lt15 {a b : Nat} (ha : a < 32768) (hb : b < 32768) : a ^^^ b < 32768 := Nat.xor_lt_two_pow (n := 15) ha hb
theorem pow_lt8 {k : Nat} (hk : k < 8) : 2 ^ k ≤ 128 := by
  have : ∀ k < 8, 2 ^ k ≤ 128 := by decide
  exact this k hk
theorem cl_lt {a : Nat} (b : Nat) (ha : a < 256) : ∀ k, k ≤ 8 → cl k a b < 32768 := by
  intro k
  induction k with
  | zero => intro _; show 0 < 32768; omega
  | succ k ih =>
    intro hk
    simp only [cl]
    refine xor_lt15 (ih (by omega)) ?_
    have h2 := pow_lt8 (k := k) (by omega)
    have h3 : a * 2 ^ k ≤ 255 * 128 := Nat.mul_le_mul (by omega) h2
    rcases dig_or k b with h | h <;> rw [h] <;> omega
theorem red1_lt {j p : Nat} (h8 : 8 ≤ j) (hj : j ≤ 14) (hp : p < 32768) : red1 j p < 32768 := by
  unfold red1
  refine xor_lt15 hp ?_
  have h2 : 2 ^ (j - 8) ≤ 64 := by
    have : ∀ k < 7, 2 ^ k ≤ 64 := by decide
    exact this (j - 8) (by omega)
  rcases dig_or j p with h | h <;> rw [h] <;> omega
theorem red_lt {p : Nat} (hp : p < 32768) : ∀ k, k ≤ 7 → red k p < 32768 := by
  intro k
  induction k with
  | zero => intro _; exact hp
  | succ k ih => intro hk; exact red1_lt (by omega) (by omega) (ih (by omega))

/-! ### powers -/
def gpow (a : Nat) : Nat → Nat
  | 0 => 1
  | n + 1 => gmul (gpow a n) a
theorem gpow_lt {a : Nat} (_ha : a < 256) : ∀ n, gpow a n < 256
  | 0 => by show 1 < 256; omega
  | n + 1 => gmul_lt _ (gpow_lt _ha n)
theorem gpow_add {a : Nat} (ha : a < 256) (m : Nat) : ∀ n, gpow a (m + n) = gmul (gpow a m) (gpow a n)
  | 0 => by rw [Nat.add_zero]; exact (gmul_one (gpow_lt ha m)).symm
  | n + 1 => by
    rw [← Nat.add_assoc]
    show gmul (gpow a (m + n)) a = gmul (gpow a m) (gmul (gpow a n) a)
    rw [gpow_add ha m n, gmul_assoc (gpow_lt ha m) (gpow_lt ha n) ha]
theorem gpow_one {a : Nat} (ha : a < 256) : gpow a 1 = a := one_gmul ha
theorem gpow_twice {a : Nat} (ha : a < 256) (m : Nat) : gpow a (m + m) = gmul (gpow a m) (gpow a m) := gpow_add ha m m
theorem gpow_mul {a : Nat} (ha : a < 256) (m : Nat) : ∀ n, gpow (gpow a m) n = gpow a (m * n)
  | 0 => rfl
  | n + 1 => by
    show gmul (gpow (gpow a m) n) (gpow a m) = gpow a (m * (n + 1))
    rw [gpow_mul ha m n, Nat.mul_succ, gpow_add ha]
theorem gpow_sq {a : Nat} (ha : a < 256) (n : Nat) : gpow (gmul a a) n = gpow a (2 * n) := by
  have h : gmul a a = gpow a 2 := by
    show gmul a a = gmul (gpow a 1) a
    rw [gpow_one ha]
  rw [h, gpow_mul ha]
def g255 (a : Nat) : Nat :=
  let b := gmul (gmul a a) a
  let c := gmul b b
  let d := gmul (gmul c c) b
  let e := gmul d d
  let f := gmul e e
  let g := gmul f f
  gmul (gmul g g) d
theorem g255_one : ∀ a < 256, a ≠ 0 → g255 a = 1 := by decide +kernel
theorem gpow255 {a : Nat} (ha : a < 256) (h0 : a ≠ 0) : gpow a 255 = 1 := by
  rw [← g255_one a ha h0]
  have e3 : gpow a 3 = gmul (gmul a a) a := by
    show gmul (gmul (gpow a 1) a) a = _
    rw [gpow_one ha]
  have e6 : gpow a 6 = gmul (gpow a 3) (gpow a 3) := gpow_twice ha 3
  have e12 : gpow a 12 = gmul (gpow a 6) (gpow a 6) := gpow_twice ha 6
  have e15 : gpow a 15 = gmul (gpow a 12) (gpow a 3) := gpow_add ha 12 3
  have e30 : gpow a 30 = gmul (gpow a 15) (gpow a 15) := gpow_twice ha 15
  have e60 : gpow a 60 = gmul (gpow a 30) (gpow a 30) := gpow_twice ha 30
  have e120 : gpow a 120 = gmul (gpow a 60) (gpow a 60) := gpow_twice ha 60
  have e240 : gpow a 240 = gmul (gpow a 120) (gpow a 120) := gpow_twice ha 120
  have e255 : gpow a 255 = gmul (gpow a 240) (gpow a 15) := gpow_add ha 240 15
  rw [e255, e240, e120, e60, e30, e15, e12, e6, e3]
  rfl
theorem gpow_one_n : ∀ n, gpow 1 n = 1
  | 0 => rfl
  | n + 1 => by show gmul (gpow 1 n) 1 = 1; rw [gpow_one_n n]; exact gmul_one (by decide)
theorem gpow_mod {a : Nat} (ha : a < 256) (h0 : a ≠ 0) (n : Nat) : gpow a n = gpow a (n % 255) := by
  have h := Nat.div_add_mod n 255
  have e : gpow a n = gpow a (255 * (n / 255) + n % 255) := by rw [h]
  rw [e, gpow_add ha, ← gpow_mul ha, gpow255 ha h0, gpow_one_n, one_gmul (gpow_lt ha _)]
theorem gpow_zero : ∀ n, n ≠ 0 → gpow 0 n = 0
  | 0, h => absurd rfl h
  | _ + 1, _ => gmul_zero _
def ginv (a : Nat) : Nat := gpow a 254
theorem ginv_lt {a : Nat} (ha : a < 256) : ginv a < 256 := gpow_lt ha 254
theorem gmul_inv {a : Nat} (ha : a < 256) (h0 : a ≠ 0) : gmul a (ginv a) = 1 := by
  have h : gpow a 255 = gmul (gpow a 254) a := rfl
  rw [gmul_comm ha (ginv_lt ha)]
  exact h ▸ gpow255 ha h0
theorem gmul_ne {a b : Nat} (ha : a < 256) (hb : b < 256) (h0 : a ≠ 0) (h1 : b ≠ 0) : gmul a b ≠ 0 := by
  intro h
  have e : gmul (ginv a) (gmul a b) = b := by
    rw [gmul_assoc (ginv_lt ha) ha hb, gmul_comm (ginv_lt ha) ha, gmul_inv ha h0, one_gmul hb]
  rw [h, gmul_zero] at e
  exact h1 e.symm
/-- Any power, by exponents of both signs. -/
def powS (a : Nat) (n : Int) : Nat := if a = 0 then (if n = 0 then 1 else 0) else gpow a (n % 255).toNat
theorem powS_lt {a : Nat} (n : Int) (ha : a < 256) : powS a n < 256 := by
  unfold powS
  split
  · split <;> omega
  · exact gpow_lt ha _
theorem powS_up {a : Nat} {n : Int} (ha : a < 256) (hn : 0 ≤ n) : gpow a n.toNat = powS a n := by
  unfold powS
  by_cases h0 : a = 0
  · subst h0
    rw [if_pos rfl]
    by_cases hz : n = 0
    · subst hz; rfl
    · rw [if_neg hz, gpow_zero]; omega
  · rw [if_neg h0, gpow_mod ha h0]
    congr 1
    omega
theorem powS_down {a : Nat} {n : Int} (ha : a < 256) (h0 : a ≠ 0) (hn : n < 0) : gpow (ginv a) (-n).toNat = powS a n := by
  unfold powS ginv
  rw [if_neg h0, gpow_mul ha, gpow_mod ha h0]
  congr 1
  omega
theorem powS_none {n : Int} (hn : n < 0) : powS 0 n = 0 := by
  unfold powS
  rw [if_pos rfl, if_neg (by omega)]
theorem powS_add {a : Nat} {n m : Int} (ha : a < 256) (h0 : a ≠ 0) : gmul (powS a n) (powS a m) = powS a (n + m) := by
  unfold powS
  rw [if_neg h0, if_neg h0, if_neg h0, ← gpow_add ha, gpow_mod ha h0]
  congr 1
  omega
theorem powS_255 {a : Nat} (h0 : a ≠ 0) : powS a 255 = 1 := by
  unfold powS
  rw [if_neg h0]
  rfl
end Go.Proofs.Yteebdlliaipnlaa
