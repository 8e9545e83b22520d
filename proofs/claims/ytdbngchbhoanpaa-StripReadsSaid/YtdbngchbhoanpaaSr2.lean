/- Plain arithmetic for the laws of bits: digits that are counted and turned. It names nothing of the program. The field of 256 as numbers: product, powers, inverses, and that it is a field. It names nothing of the program. The field of 256 as a type of its own, sums over it, matrices as functions: product, kernel, steps by rows, the code. It names nothing of the program. -/
import Derived.Test.YtdbngchbhoanpaaRows
import Derived.WalkKit
import Derived.Laws.Bits64b
import Derived.Laws.BitsAllLaws
namespace Go.Proofs.Ytdbngchbhoanpaa
open Go.RowKit
theorem hide {p : Prop} (h : p) : Hid p := h
theorem ret_int {k : IntKind} {a b : Int} (h : a = b) : Ending.returned (.int k a) = .returned (.int k b) := by rw [h]
theorem ret_bool {a b : Bool} (h : a = b) : Ending.returned (.bool a) = .returned (.bool b) := by rw [h]

/-! ### digits that are 1 -/
def pc (v : Nat) : Nat := if h : v = 0 then 0 else v % 2 + pc (v / 2)
theorem pc_zero : pc 0 = 0 := by rw [pc]; simp
theorem pc_step (v : Nat) : pc v = v % 2 + pc (v / 2) := by
  by_cases h : v = 0
  · subst h; simp [pc_zero]
  · rw [pc, dif_neg h]
theorem pc_le (k : Nat) : ∀ v : Nat, v < 2 ^ k → pc v ≤ k := by
  induction k with
  | zero => intro v h; have : v = 0 := by simpa using h
            subst this; simp [pc_zero]
  | succ k ih =>
    intro v h
    rw [pc_step]
    have := ih (v / 2) (by rw [Nat.pow_succ] at h; omega)
    omega
theorem pc_join (k : Nat) : ∀ a b : Nat, b < 2 ^ k → pc (a * 2 ^ k + b) = pc a + pc b := by
  induction k with
  | zero => intro a b h; have : b = 0 := by simpa using h
            subst this; simp [pc_zero]
  | succ k ih =>
    intro a b h
    rw [Nat.pow_succ] at h
    have e : a * 2 ^ (k + 1) = 2 * (a * 2 ^ k) := by rw [Nat.pow_succ]; rw [← Nat.mul_assoc, Nat.mul_comm]
    rw [pc_step, pc_step b]
    have h1 : (a * 2 ^ (k + 1) + b) % 2 = b % 2 := by omega
    have h2 : (a * 2 ^ (k + 1) + b) / 2 = a * 2 ^ k + b / 2 := by omega
    rw [h1, h2, ih a (b / 2) (by omega)]
    omega
theorem pc_split (j v : Nat) : pc v = pc (v / 2 ^ j) + pc (v % 2 ^ j) := by
  rw [← pc_join j _ _ (Nat.mod_lt _ (Nat.two_pow_pos j))]
  congr 1
  rw [Nat.mul_comm]; exact (Nat.div_add_mod v (2 ^ j)).symm

/-! ### digits that are turned -/
def rot (v k : Nat) : Nat := v * 2 ^ k % 4294967296 ||| v / 2 ^ (32 - k)
theorem mul_pow_mod (v k j : Nat) (h : k + j = 32) : v * 2 ^ k % 4294967296 = v % 2 ^ j * 2 ^ k := by
  have : 4294967296 = 2 ^ j * 2 ^ k := by rw [← Nat.pow_add, Nat.add_comm, h]
  rw [this, Nat.mul_mod_mul_right]
theorem div_pow_lt (v k j : Nat) (h : k + j = 32) (hv : v < 4294967296) : v / 2 ^ j < 2 ^ k := by
  have : 4294967296 = 2 ^ j * 2 ^ k := by rw [← Nat.pow_add, Nat.add_comm, h]
  exact Nat.div_lt_of_lt_mul (by rw [← this]; exact hv)
theorem rot_sum (v k j : Nat) (h : k + j = 32) (hv : v < 4294967296) : rot v k = v % 2 ^ j * 2 ^ k + v / 2 ^ j := by
  unfold rot
  have e : 32 - k = j := by omega
  rw [e, mul_pow_mod v k j h]
  exact nat_join k _ _ (Nat.mul_mod_left _ _) (div_pow_lt v k j h hv)
theorem rot_lt (v k : Nat) (hv : v < 4294967296) : rot v k < 4294967296 := by
  unfold rot
  exact Nat.or_lt_two_pow (n := 32) (Nat.mod_lt _ (by decide)) (Nat.lt_of_le_of_lt (Nat.div_le_self _ _) hv)
theorem pc_rot (v k : Nat) (hk : k ≤ 32) (hv : v < 4294967296) : pc (rot v k) = pc v := by
  have h : k + (32 - k) = 32 := by omega
  rw [rot_sum v k (32 - k) h hv, pc_join k _ _ (div_pow_lt v k _ h hv), pc_split (32 - k) v, Nat.add_comm]
theorem rot_zero (v : Nat) (hv : v < 4294967296) : rot v 0 = v := by
  rw [rot_sum v 0 32 rfl hv]
  simp only [Nat.pow_zero, Nat.mul_one]
  have e : (2 : Nat) ^ 32 = 4294967296 := by decide
  rw [e]
  omega
theorem rot_back (v k j : Nat) (h : k + j = 32) (hv : v < 4294967296) : rot (rot v k) j = v := by
  have hl := div_pow_lt v k j h hv
  rw [rot_sum (rot v k) j k (by omega) (rot_lt v k hv), rot_sum v k j h hv]
  have h1 : (v % 2 ^ j * 2 ^ k + v / 2 ^ j) % 2 ^ k = v / 2 ^ j := by
    rw [Nat.add_comm, Nat.add_mul_mod_self_right]; exact Nat.mod_eq_of_lt hl
  have h2 : (v % 2 ^ j * 2 ^ k + v / 2 ^ j) / 2 ^ k = v % 2 ^ j := by
    rw [Nat.add_comm, Nat.add_mul_div_right _ _ (Nat.two_pow_pos k), Nat.div_eq_of_lt hl, Nat.zero_add]
  rw [h1, h2, Nat.mul_comm]
  exact Nat.div_add_mod v (2 ^ j)
theorem rot_walk (v k : Nat) (hv : v < 4294967296) : bits .or .u32 ((v : Int) * 2 ^ k % 4294967296) ((v : Int) / 2 ^ (32 - k)) = ((rot v k : Nat) : Int) := by
  unfold rot
  have h1 : ((v : Int) * 2 ^ k % 4294967296) = ((v * 2 ^ k % 4294967296 : Nat) : Int) := by simp
  have h2 : ((v : Int) / 2 ^ (32 - k)) = ((v / 2 ^ (32 - k) : Nat) : Int) := by simp
  rw [h1, h2, u32_or_nat _ _ (Nat.mod_lt _ (by decide)) (Nat.lt_of_le_of_lt (Nat.div_le_self _ _) hv)]
def turnBy (n : Int) : Nat := (n % 32).toNat
theorem turnBy_lt (n : Int) : turnBy n < 32 := by unfold turnBy; omega
theorem turn_mask (n : Int) : bits .and .u64 (IntKind.u64.wrap n) 31 = ((turnBy n : Nat) : Int) := by
  rw [IntKind.wrap_u64]
  rw [u64_and _ _ (by omega) (by omega) (by decide) (by decide)]
  have : (31 : Int).toNat = 31 := rfl
  rw [this, nat_mask5]
  unfold turnBy
  omega
theorem tmod_cases (n m : Int) : (0 ≤ n ∧ n.tmod m = n % m) ∨ (n < 0 ∧ n.tmod m = -((-n) % m)) := by
  rcases Int.lt_or_le n 0 with h | h
  · right
    refine ⟨h, ?_⟩
    have e : n = -(-n) := by omega
    rw [e, Int.neg_tmod, Int.neg_neg, Int.tmod_eq_emod_of_nonneg (by omega)]
  · left
    exact ⟨h, Int.tmod_eq_emod_of_nonneg h⟩
theorem turn_neg (n : Int) (h : n.tmod 32 < 0) : (turnBy n : Int) = n.tmod 32 + 32 := by
  unfold turnBy
  rcases tmod_cases n 32 with ⟨_, e⟩ | ⟨_, e⟩ <;> rw [e] at h ⊢ <;> omega
theorem turn_pos (n : Int) (h : ¬ n.tmod 32 < 0) : (turnBy n : Int) = n.tmod 32 := by
  unfold turnBy
  rcases tmod_cases n 32 with ⟨_, e⟩ | ⟨_, e⟩ <;> rw [e] at h ⊢ <;> omega
/-- Turned by n and then by -n, a number is what it was. -/
theorem rot_there_back (v : Nat) (n : Int) (hv : v < 4294967296) : rot (rot v (turnBy n)) (turnBy (-n)) = v := by
  by_cases h : turnBy n = 0
  · have h2 : turnBy (-n) = 0 := by unfold turnBy at *; omega
    rw [h, h2, rot_zero v hv, rot_zero v hv]
  · exact rot_back v _ _ (by unfold turnBy at *; omega) hv
end Go.Proofs.Ytdbngchbhoanpaa
namespace Go.Proofs.Ytdbngchbhoanpaa
open Go.RowKit
/-- A polynomial without its digit j, the field's own laid there. -/
def red1 (j p : Nat) : Nat := p ^^^ p / 2 ^ j % 2 * (285 * 2 ^ (j - 8))
def xt (a : Nat) : Nat := red1 8 (a * 2)
def pw : Nat → Nat → Nat
  | 0, a => a
  | k + 1, a => xt (pw k a)
def gm : Nat → Nat → Nat → Nat
  | 0, _, _ => 0
  | k + 1, a, b => gm k a b ^^^ b / 2 ^ k % 2 * pw k a
def gmul (a b : Nat) : Nat := gm 8 a b

/-! ### digits -/
theorem dig_or (j p : Nat) : p / 2 ^ j % 2 = 0 ∨ p / 2 ^ j % 2 = 1 := by omega
theorem dig_test (j p : Nat) : p / 2 ^ j % 2 = (p.testBit j).toNat := by
  rw [Nat.testBit_eq_decide_div_mod_eq]
  rcases dig_or j p with h | h <;> rw [h] <;> rfl
theorem dig_xor (j p q : Nat) : (p ^^^ q) / 2 ^ j % 2 = (p / 2 ^ j % 2 + q / 2 ^ j % 2) % 2 := by
  rw [dig_test, dig_test, dig_test, Nat.testBit_xor]
  cases p.testBit j <;> cases q.testBit j <;> rfl
theorem xor_four (a b c d : Nat) : (a ^^^ b) ^^^ (c ^^^ d) = (a ^^^ c) ^^^ (b ^^^ d) := by
  rw [Nat.xor_assoc, Nat.xor_assoc, ← Nat.xor_assoc b, Nat.xor_comm b, Nat.xor_assoc]
theorem dig_mul_xor (j p q c : Nat) : (p ^^^ q) / 2 ^ j % 2 * c = (p / 2 ^ j % 2 * c) ^^^ (q / 2 ^ j % 2 * c) := by
  rw [dig_xor]
  rcases dig_or j p with h | h <;> rcases dig_or j q with h' | h' <;> rw [h, h'] <;> simp
theorem mul_dig_xor (j p x y : Nat) : p / 2 ^ j % 2 * (x ^^^ y) = (p / 2 ^ j % 2 * x) ^^^ (p / 2 ^ j % 2 * y) := by
  rcases dig_or j p with h | h <;> rw [h] <;> simp
theorem red1_xor (j p q : Nat) : red1 j (p ^^^ q) = red1 j p ^^^ red1 j q := by
  unfold red1
  rw [dig_mul_xor, xor_four]
theorem twice_xor (a b : Nat) : (a ^^^ b) * 2 = (a * 2) ^^^ (b * 2) := by
  have := Nat.shiftLeft_xor_distrib (a := a) (b := b) (i := 1)
  simpa [Nat.shiftLeft_eq] using this
theorem xt_xor (a b : Nat) : xt (a ^^^ b) = xt a ^^^ xt b := by
  unfold xt
  rw [twice_xor, red1_xor]
theorem pw_xor (k a b : Nat) : pw k (a ^^^ b) = pw k a ^^^ pw k b := by
  induction k with
  | zero => rfl
  | succ k ih => simp only [pw]; rw [ih, xt_xor]
theorem gm_left (k a b c : Nat) : gm k (a ^^^ b) c = gm k a c ^^^ gm k b c := by
  induction k with
  | zero => simp [gm]
  | succ k ih => simp only [gm]; rw [ih, pw_xor, mul_dig_xor, xor_four]
theorem gm_right (k a b c : Nat) : gm k a (b ^^^ c) = gm k a b ^^^ gm k a c := by
  induction k with
  | zero => simp [gm]
  | succ k ih => simp only [gm]; rw [ih, dig_mul_xor, xor_four]
theorem gmul_left (a b c : Nat) : gmul (a ^^^ b) c = gmul a c ^^^ gmul b c := gm_left 8 a b c
theorem gmul_right (a b c : Nat) : gmul a (b ^^^ c) = gmul a b ^^^ gmul a c := gm_right 8 a b c
theorem xor_lt8 {a b : Nat} (ha : a < 256) (hb : b < 256) : a ^^^ b < 256 := Nat.xor_lt_two_pow (n := 8) ha hb
theorem xt_lt : ∀ {a : Nat}, a < 256 → xt a < 256 := by
  have h : ∀ a < 256, xt a < 256 := by decide +kernel
  exact fun {a} ha => h a ha
theorem pw_lt (k : Nat) {a : Nat} (ha : a < 256) : pw k a < 256 := by
  induction k with
  | zero => exact ha
  | succ k ih => exact xt_lt ih
theorem gm_lt (k b : Nat) {a : Nat} (ha : a < 256) : gm k a b < 256 := by
  induction k with
  | zero => show 0 < 256; omega
  | succ k ih =>
    refine xor_lt8 ih ?_
    have := pw_lt k ha
    rcases dig_or k b with h | h <;> rw [h] <;> omega
theorem gmul_lt {a : Nat} (b : Nat) (ha : a < 256) : gmul a b < 256 := gm_lt 8 b ha

/-! ### what holds for the eight digits holds for all -/
theorem low_dig : ∀ a < 256, a ≠ 0 → ∃ i < 8, a ^^^ 2 ^ i < a := by decide +kernel
theorem by_digits (f g : Nat → Nat) (hf : ∀ a b, f (a ^^^ b) = f a ^^^ f b) (hg : ∀ a b, g (a ^^^ b) = g a ^^^ g b) (h : ∀ i < 8, f (2 ^ i) = g (2 ^ i)) : ∀ n a, a ≤ n → a < 256 → f a = g a := by
  have f0 : f 0 = 0 := by have := hf 0 0; simpa using this
  have g0 : g 0 = 0 := by have := hg 0 0; simpa using this
  intro n
  induction n with
  | zero => intro a ha _; obtain rfl : a = 0 := by omega
            rw [f0, g0]
  | succ n ih =>
    intro a ha hl
    by_cases h0 : a = 0
    · rw [h0, f0, g0]
    · obtain ⟨i, hi, hlt⟩ := low_dig a hl h0
      have e : a = (a ^^^ 2 ^ i) ^^^ 2 ^ i := by rw [Nat.xor_assoc, Nat.xor_self, Nat.xor_zero]
      rw [e, hf, hg, h i hi, ih (a ^^^ 2 ^ i) (by omega) (by omega)]
theorem comm_digits : ∀ i < 8, ∀ j < 8, gmul (2 ^ i) (2 ^ j) = gmul (2 ^ j) (2 ^ i) := by decide +kernel
theorem gmul_comm {a b : Nat} (ha : a < 256) (hb : b < 256) : gmul a b = gmul b a := by
  refine by_digits (fun a => gmul a b) (fun a => gmul b a) (fun x y => gmul_left x y b) (fun x y => gmul_right b x y) (fun i hi => ?_) a a (Nat.le_refl _) ha
  exact by_digits (fun b => gmul (2 ^ i) b) (fun b => gmul b (2 ^ i)) (fun x y => gmul_right _ x y) (fun x y => gmul_left x y _) (fun j hj => comm_digits i hi j hj) b b (Nat.le_refl _) hb
theorem assoc_digits : ∀ i < 8, ∀ j < 8, ∀ k < 8, gmul (2 ^ i) (gmul (2 ^ j) (2 ^ k)) = gmul (gmul (2 ^ i) (2 ^ j)) (2 ^ k) := by decide +kernel
theorem gmul_assoc {a b c : Nat} (ha : a < 256) (hb : b < 256) (hc : c < 256) : gmul a (gmul b c) = gmul (gmul a b) c := by
  refine by_digits (fun a => gmul a (gmul b c)) (fun a => gmul (gmul a b) c) (fun x y => gmul_left x y _) (fun x y => by simp only [gmul_left]) (fun i hi => ?_) a a (Nat.le_refl _) ha
  refine by_digits (fun b => gmul (2 ^ i) (gmul b c)) (fun b => gmul (gmul (2 ^ i) b) c) (fun x y => by simp only [gmul_left, gmul_right]) (fun x y => by simp only [gmul_left, gmul_right]) (fun j hj => ?_) b b (Nat.le_refl _) hb
  exact by_digits (fun c => gmul (2 ^ i) (gmul (2 ^ j) c)) (fun c => gmul (gmul (2 ^ i) (2 ^ j)) c) (fun x y => by simp only [gmul_right]) (fun x y => by simp only [gmul_right]) (fun k hk => assoc_digits i hi j hj k hk) c c (Nat.le_refl _) hc
theorem gmul_one {a : Nat} (ha : a < 256) : gmul a 1 = a :=
  by_digits (fun a => gmul a 1) (fun a => a) (fun x y => gmul_left x y _) (fun _ _ => rfl) (by decide +kernel) a a (Nat.le_refl _) ha
theorem one_gmul {a : Nat} (ha : a < 256) : gmul 1 a = a := by rw [gmul_comm (by decide) ha, gmul_one ha]
theorem gmul_zero (a : Nat) : gmul a 0 = 0 := by have := gmul_right a 0 0; simpa using this
theorem zero_gmul (a : Nat) : gmul 0 a = 0 := by have := gmul_left 0 0 a; simpa using this

/-! ### the way by polynomials -/
def cl : Nat → Nat → Nat → Nat
  | 0, _, _ => 0
  | k + 1, a, b => cl k a b ^^^ b / 2 ^ k % 2 * (a * 2 ^ k)
def red : Nat → Nat → Nat
  | 0, p => p
  | k + 1, p => red1 (14 - k) (red k p)
theorem red_xor (k p q : Nat) : red k (p ^^^ q) = red k p ^^^ red k q := by
  induction k with
  | zero => rfl
  | succ k ih => simp only [red]; rw [ih, red1_xor]
theorem red_digits : ∀ k < 8, ∀ i < 8, red 7 (2 ^ i * 2 ^ k) = pw k (2 ^ i) := by decide +kernel
theorem mul_pow_xor (k a b : Nat) : (a ^^^ b) * 2 ^ k = (a * 2 ^ k) ^^^ (b * 2 ^ k) := by
  have := Nat.shiftLeft_xor_distrib (a := a) (b := b) (i := k)
  simpa [Nat.shiftLeft_eq] using this
theorem red_pw {k a : Nat} (hk : k < 8) (ha : a < 256) : red 7 (a * 2 ^ k) = pw k a :=
  by_digits (fun a => red 7 (a * 2 ^ k)) (fun a => pw k a) (fun x y => by simp only [mul_pow_xor, red_xor]) (fun x y => pw_xor k x y) (fun i hi => red_digits k hk i hi) a a (Nat.le_refl _) ha
theorem red_zero (k : Nat) : red k 0 = 0 := by have := red_xor k 0 0; simpa using this
theorem red_cl {a : Nat} (b : Nat) (ha : a < 256) : ∀ k, k ≤ 8 → red 7 (cl k a b) = gm k a b := by
  intro k
  induction k with
  | zero => intro _; exact red_zero 7
  | succ k ih =>
    intro hk
    simp only [cl, gm]
    rw [red_xor, ih (by omega)]
    congr 1
    rcases dig_or k b with h | h <;> rw [h]
    · rw [Nat.zero_mul, Nat.zero_mul]; exact red_zero 7
    · rw [Nat.one_mul, Nat.one_mul]; exact red_pw (by omega) ha
theorem xor_lt15 {a b : Nat} (ha : a < 32768) (hb : b < 32768) : a ^^^ b < 32768 := Nat.xor_lt_two_pow (n := 15) ha hb
theorem pow_lt8 {k : Nat} (hk : k < 8) : 2 ^ k ≤ 128 := by
  have : ∀ k < 8, 2 ^ k ≤ 128 := by decide
  exact this k hk
theorem cl_lt {a : Nat} (b : Nat) (ha : a < 256) : ∀ k, k ≤ 8 → cl k a b < 32768 := by
  intro k
  induction k with
  | zero => intro _; show 0 < 32768; omega
  | succ k ih =>
    intro hk
    simp only [cl]
    refine xor_lt15 (ih (by omega)) ?_
    have h2 := pow_lt8 (k := k) (by omega)
    have h3 : a * 2 ^ k ≤ 255 * 128 := Nat.mul_le_mul (by omega) h2
    rcases dig_or k b with h | h <;> rw [h] <;> omega
theorem red1_lt {j p : Nat} (h8 : 8 ≤ j) (hj : j ≤ 14) (hp : p < 32768) : red1 j p < 32768 := by
  unfold red1
  refine xor_lt15 hp ?_
  have h2 : 2 ^ (j - 8) ≤ 64 := by
    have : ∀ k < 7, 2 ^ k ≤ 64 := by decide
    exact this (j - 8) (by omega)
  rcases dig_or j p with h | h <;> rw [h] <;> omega
theorem red_lt {p : Nat} (hp : p < 32768) : ∀ k, k ≤ 7 → red k p < 32768 := by
  intro k
  induction k with
  | zero => intro _; exact hp
  | succ k ih => intro hk; exact red1_lt (by omega) (by omega) (ih (by omega))

/-! ### powers -/
def gpow (a : Nat) : Nat → Nat
  | 0 => 1
  | n + 1 => gmul (gpow a n) a
theorem gpow_lt {a : Nat} (_ha : a < 256) : ∀ n, gpow a n < 256
  | 0 => by show 1 < 256; omega
  | n + 1 => gmul_lt _ (gpow_lt _ha n)
theorem gpow_add {a : Nat} (ha : a < 256) (m : Nat) : ∀ n, gpow a (m + n) = gmul (gpow a m) (gpow a n)
  | 0 => by rw [Nat.add_zero]; exact (gmul_one (gpow_lt ha m)).symm
  | n + 1 => by
    rw [← Nat.add_assoc]
    show gmul (gpow a (m + n)) a = gmul (gpow a m) (gmul (gpow a n) a)
    rw [gpow_add ha m n, gmul_assoc (gpow_lt ha m) (gpow_lt ha n) ha]
theorem gpow_one {a : Nat} (ha : a < 256) : gpow a 1 = a := one_gmul ha
theorem gpow_twice {a : Nat} (ha : a < 256) (m : Nat) : gpow a (m + m) = gmul (gpow a m) (gpow a m) := gpow_add ha m m
theorem gpow_mul {a : Nat} (ha : a < 256) (m : Nat) : ∀ n, gpow (gpow a m) n = gpow a (m * n)
  | 0 => rfl
  | n + 1 => by
    show gmul (gpow (gpow a m) n) (gpow a m) = gpow a (m * (n + 1))
    rw [gpow_mul ha m n, Nat.mul_succ, gpow_add ha]
theorem gpow_sq {a : Nat} (ha : a < 256) (n : Nat) : gpow (gmul a a) n = gpow a (2 * n) := by
  have h : gmul a a = gpow a 2 := by
    show gmul a a = gmul (gpow a 1) a
    rw [gpow_one ha]
  rw [h, gpow_mul ha]
def g255 (a : Nat) : Nat :=
  let b := gmul (gmul a a) a
  let c := gmul b b
  let d := gmul (gmul c c) b
  let e := gmul d d
  let f := gmul e e
  let g := gmul f f
  gmul (gmul g g) d
theorem g255_one : ∀ a < 256, a ≠ 0 → g255 a = 1 := by decide +kernel
theorem gpow255 {a : Nat} (ha : a < 256) (h0 : a ≠ 0) : gpow a 255 = 1 := by
  rw [← g255_one a ha h0]
  have e3 : gpow a 3 = gmul (gmul a a) a := by
    show gmul (gmul (gpow a 1) a) a = _
    rw [gpow_one ha]
  have e6 : gpow a 6 = gmul (gpow a 3) (gpow a 3) := gpow_twice ha 3
  have e12 : gpow a 12 = gmul (gpow a 6) (gpow a 6) := gpow_twice ha 6
  have e15 : gpow a 15 = gmul (gpow a 12) (gpow a 3) := gpow_add ha 12 3
  have e30 : gpow a 30 = gmul (gpow a 15) (gpow a 15) := gpow_twice ha 15
  have e60 : gpow a 60 = gmul (gpow a 30) (gpow a 30) := gpow_twice ha 30
  have e120 : gpow a 120 = gmul (gpow a 60) (gpow a 60) := gpow_twice ha 60
  have e240 : gpow a 240 = gmul (gpow a 120) (gpow a 120) := gpow_twice ha 120
  have e255 : gpow a 255 = gmul (gpow a 240) (gpow a 15) := gpow_add ha 240 15
  rw [e255, e240, e120, e60, e30, e15, e12, e6, e3]
  rfl
theorem gpow_one_n : ∀ n, gpow 1 n = 1
  | 0 => rfl
  | n + 1 => by show gmul (gpow 1 n) 1 = 1; rw [gpow_one_n n]; exact gmul_one (by decide)
theorem gpow_mod {a : Nat} (ha : a < 256) (h0 : a ≠ 0) (n : Nat) : gpow a n = gpow a (n % 255) := by
  have h := Nat.div_add_mod n 255
  have e : gpow a n = gpow a (255 * (n / 255) + n % 255) := by rw [h]
  rw [e, gpow_add ha, ← gpow_mul ha, gpow255 ha h0, gpow_one_n, one_gmul (gpow_lt ha _)]
theorem gpow_zero : ∀ n, n ≠ 0 → gpow 0 n = 0
  | 0, h => absurd rfl h
  | _ + 1, _ => gmul_zero _
def ginv (a : Nat) : Nat := gpow a 254
theorem ginv_lt {a : Nat} (ha : a < 256) : ginv a < 256 := gpow_lt ha 254
theorem gmul_inv {a : Nat} (ha : a < 256) (h0 : a ≠ 0) : gmul a (ginv a) = 1 := by
  have h : gpow a 255 = gmul (gpow a 254) a := rfl
  rw [gmul_comm ha (ginv_lt ha)]
  exact h ▸ gpow255 ha h0
theorem gmul_ne {a b : Nat} (ha : a < 256) (hb : b < 256) (h0 : a ≠ 0) (h1 : b ≠ 0) : gmul a b ≠ 0 := by
  intro h
  have e : gmul (ginv a) (gmul a b) = b := by
    rw [gmul_assoc (ginv_lt ha) ha hb, gmul_comm (ginv_lt ha) ha, gmul_inv ha h0, one_gmul hb]
  rw [h, gmul_zero] at e
  exact h1 e.symm
/-- Any power, by exponents of both signs. -/
def powS (a : Nat) (n : Int) : Nat := if a = 0 then (if n = 0 then 1 else 0) else gpow a (n % 255).toNat
theorem powS_lt {a : Nat} (n : Int) (ha : a < 256) : powS a n < 256 := by
  unfold powS
  split
  · split <;> omega
  · exact gpow_lt ha _
theorem powS_up {a : Nat} {n : Int} (ha : a < 256) (hn : 0 ≤ n) : gpow a n.toNat = powS a n := by
  unfold powS
  by_cases h0 : a = 0
  · subst h0
    rw [if_pos rfl]
    by_cases hz : n = 0
    · subst hz; rfl
    · rw [if_neg hz, gpow_zero]; omega
  · rw [if_neg h0, gpow_mod ha h0]
    congr 1
    omega
theorem powS_down {a : Nat} {n : Int} (ha : a < 256) (h0 : a ≠ 0) (hn : n < 0) : gpow (ginv a) (-n).toNat = powS a n := by
  unfold powS ginv
  rw [if_neg h0, gpow_mul ha, gpow_mod ha h0]
  congr 1
  omega
theorem powS_none {n : Int} (hn : n < 0) : powS 0 n = 0 := by
  unfold powS
  rw [if_pos rfl, if_neg (by omega)]
theorem powS_add {a : Nat} {n m : Int} (ha : a < 256) (h0 : a ≠ 0) : gmul (powS a n) (powS a m) = powS a (n + m) := by
  unfold powS
  rw [if_neg h0, if_neg h0, if_neg h0, ← gpow_add ha, gpow_mod ha h0]
  congr 1
  omega
theorem powS_255 {a : Nat} (h0 : a ≠ 0) : powS a 255 = 1 := by
  unfold powS
  rw [if_neg h0]
  rfl
end Go.Proofs.Ytdbngchbhoanpaa
namespace Go.Proofs.Ytdbngchbhoanpaa
structure G where
  n : Nat
  lt : n < 256
theorem G.ext {a b : G} (h : a.n = b.n) : a = b := by
  cases a; cases b; cases h; rfl
instance : DecidableEq G := fun a b => if h : a.n = b.n then isTrue (G.ext h) else isFalse (fun e => h (by rw [e]))
instance : Mul G := ⟨fun a b => ⟨gmul a.n b.n, gmul_lt _ a.lt⟩⟩
instance : Add G := ⟨fun a b => ⟨a.n ^^^ b.n, xor_lt8 a.lt b.lt⟩⟩
def G.zero : G := ⟨0, by decide⟩
def G.one : G := ⟨1, by decide⟩
def G.inv (a : G) : G := ⟨ginv a.n, ginv_lt a.lt⟩
def G.of (n : Nat) : G := ⟨n % 256, Nat.mod_lt _ (by decide)⟩
theorem G.of_n {n : Nat} (h : n < 256) : (G.of n).n = n := Nat.mod_eq_of_lt h
theorem G.of_self (a : G) : G.of a.n = a := G.ext (G.of_n a.lt)
theorem G.mul_n (a b : G) : (a * b).n = gmul a.n b.n := rfl
theorem G.add_n (a b : G) : (a + b).n = a.n ^^^ b.n := rfl
theorem G.add_comm (a b : G) : a + b = b + a := G.ext (Nat.xor_comm _ _)
theorem G.add_assoc (a b c : G) : a + b + c = a + (b + c) := G.ext (Nat.xor_assoc _ _ _)
theorem G.mul_comm (a b : G) : a * b = b * a := G.ext (gmul_comm a.lt b.lt)
theorem G.mul_assoc (a b c : G) : a * b * c = a * (b * c) := G.ext (gmul_assoc a.lt b.lt c.lt).symm
instance : Std.Associative (α := G) (· + ·) := ⟨G.add_assoc⟩
instance : Std.Commutative (α := G) (· + ·) := ⟨G.add_comm⟩
instance : Std.Associative (α := G) (· * ·) := ⟨G.mul_assoc⟩
instance : Std.Commutative (α := G) (· * ·) := ⟨G.mul_comm⟩
theorem G.mul_add (a b c : G) : a * (b + c) = a * b + a * c := G.ext (gmul_right _ _ _)
theorem G.add_mul (a b c : G) : (a + b) * c = a * c + b * c := G.ext (gmul_left _ _ _)
theorem G.add_zero (a : G) : a + G.zero = a := G.ext (Nat.xor_zero _)
theorem G.zero_add (a : G) : G.zero + a = a := G.ext (Nat.zero_xor _)
theorem G.add_self (a : G) : a + a = G.zero := G.ext (Nat.xor_self _)
theorem G.mul_one (a : G) : a * G.one = a := G.ext (gmul_one a.lt)
theorem G.one_mul (a : G) : G.one * a = a := G.ext (one_gmul a.lt)
theorem G.mul_zero (a : G) : a * G.zero = G.zero := G.ext (gmul_zero _)
theorem G.zero_mul (a : G) : G.zero * a = G.zero := G.ext (zero_gmul _)
theorem G.mul_inv {a : G} (h : a ≠ G.zero) : a * a.inv = G.one := G.ext (gmul_inv a.lt (fun e => h (G.ext e)))
theorem G.one_ne : G.one ≠ G.zero := by decide
theorem G.mul_ne {a b : G} (ha : a ≠ G.zero) (hb : b ≠ G.zero) : a * b ≠ G.zero := fun e => gmul_ne a.lt b.lt (fun h => ha (G.ext h)) (fun h => hb (G.ext h)) (congrArg G.n e)
theorem G.inv_ne {a : G} (ha : a ≠ G.zero) : a.inv ≠ G.zero := fun e => by
  have := G.mul_inv ha
  rw [e, G.mul_zero] at this
  exact G.one_ne this.symm
theorem G.zero_of {a b : G} (ha : a ≠ G.zero) (h : a * b = G.zero) : b = G.zero := by
  rcases Decidable.em (b = G.zero) with e | e
  · exact e
  · exact absurd h (G.mul_ne ha e)
theorem G.eq_of {a b : G} (h : a + b = G.zero) : a = b := by
  have : a + b + b = b := by rw [h, G.zero_add]
  rwa [G.add_assoc, G.add_self, G.add_zero] at this

/-! ### sums -/
def gs : Nat → (Nat → G) → G
  | 0, _ => G.zero
  | n + 1, f => gs n f + f n
theorem gs_congr {f g : Nat → G} : ∀ {n : Nat}, (∀ i, i < n → f i = g i) → gs n f = gs n g
  | 0, _ => rfl
  | n + 1, h => by
    show gs n f + f n = gs n g + g n
    rw [gs_congr (fun i hi => h i (by omega)), h n (by omega)]
theorem gs_none {f : Nat → G} : ∀ {n : Nat}, (∀ i, i < n → f i = G.zero) → gs n f = G.zero
  | 0, _ => rfl
  | n + 1, h => by
    show gs n f + f n = _
    rw [gs_none (fun i hi => h i (by omega)), h n (by omega), G.add_zero]
theorem gs_add (f g : Nat → G) : ∀ n : Nat, gs n (fun i => f i + g i) = gs n f + gs n g
  | 0 => (G.add_zero _).symm
  | n + 1 => by
    show gs n (fun i => f i + g i) + (f n + g n) = (gs n f + f n) + (gs n g + g n)
    rw [gs_add f g n]
    ac_rfl
theorem gs_mul (f : Nat → G) (c : G) : ∀ n : Nat, gs n (fun i => f i * c) = gs n f * c
  | 0 => (G.zero_mul _).symm
  | n + 1 => by
    show gs n (fun i => f i * c) + f n * c = (gs n f + f n) * c
    rw [gs_mul f c n, G.add_mul]
theorem mul_gs (f : Nat → G) (c : G) (n : Nat) : gs n (fun i => c * f i) = c * gs n f := by
  rw [G.mul_comm c, ← gs_mul]
  exact gs_congr (fun i _ => G.mul_comm _ _)
theorem gs_swap (f : Nat → Nat → G) (m : Nat) : ∀ n : Nat, gs n (fun i => gs m (fun j => f i j)) = gs m (fun j => gs n (fun i => f i j))
  | 0 => (gs_none (fun _ _ => rfl)).symm
  | n + 1 => by
    show gs n (fun i => gs m (fun j => f i j)) + gs m (fun j => f n j) = gs m (fun j => gs n (fun i => f i j) + f n j)
    rw [gs_swap f m n, gs_add]
theorem gs_one {f : Nat → G} {j : Nat} : ∀ {n : Nat}, j < n → (∀ i, i < n → i ≠ j → f i = G.zero) → gs n f = f j
  | 0, h, _ => by omega
  | n + 1, h, h0 => by
    show gs n f + f n = f j
    rcases Nat.lt_or_ge j n with hj | hj
    · rw [gs_one hj (fun i hi hne => h0 i (by omega) hne), h0 n (by omega) (by omega), G.add_zero]
    · obtain rfl : j = n := by omega
      rw [gs_none (fun i hi => h0 i (by omega) (by omega)), G.zero_add]
def dl (i j : Nat) : G := if i = j then G.one else G.zero
theorem gs_dl_left {f : Nat → G} {n i : Nat} (h : i < n) : gs n (fun l => dl i l * f l) = f i := by
  rw [gs_one (j := i) h (fun l _ hne => by unfold dl; rw [if_neg (fun e => hne e.symm), G.zero_mul])]
  unfold dl
  rw [if_pos rfl, G.one_mul]
theorem gs_dl_right {f : Nat → G} {n j : Nat} (h : j < n) : gs n (fun l => f l * dl l j) = f j := by
  rw [gs_one (j := j) h (fun l _ hne => by unfold dl; rw [if_neg hne, G.mul_zero])]
  unfold dl
  rw [if_pos rfl, G.mul_one]

/-! ### matrices -/
abbrev Mat := Nat → Nat → G
def mm (p : Nat) (a b : Mat) : Mat := fun i j => gs p (fun l => a i l * b l j)
theorem mm_assoc (p q : Nat) (a b c : Mat) (i j : Nat) : mm q (mm p a b) c i j = mm p a (mm q b c) i j := by
  unfold mm
  have h1 : gs q (fun m => gs p (fun l => a i l * b l m) * c m j) = gs q (fun m => gs p (fun l => a i l * b l m * c m j)) := gs_congr (fun m _ => (gs_mul _ _ _).symm)
  have h2 : gs p (fun l => a i l * gs q (fun m => b l m * c m j)) = gs p (fun l => gs q (fun m => a i l * b l m * c m j)) := gs_congr (fun l _ => by
    rw [← mul_gs]
    exact gs_congr (fun m _ => by rw [G.mul_assoc]))
  rw [h1, h2]
  exact gs_swap _ _ _
theorem mm_one_left {n : Nat} {a : Mat} {i : Nat} (h : i < n) (j : Nat) : mm n dl a i j = a i j := gs_dl_left (f := fun l => a l j) h
theorem mm_one_right {n : Nat} {a : Mat} {j : Nat} (h : j < n) (i : Nat) : mm n a dl i j = a i j := gs_dl_right (f := fun l => a i l) h
def mv (p : Nat) (a : Mat) (v : Nat → G) : Nat → G := fun i => gs p (fun l => a i l * v l)
/-- Nothing but noughts is taken to noughts. -/
def Sharp (n : Nat) (a : Mat) : Prop := ∀ v : Nat → G, (∀ i, i < n → mv n a v i = G.zero) → ∀ l, l < n → v l = G.zero
theorem mv_mm (n : Nat) (a b : Mat) (v : Nat → G) (i : Nat) : mv n (mm n a b) v i = mv n a (mv n b v) i := mm_assoc n n a b (fun l _ => v l) i 0
/-- What has a left inverse that is sharp has it on the right too. -/
theorem both_sides {n : Nat} {a b : Mat} (hb : Sharp n b) (h : ∀ i, i < n → ∀ j, j < n → mm n b a i j = dl i j) : ∀ i, i < n → ∀ j, j < n → mm n a b i j = dl i j := by
  intro i hi j hj
  have hz : ∀ k, k < n → mv n b (fun l => mm n a b l j + dl l j) k = G.zero := fun k hk => by
    have h1 : mv n b (fun l => mm n a b l j + dl l j) k = mm n b (mm n a b) k j + mm n b dl k j := by
      show gs n (fun l => b k l * (mm n a b l j + dl l j)) = _
      unfold mm
      rw [← gs_add]
      exact gs_congr (fun l _ => G.mul_add _ _ _)
    rw [h1, ← mm_assoc, mm_one_right hj]
    have h2 : mm n (mm n b a) b k j = b k j := by
      show gs n (fun l => mm n b a k l * b l j) = _
      rw [gs_congr (fun l hl => by rw [h k hk l hl])]
      exact mm_one_left hk j
    rw [h2, G.add_self]
  exact G.eq_of (hb _ hz i hi)
theorem inverse_one {n : Nat} {a b c : Mat} (hb : ∀ i, i < n → ∀ j, j < n → mm n b a i j = dl i j) (hc : ∀ i, i < n → ∀ j, j < n → mm n a c i j = dl i j) : ∀ i, i < n → ∀ j, j < n → b i j = c i j := by
  intro i hi j hj
  have h1 : mm n (mm n b a) c i j = c i j := by
    show gs n (fun l => mm n b a i l * c l j) = _
    rw [gs_congr (fun l hl => by rw [hb i hi l hl])]
    exact mm_one_left hi j
  have h2 : mm n b (mm n a c) i j = b i j := by
    show gs n (fun l => b i l * mm n a c l j) = _
    rw [gs_congr (fun l hl => by rw [hc l hl j hj])]
    exact mm_one_right hj i
  rw [← h2, ← mm_assoc, h1]
theorem sharp_of_left {n : Nat} {a b : Mat} (h : ∀ i, i < n → ∀ j, j < n → mm n b a i j = dl i j) : Sharp n a := by
  intro v hv l hl
  have h1 : mv n (mm n b a) v l = v l := by
    show gs n (fun k => mm n b a l k * v k) = _
    rw [gs_congr (fun k hk => by rw [h l hl k hk])]
    exact gs_dl_left hl
  rw [← h1, mv_mm]
  exact gs_none (fun k hk => by rw [hv k hk, G.mul_zero])

/-! ### steps by rows: the rows of a and of One side by side -/
structure Steps (n : Nat) (a r : Mat) : Prop where
  left : ∀ i, i < n → ∀ j, j < n → r i j = gs n (fun l => r i (n + l) * a l j)
  sharp : Sharp n (fun i l => r i (n + l))
theorem steps_start (n : Nat) (a r : Mat) (h1 : ∀ i, i < n → ∀ j, j < n → r i j = a i j) (h2 : ∀ i, i < n → ∀ l, l < n → r i (n + l) = dl i l) : Steps n a r := by
  refine ⟨fun i hi j hj => ?_, fun v hv l hl => ?_⟩
  · rw [h1 i hi j hj, gs_congr (fun l hl => by rw [h2 i hi l hl])]
    exact (gs_dl_left (f := fun l => a l j) hi).symm
  · have hh : gs n (fun k => r l (n + k) * v k) = G.zero := hv l hl
    rw [gs_congr (g := fun k => dl l k * v k) (fun k hk => by rw [h2 l hl k hk]), gs_dl_left hl] at hh
    exact hh
theorem Steps.congr {n : Nat} {a r s : Mat} (h : Steps n a r) (e : ∀ i, i < n → ∀ j, j < n + n → s i j = r i j) : Steps n a s := by
  refine ⟨fun i hi j hj => ?_, fun v hv => h.sharp v (fun i hi => ?_)⟩
  · rw [e i hi j (by omega), h.left i hi j hj]
    exact gs_congr (fun l hl => by rw [e i hi (n + l) (by omega)])
  · have hh : gs n (fun l => s i (n + l) * v l) = G.zero := hv i hi
    show gs n (fun l => r i (n + l) * v l) = G.zero
    rw [← hh]
    exact gs_congr (fun l hl => by rw [e i hi (n + l) (by omega)])
theorem Steps.swap {n : Nat} {a r : Mat} (h : Steps n a r) {p q : Nat} (hp : p < n) (hq : q < n) : Steps n a (fun i => if i = p then r q else if i = q then r p else r i) := by
  have pick : ∀ i, i < n → ∃ k, k < n ∧ (fun i => if i = p then r q else if i = q then r p else r i) i = r k := fun i hi => by
    dsimp only
    split
    · exact ⟨q, hq, rfl⟩
    · split
      · exact ⟨p, hp, rfl⟩
      · exact ⟨i, hi, rfl⟩
  have back : ∀ k, k < n → ∃ i, i < n ∧ (fun i => if i = p then r q else if i = q then r p else r i) i = r k := fun k hk => by
    rcases Decidable.em (k = p) with rfl | h1
    · refine ⟨q, hq, ?_⟩
      dsimp only
      split
      · rename_i e; rw [e]
      · rw [if_pos rfl]
    · rcases Decidable.em (k = q) with rfl | h2
      · exact ⟨p, hp, by dsimp only; rw [if_pos rfl]⟩
      · exact ⟨k, hk, by dsimp only; rw [if_neg h1, if_neg h2]⟩
  refine ⟨fun i hi j hj => ?_, fun v hv => h.sharp v (fun k hk => ?_)⟩
  · obtain ⟨k, hk, e⟩ := pick i hi
    dsimp only at e ⊢
    rw [e]
    exact h.left k hk j hj
  · obtain ⟨i, hi, e⟩ := back k hk
    have := hv i hi
    unfold mv at this ⊢
    dsimp only at e this ⊢
    rwa [e] at this
theorem Steps.scale {n : Nat} {a r : Mat} (h : Steps n a r) {c : Nat} {s : G} (hs : s ≠ G.zero) : Steps n a (fun i => if i = c then (fun j => r c j * s) else r i) := by
  refine ⟨fun i hi j hj => ?_, fun v hv => h.sharp v (fun i hi => ?_)⟩
  · try dsimp only
    split
    · rename_i e
      subst e
      show r i j * s = gs n (fun l => r i (n + l) * s * a l j)
      rw [h.left i hi j hj, ← gs_mul]
      exact gs_congr (fun l _ => by ac_rfl)
    · exact h.left i hi j hj
  · have := hv i hi
    unfold mv at this ⊢
    try dsimp only at this ⊢
    split at this
    · rename_i e
      subst e
      have e2 : gs n (fun l => r i (n + l) * s * v l) = s * gs n (fun l => r i (n + l) * v l) := by
        rw [← mul_gs]
        exact gs_congr (fun l _ => by ac_rfl)
      rw [e2] at this
      exact G.zero_of hs this
    · exact this
theorem Steps.add {n : Nat} {a r : Mat} (h : Steps n a r) {i c : Nat} {t : G} (hc : c < n) (hne : i ≠ c) : Steps n a (fun k => if k = i then (fun j => r i j + r c j * t) else r k) := by
  refine ⟨fun k hk j hj => ?_, fun v hv => h.sharp v (fun k hk => ?_)⟩
  · try dsimp only
    split
    · rename_i e
      subst e
      show r k j + r c j * t = gs n (fun l => (r k (n + l) + r c (n + l) * t) * a l j)
      rw [h.left k hk j hj, h.left c hc j hj, ← gs_mul, ← gs_add]
      exact gs_congr (fun l _ => by rw [G.add_mul]; congr 1; ac_rfl)
    · exact h.left k hk j hj
  · have hcz : gs n (fun l => r c (n + l) * v l) = G.zero := by
      have := hv c hc
      unfold mv at this
      try dsimp only at this
      rwa [if_neg (fun e => hne e.symm)] at this
    have := hv k hk
    unfold mv at this ⊢
    try dsimp only at this ⊢
    split at this
    · rename_i e
      subst e
      have e2 : gs n (fun l => (r k (n + l) + r c (n + l) * t) * v l) = gs n (fun l => r k (n + l) * v l) + gs n (fun l => r c (n + l) * v l) * t := by
        rw [← gs_mul, ← gs_add]
        exact gs_congr (fun l _ => by rw [G.add_mul]; congr 1; ac_rfl)
      rw [e2, hcz, G.zero_mul, G.add_zero] at this
      exact this
    · exact this
/-- All columns are One's: the right half is the inverse, on both sides. -/
theorem Steps.done {n : Nat} {a r : Mat} (h : Steps n a r) (hu : ∀ i, i < n → ∀ j, j < n → r i j = dl i j) :
    (∀ i, i < n → ∀ j, j < n → mm n (fun i l => r i (n + l)) a i j = dl i j) ∧ (∀ i, i < n → ∀ j, j < n → mm n a (fun i l => r i (n + l)) i j = dl i j) := by
  have h1 : ∀ i, i < n → ∀ j, j < n → mm n (fun i l => r i (n + l)) a i j = dl i j := fun i hi j hj => by
    rw [← hu i hi j hj]
    exact (h.left i hi j hj).symm
  exact ⟨h1, both_sides h.sharp h1⟩
/-- The first c columns are One's, and no row from c on has anything in the next one: there is no inverse. -/
theorem Steps.flat {n c : Nat} {a r : Mat} (h : Steps n a r) (hc : c < n) (hu : ∀ i, i < n → ∀ j, j < c → r i j = dl i j) (hz : ∀ i, c ≤ i → i < n → r i c = G.zero) : ¬ Sharp n a := by
  intro hs
  have hv : ∀ i, i < n → mv n r (fun l => if l < c then r l c else if l = c then G.one else G.zero) i = G.zero := fun i hi => by
    unfold mv
    have split_ : gs n (fun l => r i l * (if l < c then r l c else if l = c then G.one else G.zero)) = gs n (fun l => r i l * (if l < c then r l c else G.zero)) + gs n (fun l => r i l * dl l c) := by
      rw [← gs_add]
      refine gs_congr (fun l _ => ?_)
      rw [← G.mul_add]
      congr 1
      unfold dl
      rcases Nat.lt_trichotomy l c with h1 | h1 | h1
      · have h2 : ¬ l = c := by omega
        rw [if_pos h1, if_pos h1, if_neg h2, G.add_zero]
      · have h2 : ¬ l < c := by omega
        rw [if_neg h2, if_neg h2, if_pos h1, G.zero_add]
      · have h2 : ¬ l < c := by omega
        have h3 : ¬ l = c := by omega
        rw [if_neg h2, if_neg h2, if_neg h3, G.add_zero]
    rw [split_, gs_dl_right hc]
    rcases Nat.lt_or_ge i c with hic | hic
    · rw [gs_one (j := i) hi (fun l hl hne => by
        rcases Nat.lt_or_ge l c with h1 | h1
        · rw [hu i hi l h1]
          unfold dl
          rw [if_neg (fun e => hne e.symm), G.zero_mul]
        · rw [if_neg (by omega), G.mul_zero])]
      rw [if_pos hic, hu i hi i hic]
      unfold dl
      rw [if_pos rfl, G.one_mul, G.add_self]
    · rw [hz i hic hi, G.add_zero]
      refine gs_none (fun l hl => ?_)
      rcases Nat.lt_or_ge l c with h1 | h1
      · rw [hu i hi l h1]
        unfold dl
        rw [if_neg (by omega), G.zero_mul]
      · rw [if_neg (by omega), G.mul_zero]
  have hA : ∀ i, i < n → mv n a (fun l => if l < c then r l c else if l = c then G.one else G.zero) i = G.zero := by
    generalize (fun l => if l < c then r l c else if l = c then G.one else G.zero) = u at hv
    refine h.sharp _ (fun i hi => ?_)
    have e : mv n (mm n (fun i l => r i (n + l)) a) u i = mv n r u i := gs_congr (fun l hl => by rw [h.left i hi l hl]; rfl)
    rw [← mv_mm, e]
    exact hv i hi
  have := hs _ hA c hc
  rw [if_neg (by omega), if_pos rfl] at this
  exact G.one_ne this
end Go.Proofs.Ytdbngchbhoanpaa
