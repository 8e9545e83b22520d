/- File ids as text, without a program: digits, the text of a file id, what is read out of it, the cookie's rounds. No condition. -/
import Derived.Test.YtdchgjniepdhfaaNums
namespace Go.Proofs.Ytdchgjniepdhfaa
open Go.RowKit
/-- One digit. -/
def hexd (d : Nat) : UInt8 := UInt8.ofNat (if d < 10 then 48 + d else 87 + d)
/-- A number in so many digits. -/
def fixd (b : Nat) : Nat → Nat → List UInt8
  | 0, _ => []
  | k + 1, n => fixd b k (n / b) ++ [hexd (n % b)]
/-- How many digits a number has (0: none). -/
def ndF (b : Nat) : Nat → Nat → Nat
  | 0, _ => 0
  | f + 1, n => if n = 0 then 0 else ndF b f (n / b) + 1
theorem fixd_len (b : Nat) : ∀ k n, (fixd b k n).length = k
  | 0, _ => rfl
  | k + 1, n => by simp [fixd, fixd_len b k]
theorem ndF_le (b : Nat) : ∀ f n, ndF b f n ≤ f
  | 0, _ => Nat.le_refl _
  | f + 1, n => by
    unfold ndF
    split
    · omega
    · have := ndF_le b f (n / b); omega
theorem ndF_lt (b : Nat) (hb : 0 < b) : ∀ f n, n < b ^ f → n < b ^ ndF b f n
  | 0, n, h => h
  | f + 1, n, h => by
    unfold ndF
    split
    · next h0 => subst h0; simp
    · have h2 : n / b < b ^ f := by
        rw [Nat.div_lt_iff_lt_mul hb]
        rw [Nat.pow_succ] at h
        exact h
      have := ndF_lt b hb f (n / b) h2
      rw [Nat.div_lt_iff_lt_mul hb] at this
      rw [Nat.pow_succ]
      exact this
theorem ndF_ge (b : Nat) (hb : 0 < b) : ∀ f n, 0 < n → n < b ^ f → 0 < ndF b f n ∧ b ^ (ndF b f n - 1) ≤ n
  | 0, n, h0, h => absurd h (by rw [Nat.pow_zero]; omega)
  | f + 1, n, h0, h => by
    unfold ndF
    rw [if_neg (by omega)]
    refine ⟨by omega, ?_⟩
    rw [Nat.add_sub_cancel]
    have h2 : n / b < b ^ f := by
      rw [Nat.div_lt_iff_lt_mul hb]
      rw [Nat.pow_succ] at h
      exact h
    by_cases hz : n / b = 0
    · rw [hz]
      have : ndF b f 0 = 0 := by cases f <;> simp [ndF]
      rw [this]
      simp only [Nat.pow_zero]
      omega
    · obtain ⟨h3, h4⟩ := ndF_ge b hb f (n / b) (Nat.pos_of_ne_zero hz) h2
      have h5 : b ^ ndF b f (n / b) = b ^ (ndF b f (n / b) - 1) * b := by
        rw [← Nat.pow_succ]
        congr 1
        omega
      rw [h5]
      exact Nat.le_trans (Nat.mul_le_mul_right b h4) (Nat.div_mul_le_self n b)
theorem hexd_ne (d : Nat) (h : d < 16) : hexd d ≠ 44 := by
  have : ∀ d < 16, hexd d ≠ 44 := by decide +kernel
  exact this d h
theorem fixd_ne (b : Nat) (hb : b = 10 ∨ b = 16) : ∀ k n, ∀ x ∈ fixd b k n, x ≠ 44
  | 0, _ => by simp [fixd]
  | k + 1, n => by
    intro x hx
    rw [fixd, List.mem_append] at hx
    rcases hx with hx | hx
    · exact fixd_ne b hb k _ x hx
    · rw [List.mem_singleton] at hx
      subst hx
      refine hexd_ne _ ?_
      rcases hb with rfl | rfl <;> omega
/-- What one digit tells. -/
def valD (c : UInt8) : Nat := if 48 ≤ c.toNat ∧ c.toNat ≤ 57 then c.toNat - 48 else if 97 ≤ c.toNat ∧ c.toNat ≤ 102 then c.toNat - 87 else 0
theorem valD_hexd (d : Nat) (h : d < 16) : valD (hexd d) = d := by
  have : ∀ d < 16, valD (hexd d) = d := by decide +kernel
  exact this d h
theorem valD_lt (c : UInt8) : valD c < 16 := by unfold valD; split <;> (try split) <;> omega
/-- What digits tell, in 64 digits. -/
def numW (b : Nat) (l : List UInt8) : Nat := l.foldl (fun v c => (v * b + valD c) % 18446744073709551616) 0
theorem numW_snoc (b : Nat) (l : List UInt8) (c : UInt8) : numW b (l ++ [c]) = (numW b l * b + valD c) % 18446744073709551616 := by
  simp [numW]
theorem numW_lt (b : Nat) (l : List UInt8) : numW b l < 18446744073709551616 := by
  unfold numW
  suffices h : ∀ (l : List UInt8) v, v < 18446744073709551616 → l.foldl (fun v c => (v * b + valD c) % 18446744073709551616) v < 18446744073709551616 from h l 0 (by omega)
  intro l
  induction l with
  | nil => intro v hv; exact hv
  | cons c l ih => intro v _; exact ih _ (Nat.mod_lt _ (by omega))
theorem numW_fixd (b : Nat) (hb : 0 < b) (hb2 : b ≤ 16) : ∀ k n, b ^ k ≤ 18446744073709551616 → n < b ^ k → numW b (fixd b k n) = n
  | 0, n, _, h => by
    simp at h
    subst h
    rfl
  | k + 1, n, hk, h => by
    rw [fixd, numW_snoc, numW_fixd b hb hb2 k (n / b) (by
      rw [Nat.pow_succ] at hk
      exact Nat.le_trans (Nat.le_mul_of_pos_right _ hb) hk) (by
      rw [Nat.div_lt_iff_lt_mul hb]
      rw [Nat.pow_succ] at h
      exact h), valD_hexd _ (Nat.lt_of_lt_of_le (Nat.mod_lt _ hb) hb2)]
    have e : n / b * b + n % b = n := by
      rw [Nat.mul_comm]
      exact Nat.div_add_mod n b
    rw [e]
    exact Nat.mod_eq_of_lt (Nat.lt_of_lt_of_le h hk)
/-- A file id. -/
structure Fd where
  v : Nat
  k : Nat
  c : Nat
deriving DecidableEq
def FdOk (f : Fd) : Prop := 1 ≤ f.v ∧ f.v ≤ 99999999 ∧ 1 ≤ f.k ∧ f.k < 18446744073709551616 ∧ f.c < 4294967296
def vL (v : Nat) : List UInt8 := fixd 10 (ndF 10 8 v) v
def kL (k : Nat) : List UInt8 := fixd 16 (ndF 16 16 k) k
def cL (c : Nat) : List UInt8 := fixd 16 8 c
/-- Its text. -/
def textL (f : Fd) : List UInt8 := vL f.v ++ 44 :: (kL f.k ++ 44 :: cL f.c)
/-- What stands ahead of the first comma, and behind it. -/
def cutA (l : List UInt8) : List UInt8 := l.takeWhile (· != 44)
def cutZ (l : List UInt8) : List UInt8 := (l.dropWhile (· != 44)).drop 1
theorem cutA_at {a b : List UInt8} (h : ∀ x ∈ a, x ≠ 44) : cutA (a ++ 44 :: b) = a := by
  unfold cutA
  induction a with
  | nil => simp
  | cons x a ih =>
    have h1 : (x != 44) = true := by simpa using h x List.mem_cons_self
    rw [List.cons_append, List.takeWhile_cons, h1]
    simp only [if_true]
    rw [ih (fun y hy => h y (List.mem_cons_of_mem _ hy))]
theorem cutZ_at {a b : List UInt8} (h : ∀ x ∈ a, x ≠ 44) : cutZ (a ++ 44 :: b) = b := by
  unfold cutZ
  induction a with
  | nil => simp
  | cons x a ih =>
    have h1 : (x != 44) = true := by simpa using h x List.mem_cons_self
    rw [List.cons_append, List.dropWhile_cons, h1]
    simp only [if_true]
    exact ih (fun y hy => h y (List.mem_cons_of_mem _ hy))
theorem cutA_none {a : List UInt8} (h : ∀ x ∈ a, x ≠ 44) : cutA a = a := by
  unfold cutA
  induction a with
  | nil => rfl
  | cons x a ih =>
    have h1 : (x != 44) = true := by simpa using h x List.mem_cons_self
    rw [List.takeWhile_cons, h1]
    simp only [if_true]
    rw [ih (fun y hy => h y (List.mem_cons_of_mem _ hy))]
theorem vL_ne (v : Nat) : ∀ x ∈ vL v, x ≠ 44 := fixd_ne 10 (.inl rfl) _ _
theorem kL_ne (k : Nat) : ∀ x ∈ kL k, x ≠ 44 := fixd_ne 16 (.inr rfl) _ _
theorem cL_ne (c : Nat) : ∀ x ∈ cL c, x ≠ 44 := fixd_ne 16 (.inr rfl) _ _
theorem numW_vL (v : Nat) (h : v ≤ 99999999) : numW 10 (vL v) = v := by
  have h1 := ndF_lt 10 (by omega) 8 v (by omega)
  have h2 := ndF_le 10 8 v
  refine numW_fixd 10 (by omega) (by omega) _ _ (Nat.le_trans (Nat.pow_le_pow_right (by omega) h2) (by omega)) h1
theorem numW_kL (k : Nat) (h : k < 18446744073709551616) : numW 16 (kL k) = k := by
  have h1 := ndF_lt 16 (by omega) 16 k (by omega)
  have h2 := ndF_le 16 16 k
  refine numW_fixd 16 (by omega) (by omega) _ _ (Nat.le_trans (Nat.pow_le_pow_right (by omega) h2) (by omega)) h1
theorem numW_cL (c : Nat) (h : c < 4294967296) : numW 16 (cL c) = c := numW_fixd 16 (by omega) (by omega) 8 c (by omega) (by omega)
/-- What is read, whatever stands there. -/
def readT (s : List UInt8) : Fd := ⟨numW 10 (cutA s), numW 16 (cutA (cutZ s)), numW 16 (cutA (cutZ (cutZ s)))⟩
theorem textA (f : Fd) : cutA (textL f) = vL f.v := cutA_at (vL_ne _)
theorem textB (f : Fd) : cutZ (textL f) = kL f.k ++ 44 :: cL f.c := cutZ_at (vL_ne _)
theorem textK (f : Fd) : cutA (kL f.k ++ 44 :: cL f.c) = kL f.k := cutA_at (kL_ne _)
theorem textC (f : Fd) : cutZ (kL f.k ++ 44 :: cL f.c) = cL f.c := cutZ_at (kL_ne _)
theorem readT_textL {f : Fd} (h : FdOk f) : readT (textL f) = f := by
  obtain ⟨_, h2, _, h4, h5⟩ := h
  obtain ⟨v, k, c⟩ := f
  unfold readT
  rw [textA, textB, textK, textC, cutA_none (cL_ne c), numW_vL v h2, numW_kL k h4, numW_cL c h5]
theorem textL_inj {f g : Fd} (hf : FdOk f) (hg : FdOk g) (h : textL f = textL g) : f = g := by
  rw [← readT_textL hf, ← readT_textL hg, h]
theorem nd_v {v : Nat} (h1 : 1 ≤ v) (h2 : v ≤ 99999999) : 1 ≤ (vL v).length ∧ (vL v).length ≤ 8 := by
  unfold vL
  rw [fixd_len]
  exact ⟨(ndF_ge 10 (by omega) 8 v (by omega) (by omega)).1, ndF_le 10 8 v⟩
theorem nd_k {k : Nat} (h1 : 1 ≤ k) (h2 : k < 18446744073709551616) : 1 ≤ (kL k).length ∧ (kL k).length ≤ 16 := by
  unfold kL
  rw [fixd_len]
  exact ⟨(ndF_ge 16 (by omega) 16 k (by omega) (by omega)).1, ndF_le 16 16 k⟩
theorem textL_len {f : Fd} (h : FdOk f) : 12 ≤ (textL f).length ∧ (textL f).length ≤ 34 := by
  have h1 := nd_v h.1 h.2.1
  have h2 := nd_k h.2.2.1 h.2.2.2.1
  have h3 : (cL f.c).length = 8 := fixd_len ..
  unfold textL
  rw [List.length_append, List.length_cons, List.length_append, List.length_cons, h3]
  omega
/-- One round of a cookie. -/
def ckR (x k : Nat) : Nat := (rot x 5 ^^^ k % 4294967296) * 2654435769 % 4294967296
def ckL : Nat → Nat → Nat → Nat
  | 0, x, _ => x
  | n + 1, x, k => ckL n (ckR x k) (k / 65536)
theorem ckR_lt (x k : Nat) : ckR x k < 4294967296 := Nat.mod_lt _ (by omega)
theorem rot_inj {x y : Nat} (hx : x < 4294967296) (hy : y < 4294967296) (h : rot x 5 = rot y 5) : x = y := by
  rw [← rot_back x 5 27 rfl hx, ← rot_back y 5 27 rfl hy, h]
theorem mul_inj {x y : Nat} (hx : x < 4294967296) (hy : y < 4294967296) (h : x * 2654435769 % 4294967296 = y * 2654435769 % 4294967296) : x = y := by
  have e : ∀ z : Nat, z < 4294967296 → (z * 2654435769 % 4294967296) * 340573321 % 4294967296 = z := by
    intro z hz
    obtain ⟨q, hq⟩ : ∃ q, q = z * 2654435769 / 4294967296 := ⟨_, rfl⟩
    obtain ⟨r, hr⟩ : ∃ r, r = z * 2654435769 % 4294967296 := ⟨_, rfl⟩
    have h1 : z * 2654435769 = 4294967296 * q + r := by rw [hq, hr]; exact (Nat.div_add_mod _ _).symm
    rw [← hr]
    have h2 : r * 340573321 % 4294967296 = (z * 2654435769) * 340573321 % 4294967296 := by
      rw [h1, Nat.add_mul, Nat.mul_assoc, Nat.mul_add_mod]
    rw [h2, Nat.mul_assoc]
    have h3 : 2654435769 * 340573321 = 4294967296 * 210485888 + 1 := by decide
    rw [h3, Nat.mul_add, Nat.mul_one, Nat.mul_left_comm, Nat.mul_add_mod]
    exact Nat.mod_eq_of_lt hz
  rw [← e x hx, ← e y hy, h]
theorem ckR_inj {x y k : Nat} (hx : x < 4294967296) (hy : y < 4294967296) (h : ckR x k = ckR y k) : x = y := by
  unfold ckR at h
  have hk : k % 4294967296 < 2 ^ 32 := by omega
  have h1 := mul_inj (Nat.xor_lt_two_pow (n := 32) (rot_lt x 5 hx) hk) (Nat.xor_lt_two_pow (n := 32) (rot_lt y 5 hy) hk) h
  have h2 := congrArg (· ^^^ (k % 4294967296)) h1
  exact rot_inj hx hy (by simpa [Nat.xor_assoc, Nat.xor_self, Nat.xor_zero] using h2)
theorem ckL_inj : ∀ (n : Nat) {x y k : Nat}, x < 4294967296 → y < 4294967296 → ckL n x k = ckL n y k → x = y
  | 0, _, _, _, _, _, h => h
  | n + 1, _, _, _, hx, hy, h => ckR_inj hx hy (ckL_inj n (ckR_lt _ _) (ckR_lt _ _) h)
theorem ckL_lt : ∀ (n : Nat) {x k : Nat}, x < 4294967296 → ckL n x k < 4294967296
  | 0, _, _, h => h
  | n + 1, x, k, _ => ckL_lt n (ckR_lt x k)
end Go.Proofs.Ytdchgjniepdhfaa
