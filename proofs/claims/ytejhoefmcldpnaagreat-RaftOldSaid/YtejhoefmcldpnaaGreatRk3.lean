/- Plain arithmetic for the laws of bits: digits that are counted and turned. It names nothing of the program. -/
import Derived.Test.YtejhoefmcldpnaaGreatRows
import Derived.WalkKit
import Derived.Laws.Bits64b
import Derived.Laws.BitsAllLaws
namespace Go.Proofs.YtejhoefmcldpnaaGreat
open Go.RowKit
theorem hide {p : Prop} (h : p) : Hid p := h
theorem ret_int {k : IntKind} {a b : Int} (h : a = b) : Ending.returned (.int k a) = .returned (.int k b) := by rw [h]
theorem ret_bool {a b : Bool} (h : a = b) : Ending.returned (.bool a) = .returned (.bool b) := by rw [h]

/-! ### digits that are 1 -/
def pc (v : Nat) : Nat := if h : v = 0 then 0 else v % 2 + pc (v / 2)
theorem pc_zero : pc 0 = 0 := by rw [pc]; simp
theorem pc_step (v : Nat) : pc v = v % 2 + pc (v / 2) := by
  by_cases h : v = 0
  · subst h; simp [pc_zero]
  · rw [pc, dif_neg h]
theorem pc_le (k : Nat) : ∀ v : Nat, v < 2 ^ k → pc v ≤ k := by
  induction k with
  | zero => intro v h; have : v = 0 := by simpa using h
            subst this; simp [pc_zero]
  | succ k ih =>
    intro v h
    rw [pc_step]
    have := ih (v / 2) (by rw [Nat.pow_succ] at h; omega)
    omega
theorem pc_join (k : Nat) : ∀ a b : Nat, b < 2 ^ k → pc (a * 2 ^ k + b) = pc a + pc b := by
  induction k with
  | zero => intro a b h; have : b = 0 := by simpa using h
            subst this; simp [pc_zero]
  | succ k ih =>
    intro a b h
    rw [Nat.pow_succ] at h
    have e : a * 2 ^ (k + 1) = 2 * (a * 2 ^ k) := by rw [Nat.pow_succ]; rw [← Nat.mul_assoc, Nat.mul_comm]
    rw [pc_step, pc_step b]
    have h1 : (a * 2 ^ (k + 1) + b) % 2 = b % 2 := by omega
    have h2 : (a * 2 ^ (k + 1) + b) / 2 = a * 2 ^ k + b / 2 := by omega
    rw [h1, h2, ih a (b / 2) (by omega)]
    omega
theorem pc_split (j v : Nat) : pc v = pc (v / 2 ^ j) + pc (v % 2 ^ j) := by
  rw [← pc_join j _ _ (Nat.mod_lt _ (Nat.two_pow_pos j))]
  congr 1
  rw [Nat.mul_comm]; exact (Nat.div_add_mod v (2 ^ j)).symm

/-! ### digits that are turned -/
def rot (v k : Nat) : Nat := v * 2 ^ k % 4294967296 ||| v / 2 ^ (32 - k)
theorem mul_pow_mod (v k j : Nat) (h : k + j = 32) : v * 2 ^ k % 4294967296 = v % 2 ^ j * 2 ^ k := by
  have : 4294967296 = 2 ^ j * 2 ^ k := by rw [← Nat.pow_add, Nat.add_comm, h]
  rw [this, Nat.mul_mod_mul_right]
theorem div_pow_lt (v k j : Nat) (h : k + j = 32) (hv : v < 4294967296) : v / 2 ^ j < 2 ^ k := by
  have : 4294967296 = 2 ^ j * 2 ^ k := by rw [← Nat.pow_add, Nat.add_comm, h]
  exact Nat.div_lt_of_lt_mul (by rw [← this]; exact hv)
theorem rot_sum (v k j : Nat) (h : k + j = 32) (hv : v < 4294967296) : rot v k = v % 2 ^ j * 2 ^ k + v / 2 ^ j := by
  unfold rot
  have e : 32 - k = j := by omega
  rw [e, mul_pow_mod v k j h]
  exact nat_join k _ _ (Nat.mul_mod_left _ _) (div_pow_lt v k j h hv)
theorem rot_lt (v k : Nat) (hv : v < 4294967296) : rot v k < 4294967296 := by
  unfold rot
  exact Nat.or_lt_two_pow (n := 32) (Nat.mod_lt _ (by decide)) (Nat.lt_of_le_of_lt (Nat.div_le_self _ _) hv)
theorem pc_rot (v k : Nat) (hk : k ≤ 32) (hv : v < 4294967296) : pc (rot v k) = pc v := by
  have h : k + (32 - k) = 32 := by omega
  rw [rot_sum v k (32 - k) h hv, pc_join k _ _ (div_pow_lt v k _ h hv), pc_split (32 - k) v, Nat.add_comm]
theorem rot_zero (v : Nat) (hv : v < 4294967296) : rot v 0 = v := by
  rw [rot_sum v 0 32 rfl hv]
  simp only [Nat.pow_zero, Nat.mul_one]
  have e : (2 : Nat) ^ 32 = 4294967296 := by decide
  rw [e]
  omega
theorem rot_back (v k j : Nat) (h : k + j = 32) (hv : v < 4294967296) : rot (rot v k) j = v := by
  have hl := div_pow_lt v k j h hv
  rw [rot_sum (rot v k) j k (by omega) (rot_lt v k hv), rot_sum v k j h hv]
  have h1 : (v % 2 ^ j * 2 ^ k + v / 2 ^ j) % 2 ^ k = v / 2 ^ j := by
    rw [Nat.add_comm, Nat.add_mul_mod_self_right]; exact Nat.mod_eq_of_lt hl
  have h2 : (v % 2 ^ j * 2 ^ k + v / 2 ^ j) / 2 ^ k = v % 2 ^ j := by
    rw [Nat.add_comm, Nat.add_mul_div_right _ _ (Nat.two_pow_pos k), Nat.div_eq_of_lt hl, Nat.zero_add]
  rw [h1, h2, Nat.mul_comm]
  exact Nat.div_add_mod v (2 ^ j)
theorem rot_walk (v k : Nat) (hv : v < 4294967296) : bits .or .u32 ((v : Int) * 2 ^ k % 4294967296) ((v : Int) / 2 ^ (32 - k)) = ((rot v k : Nat) : Int) := by
  unfold rot
  have h1 : ((v : Int) * 2 ^ k % 4294967296) = ((v * 2 ^ k % 4294967296 : Nat) : Int) := by simp
  have h2 : ((v : Int) / 2 ^ (32 - k)) = ((v / 2 ^ (32 - k) : Nat) : Int) := by simp
  rw [h1, h2, u32_or_nat _ _ (Nat.mod_lt _ (by decide)) (Nat.lt_of_le_of_lt (Nat.div_le_self _ _) hv)]
def turnBy (n : Int) : Nat := (n % 32).toNat
theorem turnBy_lt (n : Int) : turnBy n < 32 := by unfold turnBy; omega
theorem turn_mask (n : Int) : bits .and .u64 (IntKind.u64.wrap n) 31 = ((turnBy n : Nat) : Int) := by
  rw [IntKind.wrap_u64]
  rw [u64_and _ _ (by omega) (by omega) (by decide) (by decide)]
  have : (31 : Int).toNat = 31 := rfl
  rw [this, nat_mask5]
  unfold turnBy
  omega
theorem tmod_cases (n m : Int) : (0 ≤ n ∧ n.tmod m = n % m) ∨ (n < 0 ∧ n.tmod m = -((-n) % m)) := by
  rcases Int.lt_or_le n 0 with h | h
  · right
    refine ⟨h, ?_⟩
    have e : n = -(-n) := by omega
    rw [e, Int.neg_tmod, Int.neg_neg, Int.tmod_eq_emod_of_nonneg (by omega)]
  · left
    exact ⟨h, Int.tmod_eq_emod_of_nonneg h⟩
theorem turn_neg (n : Int) (h : n.tmod 32 < 0) : (turnBy n : Int) = n.tmod 32 + 32 := by
  unfold turnBy
  rcases tmod_cases n 32 with ⟨_, e⟩ | ⟨_, e⟩ <;> rw [e] at h ⊢ <;> omega
theorem turn_pos (n : Int) (h : ¬ n.tmod 32 < 0) : (turnBy n : Int) = n.tmod 32 := by
  unfold turnBy
  rcases tmod_cases n 32 with ⟨_, e⟩ | ⟨_, e⟩ <;> rw [e] at h ⊢ <;> omega
/-- Turned by n and then by -n, a number is what it was. -/
theorem rot_there_back (v : Nat) (n : Int) (hv : v < 4294967296) : rot (rot v (turnBy n)) (turnBy (-n)) = v := by
  by_cases h : turnBy n = 0
  · have h2 : turnBy (-n) = 0 := by unfold turnBy at *; omega
    rw [h, h2, rot_zero v hv, rot_zero v hv]
  · exact rot_back v _ _ (by unfold turnBy at *; omega) hv
end Go.Proofs.YtejhoefmcldpnaaGreat
