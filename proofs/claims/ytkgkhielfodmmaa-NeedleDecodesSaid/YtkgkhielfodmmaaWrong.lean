/- One byte turned into another one changes the sum. No conditions but the widths. -/
import Derived.Test.YtkgkhielfodmmaaSum
import Derived.Test.YtkgkhielfodmmaaOwnAt
namespace Go.Proofs.Ytkgkhielfodmmaa
open Go.RowKit
theorem xor_rc {a b c : Nat} (h : a ^^^ c = b ^^^ c) : a = b := by
  have h1 : (a ^^^ c) ^^^ c = (b ^^^ c) ^^^ c := by rw [h]
  rwa [Nat.xor_assoc, Nat.xor_assoc, Nat.xor_self, Nat.xor_zero, Nat.xor_zero] at h1
theorem xor_lc {a b c : Nat} (h : a ^^^ b = a ^^^ c) : b = c := by
  rw [Nat.xor_comm a b, Nat.xor_comm a c] at h
  exact xor_rc h
theorem crcStep_inj {s t : Nat} (hs : s < 4294967296) (ht : t < 4294967296) (h : crcStep s = crcStep t) : s = t := by
  have top : ∀ a b : Nat, a < 4294967296 → b < 4294967296 → a / 2 ^^^ 3988292384 ≠ b / 2 := by
    intro a b ha hb e
    have h1 := congrArg (Nat.testBit · 31) e
    simp only [Nat.testBit_xor] at h1
    have e1 : (a / 2).testBit 31 = false := Nat.testBit_lt_two_pow (by omega)
    have e2 : (b / 2).testBit 31 = false := Nat.testBit_lt_two_pow (by omega)
    have e3 : Nat.testBit 3988292384 31 = true := by decide +kernel
    rw [e1, e2, e3] at h1
    cases h1
  unfold crcStep at h
  split at h <;> split at h
  · have : s / 2 = t / 2 := xor_rc h
    omega
  · exact absurd h (top s t hs ht)
  · exact absurd h.symm (top t s ht hs)
  · omega
theorem crcB_inj {s t : Nat} (hs : s < 4294967296) (ht : t < 4294967296) : ∀ k, crcB s k = crcB t k → s = t
  | 0, h => h
  | k + 1, h => crcB_inj hs ht k (crcStep_inj (crcB_lt hs k) (crcB_lt ht k) h)
theorem crcF_inj {xs : List Nat} (hx : ∀ x ∈ xs, x < 256) : ∀ {s t : Nat}, s < 4294967296 → t < 4294967296 → crcF s xs = crcF t xs → s = t := by
  induction xs with
  | nil => intro s t _ _ h; exact h
  | cons x xs ih =>
    intro s t hs ht h
    have hx0 : x < 4294967296 := by have := hx x (by simp); omega
    have h2 := ih (fun y hy => hx y (by simp [hy])) (crcB_lt (xor_lt32 hs hx0) 8) (crcB_lt (xor_lt32 ht hx0) 8) h
    exact xor_rc (crcB_inj (xor_lt32 hs hx0) (xor_lt32 ht hx0) 8 h2)
theorem sum_wrong {xs : List Nat} (hx : ∀ x ∈ xs, x < 256) (k y : Nat) (hk : k < xs.length) (hy : y < 256) (hy0 : y ≠ 0) : sumS (xs.set k (xs.getD k 0 ^^^ y)) ≠ sumS xs := by
  intro h
  have hx0 : xs.getD k 0 < 256 := by
    have e : xs.getD k 0 = xs[k] := by simp [hk]
    rw [e]; exact hx _ (List.getElem_mem hk)
  have hxy : xs.getD k 0 ^^^ y < 256 := Nat.xor_lt_two_pow (n := 8) hx0 hy
  have hset : ∀ x ∈ xs.set k (xs.getD k 0 ^^^ y), x < 256 := by
    intro z hz
    rcases List.mem_or_eq_of_mem_set hz with h | h
    · exact hx z h
    · rw [h]; exact hxy
  have l1 := crcF_lt (s := 4294967295) (by decide) hset
  have l2 := crcF_lt (s := 4294967295) (by decide) hx
  have e : crcF 4294967295 (xs.set k (xs.getD k 0 ^^^ y)) = crcF 4294967295 xs := by
    unfold sumS at h
    omega
  have d1 : xs.set k (xs.getD k 0 ^^^ y) = xs.take k ++ (xs.getD k 0 ^^^ y) :: xs.drop (k + 1) := List.set_eq_take_append_cons_drop.trans (if_pos hk)
  have d2 : xs = xs.take k ++ xs.getD k 0 :: xs.drop (k + 1) := by
    have e : xs.getD k 0 = xs[k] := by simp [hk]
    rw [e, List.getElem_cons_drop, List.take_append_drop]
  rw [d1] at e
  have e2 : crcF 4294967295 (xs.take k ++ (xs.getD k 0 ^^^ y) :: xs.drop (k + 1)) = crcF 4294967295 (xs.take k ++ xs.getD k 0 :: xs.drop (k + 1)) := by rw [e, ← d2]
  unfold crcF at e2
  rw [List.foldl_append, List.foldl_append, List.foldl_cons, List.foldl_cons] at e2
  have ls := crcF_lt (s := 4294967295) (by decide) (xs := xs.take k) (fun x hx' => hx x (List.mem_of_mem_take hx'))
  have a1 := xor_lt32 ls (show xs.getD k 0 ^^^ y < 4294967296 by omega)
  have a2 := xor_lt32 ls (show xs.getD k 0 < 4294967296 by omega)
  have e3 := crcF_inj (xs := xs.drop (k + 1)) (fun x hx' => hx x (List.mem_of_mem_drop hx')) (crcB_lt a1 8) (crcB_lt a2 8) e2
  have e4 := crcB_inj a1 a2 8 e3
  have e5 : xs.getD k 0 ^^^ y = xs.getD k 0 := xor_lc e4
  have e6 : xs.getD k 0 ^^^ y = xs.getD k 0 ^^^ 0 := by rw [e5, Nat.xor_zero]
  exact hy0 (xor_lc e6)
theorem place (n : Int) (len : Nat) (h : 1 ≤ len) : ∃ k : Nat, k < len ∧ (n.tmod (len : Int) = (k : Int) ∨ n.tmod (len : Int) = (k : Int) - (len : Int)) := by
  rcases tmod_cases n (len : Int) with ⟨_, e⟩ | ⟨_, e⟩
  · have h1 := Int.emod_nonneg n (b := (len : Int)) (by omega)
    have h2 := Int.emod_lt_of_pos n (b := (len : Int)) (by omega)
    exact ⟨(n % (len : Int)).toNat, by omega, .inl (by rw [e]; omega)⟩
  · have h1 := Int.emod_nonneg (-n) (b := (len : Int)) (by omega)
    have h2 := Int.emod_lt_of_pos (-n) (b := (len : Int)) (by omega)
    by_cases h0 : -n % (len : Int) = 0
    · exact ⟨0, by omega, .inl (by rw [e, h0]; rfl)⟩
    · exact ⟨((len : Int) - -n % (len : Int)).toNat, by omega, .inr (by rw [e]; omega)⟩
end Go.Proofs.Ytkgkhielfodmmaa
