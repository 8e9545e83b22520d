/- What the documents' rows of bytes are, without a program: numbers of seven digits and records, there and back. No condition but the widths. -/
import Derived.Test.YtjchpnmipmplkaaRead
import Derived.Test.YtjchpnmipmplkaaFrame
import Derived.Test.YtjchpnmipmplkaaDecode
namespace Go.Proofs.Ytjchpnmipmplkaa
open Go.RowKit
theorem rvl_le : ∀ (xs : List Nat) (k v : Nat), k ≤ 9 → v < 2 ^ (7 * k) → (rvl k v xs).1 < 18446744073709551616 ∧ (rvl k v xs).2.1 ≤ 10 ∧ (rvl k v xs).2.2 ≤ 3 := by
  intro xs
  induction xs with
  | nil => intro k v _ _; rw [rvl_nil]; decide
  | cons c cs ih =>
    intro k v hk hv
    by_cases h1 : k = 9 ∧ 1 < c
    · rw [rvl_last h1.1 h1.2]; decide
    · by_cases h2 : 128 ≤ c
      · rw [rvl_more (by omega) h2]
        exact ih (k + 1) _ (by omega) (step_lt hv)
      · by_cases h0 : c = 0 ∧ 0 < k
        · rw [rvl_zero h0.1 h0.2]; decide
        · rw [rvl_end h1 (by omega) h0]
          have h3 := sh_lt (c := c) hk (by omega)
          have h4 := v_lt hk hv
          refine ⟨?_, ?_, ?_⟩
          · show v + c % 128 * 2 ^ (7 * k) < _
            by_cases h9 : k = 9
            · subst h9
              have hc : c % 128 ≤ 1 := by omega
              have h5 : c % 128 * 2 ^ (7 * 9) ≤ 1 * 2 ^ (7 * 9) := Nat.mul_le_mul_right _ hc
              have e : 1 * 2 ^ (7 * 9) = 9223372036854775808 := by decide
              omega
            · have h5 := step_lt (c := c) hv
              have h6 : 2 ^ (7 * (k + 1)) ≤ 2 ^ 63 := Nat.pow_le_pow_right (by decide) (by omega)
              have e : (2 : Nat) ^ 63 = 9223372036854775808 := by decide
              omega
          · show k + 1 ≤ 10; omega
          · show 0 ≤ 3; decide
theorem rvl_uvl (more : List Nat) : ∀ (v k a : Nat), k ≤ 9 → v * 2 ^ (7 * k) < 18446744073709551616 → (k = 0 ∨ v ≠ 0) → rvl k a (uvl v ++ more) = (a + v * 2 ^ (7 * k), k + (uvl v).length, 0) := by
  intro v
  induction v using Nat.strongRecOn with
  | _ v ih =>
    intro k a hk hv h0
    have h9 : k = 9 → v < 2 := by
      intro e
      subst e
      have e2 : (2 : Nat) ^ (7 * 9) = 9223372036854775808 := by decide
      rw [e2] at hv
      omega
    by_cases hl : v < 128
    · rw [uvl_low hl, List.cons_append, List.nil_append, rvl_end (by omega) hl (by omega), Nat.mod_eq_of_lt hl]
      rfl
    · rw [uvl_high hl, List.cons_append, rvl_more (by omega) (by omega)]
      have e1 : (v % 128 + 128) % 128 = v % 128 := by omega
      have e2 : 2 ^ (7 * (k + 1)) = 128 * 2 ^ (7 * k) := by rw [show 7 * (k + 1) = 7 * k + 7 from by omega, Nat.pow_add, Nat.mul_comm]
      have e3 : v / 128 * 2 ^ (7 * (k + 1)) + v % 128 * 2 ^ (7 * k) = v * 2 ^ (7 * k) := by
        rw [e2, ← Nat.mul_assoc, ← Nat.add_mul]
        congr 1
        omega
      rw [e1, ih (v / 128) (by omega) (k + 1) _ (by omega) (by omega) (by omega)]
      simp only [List.length_cons, Prod.mk.injEq, and_true]
      omega
theorem frame_len (p : List Nat) : (frameL p).length = 8 + p.length := by
  unfold frameL
  rw [List.length_append, List.length_append, be32_len, be32_len]
theorem frameL_byte {p : List Nat} (hp : ∀ x ∈ p, x < 256) : ∀ x ∈ frameL p, x < 256 := by
  unfold frameL
  exact byte_app (byte_app (be32_byte _) (be32_byte _)) hp
theorem dec_back (p more : List Nat) (hp : p.length ≤ 1048576) : decL (frameL p ++ more) = (p, 8 + p.length, 0) := by
  have e1 : frameL p ++ more = be32 p.length ++ (be32 (sumS (be32 p.length ++ p)) ++ (p ++ more)) := by unfold frameL; simp
  have hv : val32 (frameL p ++ more) = p.length := by rw [e1]; exact val32_be _ (by omega) _
  have h4 : (frameL p ++ more).drop 4 = be32 (sumS (be32 p.length ++ p)) ++ (p ++ more) := by rw [e1, List.drop_left' (be32_len _)]
  have h4v : val32 ((frameL p ++ more).drop 4) = sumS (be32 p.length ++ p) := by rw [h4]; exact val32_be _ (sumS_lt _) _
  have hT : (frameL p ++ more).take 4 = be32 p.length := by rw [e1, List.take_left' (be32_len _)]
  have h8 : (frameL p ++ more).drop 8 = p ++ more := by
    have : (frameL p ++ more).drop 8 = ((frameL p ++ more).drop 4).drop 4 := by rw [List.drop_drop]
    rw [this, h4, List.drop_left' (be32_len _)]
  have hl : (frameL p ++ more).length = 8 + p.length + more.length := by rw [List.length_append, frame_len]
  unfold decL
  rw [hv, h4v, hT, h8, List.take_left' rfl, if_neg (by omega), if_neg (by omega), if_neg (by omega), if_neg (by simp)]
theorem getD_lt {xs : List Nat} (h : ∀ x ∈ xs, x < 256) (i : Nat) : xs.getD i 0 < 256 := by
  by_cases hi : i < xs.length
  · have e : xs.getD i 0 = xs[i] := by simp [hi]
    rw [e]; exact h _ (List.getElem_mem hi)
  · have e : xs.getD i 0 = 0 := by simp; rw [List.getElem?_eq_none (by omega)]; rfl
    rw [e]; decide
theorem decL_len (b : List Nat) : (decL b).1.length ≤ b.length := by
  unfold decL
  split
  · simp
  · split
    · simp
    · split
      · simp
      · split
        · simp
        · simp only [List.length_take, List.length_drop]; omega
theorem decL_le (b : List Nat) : (decL b).2.1 ≤ b.length ∧ (decL b).2.2 ≤ 5 := by
  unfold decL
  split
  · simp
  · split
    · simp
    · split
      · simp
      · split
        · simp
        · constructor
          · show 8 + val32 b ≤ b.length; omega
          · show 0 ≤ 5; decide
theorem IsB.caps {w : World} {A : Option Addr} {n c : Nat} {xs : List Nat} (h : IsB w (.slice A n c) xs) : n ≤ c ∧ c ≤ 9223372036854775807 := by
  obtain ⟨_, _, e, _, _, h2, h3⟩ := h
  cases e
  exact ⟨h2, h3⟩
/-- What is read as a number was written as it. -/
theorem rvl_inv : ∀ (xs : List Nat) (k a v m : Nat), (∀ x ∈ xs, x < 256) → k ≤ 9 → rvl k a xs = (v, m, 0) → ∃ u, v = a + u * 2 ^ (7 * k) ∧ (k = 0 ∨ u ≠ 0) ∧ xs = uvl u ++ xs.drop (m - k) ∧ m = k + (uvl u).length := by
  intro xs
  induction xs with
  | nil => intro k a v m _ _ h; rw [rvl_nil] at h; simp at h
  | cons c cs ih =>
    intro k a v m hb hk h
    have hc : c < 256 := hb c (by simp)
    by_cases h1 : k = 9 ∧ 1 < c
    · rw [rvl_last h1.1 h1.2] at h; simp at h
    · by_cases h2 : 128 ≤ c
      · rw [rvl_more (by omega) h2] at h
        obtain ⟨u, hv, hu, hx, hm⟩ := ih (k + 1) _ v m (fun x hx => hb x (List.mem_cons_of_mem _ hx)) (by omega) h
        have hu0 : u ≠ 0 := by omega
        have eu : uvl (c % 128 + 128 * u) = c :: uvl u := by
          rw [uvl_high (by omega)]
          have e1 : (c % 128 + 128 * u) % 128 + 128 = c := by omega
          have e2 : (c % 128 + 128 * u) / 128 = u := by omega
          rw [e1, e2]
        have e2 : 2 ^ (7 * (k + 1)) = 128 * 2 ^ (7 * k) := by rw [show 7 * (k + 1) = 7 * k + 7 from by omega, Nat.pow_add, Nat.mul_comm]
        refine ⟨c % 128 + 128 * u, ?_, Or.inr (by omega), ?_, ?_⟩
        · rw [hv, e2, Nat.add_mul, Nat.mul_comm 128 u, Nat.mul_assoc u 128, Nat.add_assoc]
        · rw [eu, List.cons_append]
          congr 1
          rw [hx]
          have e3 : m - k = (m - (k + 1)) + 1 := by omega
          rw [e3, ← hx, List.drop_succ_cons]
          exact hx
        · rw [eu, List.length_cons, hm]; omega
      · by_cases h0 : c = 0 ∧ 0 < k
        · rw [rvl_zero h0.1 h0.2] at h; simp at h
        · rw [rvl_end h1 (by omega) h0] at h
          simp only [Prod.mk.injEq, and_true] at h
          obtain ⟨rfl, rfl⟩ := h
          have hcm : c % 128 = c := Nat.mod_eq_of_lt (by omega)
          refine ⟨c, by rw [hcm], by omega, ?_, ?_⟩
          · rw [uvl_low (by omega)]
            have e : k + 1 - k = 1 := by omega
            rw [e]; rfl
          · rw [uvl_low (by omega)]; rfl
theorem be32_val {xs : List Nat} (hb : ∀ x ∈ xs, x < 256) (h4 : 4 ≤ xs.length) : be32 (val32 xs) = xs.take 4 := by
  match xs, h4, hb with
  | a :: b :: c :: d :: r, _, hb =>
    have ha := hb a (by simp); have h1 := hb b (by simp); have h2 := hb c (by simp); have h3 := hb d (by simp)
    unfold be32 val32
    simp
    omega
/-- What is read as a record was written as it. -/
theorem dec_inv {b p : List Nat} {n : Nat} (hb : ∀ x ∈ b, x < 256) (h : decL b = (p, n, 0)) : frameL p = b.take n ∧ n = 8 + p.length ∧ p.length ≤ 1048576 ∧ n ≤ b.length ∧ (∀ x ∈ p, x < 256) := by
  unfold decL at h
  by_cases h1 : b.length < 8
  · rw [if_pos h1] at h; simp at h
  · rw [if_neg h1] at h
    by_cases h2 : 1048576 < val32 b
    · rw [if_pos h2] at h; simp at h
    · rw [if_neg h2] at h
      by_cases h3 : b.length < 8 + val32 b
      · rw [if_pos h3] at h; simp at h
      · rw [if_neg h3] at h
        by_cases h4 : val32 (b.drop 4) ≠ sumS (b.take 4 ++ (b.drop 8).take (val32 b))
        · rw [if_pos h4] at h; simp at h
        · rw [if_neg h4] at h
          simp only [Prod.mk.injEq, and_true] at h
          obtain ⟨hp, hn⟩ := h
          have hpl : p.length = val32 b := by rw [← hp, List.length_take, List.length_drop]; omega
          have h4' : val32 (b.drop 4) = sumS (b.take 4 ++ p) := by rw [← hp]; exact Decidable.not_not.1 h4
          have e1 : be32 p.length = b.take 4 := by rw [hpl]; exact be32_val hb (by omega)
          have e2 : be32 (sumS (b.take 4 ++ p)) = (b.drop 4).take 4 := by rw [← h4']; exact be32_val (fun x hx => hb x (List.mem_of_mem_drop hx)) (by rw [List.length_drop]; omega)
          refine ⟨?_, by omega, by omega, by omega, fun x hx => hb x (List.mem_of_mem_drop (List.mem_of_mem_take (by rw [hp]; exact hx)))⟩
          unfold frameL
          rw [e1, e2, ← hp, ← hn]
          have e3 : 8 + val32 b = 4 + (4 + val32 b) := by omega
          rw [e3, List.take_add, List.take_add, List.drop_drop, List.append_assoc]
end Go.Proofs.Ytjchpnmipmplkaa
