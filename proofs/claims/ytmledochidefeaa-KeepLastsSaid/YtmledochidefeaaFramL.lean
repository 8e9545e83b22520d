/- What records are, without a program: there and back. No condition but the widths. -/
import Derived.Test.YtmledochidefeaaFrame
import Derived.Test.YtmledochidefeaaDecode
namespace Go.Proofs.Ytmledochidefeaa
open Go.RowKit
theorem frame_len (p : List Nat) : (frameL p).length = 8 + p.length := by
  unfold frameL
  rw [List.length_append, List.length_append, be32_len, be32_len]
theorem frameL_byte {p : List Nat} (hp : ∀ x ∈ p, x < 256) : ∀ x ∈ frameL p, x < 256 := by
  unfold frameL
  exact byte_app (byte_app (be32_byte _) (be32_byte _)) hp
theorem dec_back (p more : List Nat) (hp : p.length ≤ 1048576) : decL (frameL p ++ more) = (p, 8 + p.length, 0) := by
  have e1 : frameL p ++ more = be32 p.length ++ (be32 (sumS (be32 p.length ++ p)) ++ (p ++ more)) := by unfold frameL; simp
  have hv : val32 (frameL p ++ more) = p.length := by rw [e1]; exact val32_be _ (by omega) _
  have h4 : (frameL p ++ more).drop 4 = be32 (sumS (be32 p.length ++ p)) ++ (p ++ more) := by rw [e1, List.drop_left' (be32_len _)]
  have h4v : val32 ((frameL p ++ more).drop 4) = sumS (be32 p.length ++ p) := by rw [h4]; exact val32_be _ (sumS_lt _) _
  have hT : (frameL p ++ more).take 4 = be32 p.length := by rw [e1, List.take_left' (be32_len _)]
  have h8 : (frameL p ++ more).drop 8 = p ++ more := by
    have : (frameL p ++ more).drop 8 = ((frameL p ++ more).drop 4).drop 4 := by rw [List.drop_drop]
    rw [this, h4, List.drop_left' (be32_len _)]
  have hl : (frameL p ++ more).length = 8 + p.length + more.length := by rw [List.length_append, frame_len]
  unfold decL
  rw [hv, h4v, hT, h8, List.take_left' rfl, if_neg (by omega), if_neg (by omega), if_neg (by omega), if_neg (by simp)]
theorem getD_lt {xs : List Nat} (h : ∀ x ∈ xs, x < 256) (i : Nat) : xs.getD i 0 < 256 := by
  by_cases hi : i < xs.length
  · have e : xs.getD i 0 = xs[i] := by simp [hi]
    rw [e]; exact h _ (List.getElem_mem hi)
  · have e : xs.getD i 0 = 0 := by simp; rw [List.getElem?_eq_none (by omega)]; rfl
    rw [e]; decide
theorem decL_len (b : List Nat) : (decL b).1.length ≤ b.length := by
  unfold decL
  split
  · simp
  · split
    · simp
    · split
      · simp
      · split
        · simp
        · simp only [List.length_take, List.length_drop]; omega
theorem decL_le (b : List Nat) : (decL b).2.1 ≤ b.length ∧ (decL b).2.2 ≤ 5 := by
  unfold decL
  split
  · simp
  · split
    · simp
    · split
      · simp
      · split
        · simp
        · constructor
          · show 8 + val32 b ≤ b.length; omega
          · show 0 ≤ 5; decide
theorem IsB.caps {w : World} {A : Option Addr} {n c : Nat} {xs : List Nat} (h : IsB w (.slice A n c) xs) : n ≤ c ∧ c ≤ 9223372036854775807 := by
  obtain ⟨_, _, e, _, _, h2, h3⟩ := h
  cases e
  exact ⟨h2, h3⟩
theorem be32_val {xs : List Nat} (hb : ∀ x ∈ xs, x < 256) (h4 : 4 ≤ xs.length) : be32 (val32 xs) = xs.take 4 := by
  match xs, h4, hb with
  | a :: b :: c :: d :: r, _, hb =>
    have ha := hb a (by simp); have h1 := hb b (by simp); have h2 := hb c (by simp); have h3 := hb d (by simp)
    unfold be32 val32
    simp
    omega
/-- What is read as a record was written as it. -/
theorem dec_inv {b p : List Nat} {n : Nat} (hb : ∀ x ∈ b, x < 256) (h : decL b = (p, n, 0)) : frameL p = b.take n ∧ n = 8 + p.length ∧ p.length ≤ 1048576 ∧ n ≤ b.length ∧ (∀ x ∈ p, x < 256) := by
  unfold decL at h
  by_cases h1 : b.length < 8
  · rw [if_pos h1] at h; simp at h
  · rw [if_neg h1] at h
    by_cases h2 : 1048576 < val32 b
    · rw [if_pos h2] at h; simp at h
    · rw [if_neg h2] at h
      by_cases h3 : b.length < 8 + val32 b
      · rw [if_pos h3] at h; simp at h
      · rw [if_neg h3] at h
        by_cases h4 : val32 (b.drop 4) ≠ sumS (b.take 4 ++ (b.drop 8).take (val32 b))
        · rw [if_pos h4] at h; simp at h
        · rw [if_neg h4] at h
          simp only [Prod.mk.injEq, and_true] at h
          obtain ⟨hp, hn⟩ := h
          have hpl : p.length = val32 b := by rw [← hp, List.length_take, List.length_drop]; omega
          have h4' : val32 (b.drop 4) = sumS (b.take 4 ++ p) := by rw [← hp]; exact Decidable.not_not.1 h4
          have e1 : be32 p.length = b.take 4 := by rw [hpl]; exact be32_val hb (by omega)
          have e2 : be32 (sumS (b.take 4 ++ p)) = (b.drop 4).take 4 := by rw [← h4']; exact be32_val (fun x hx => hb x (List.mem_of_mem_drop hx)) (by rw [List.length_drop]; omega)
          refine ⟨?_, by omega, by omega, by omega, fun x hx => hb x (List.mem_of_mem_drop (List.mem_of_mem_take (by rw [hp]; exact hx)))⟩
          unfold frameL
          rw [e1, e2, ← hp, ← hn]
          have e3 : 8 + val32 b = 4 + (4 + val32 b) := by omega
          rw [e3, List.take_add, List.take_add, List.drop_drop, List.append_assoc]
end Go.Proofs.Ytmledochidefeaa
