/- A record of which one byte behind the length is changed is refused. It names nothing of the program but by its sums. -/
import Derived.Test.YtmledochidefeaaFramL
import Derived.Test.YtmledochidefeaaWrong
namespace Go.Proofs.Ytmledochidefeaa
open Go.RowKit
/-- One byte changed behind the length is refused. -/
theorem dec_wrong (p : List Nat) (hb : ∀ x ∈ p, x < 256) (hp : p.length ≤ 1048576) (i y : Nat) (hi : i < p.length + 4) (hy : y < 256) (hy0 : y ≠ 0) :
    (decL ((frameL p).set (4 + i) ((frameL p).getD (4 + i) 0 ^^^ y))).2.2 = 4 := by
  obtain ⟨n, hn⟩ : ∃ n, n = p.length := ⟨_, rfl⟩
  obtain ⟨t, ht⟩ : ∃ t, t = sumS (be32 n ++ p) := ⟨_, rfl⟩
  have htl : t < 4294967296 := by rw [ht]; exact sumS_lt _
  have ef : frameL p = be32 n ++ (be32 t ++ p) := by unfold frameL; rw [← hn, ← ht, List.append_assoc]
  by_cases h4 : i < 4
  · -- a byte of the sum
    have e1 : (frameL p).getD (4 + i) 0 = (be32 t).getD i 0 := by
      rw [ef]
      simp only [List.getD_eq_getElem?_getD]
      rw [List.getElem?_append_right (by rw [be32_len]; omega), be32_len, List.getElem?_append_left (by rw [be32_len]; omega)]
      congr 2
      omega
    have e2 : (frameL p).set (4 + i) ((frameL p).getD (4 + i) 0 ^^^ y) = be32 n ++ ((be32 t).set i ((be32 t).getD i 0 ^^^ y) ++ p) := by
      rw [e1, ef, List.set_append_right _ _ (by rw [be32_len]; omega), be32_len, Nat.add_sub_cancel_left, List.set_append_left _ _ (by rw [be32_len]; omega)]
    obtain ⟨q, hq⟩ : ∃ q, q = (be32 t).set i ((be32 t).getD i 0 ^^^ y) := ⟨_, rfl⟩
    have hql : q.length = 4 := by rw [hq, List.length_set, be32_len]
    have hb4 : ∀ x ∈ be32 t, x < 256 := be32_byte t
    have hqv : val32 q ≠ t := by
      have h0 := getD_lt hb4 0; have h1 := getD_lt hb4 1; have h2 := getD_lt hb4 2; have h3 := getD_lt hb4 3
      have hx : ∀ a, a < 256 → a ^^^ y < 256 := fun a ha => Nat.xor_lt_two_pow (n := 8) ha hy
      have hne : ∀ a, a ^^^ y ≠ a := fun a e => hy0 (xor_lc (a := a) (by rw [e, Nat.xor_zero]))
      have hv := val32_be t htl []
      rw [List.append_nil] at hv
      have hs : ∀ j, ((be32 t).set i ((be32 t).getD i 0 ^^^ y)).getD j 0 = if i = j then (be32 t).getD i 0 ^^^ y else (be32 t).getD j 0 := by
        intro j
        simp only [List.getD_eq_getElem?_getD, List.getElem?_set]
        by_cases hij : i = j
        · subst hij
          rw [if_pos rfl, if_pos (by rw [be32_len]; exact h4), if_pos rfl]
          rfl
        · rw [if_neg hij, if_neg hij]
      intro e
      rw [hq] at e
      unfold val32 at e hv
      rw [hs 0, hs 1, hs 2, hs 3] at e
      have c0 := hx _ h0; have c1 := hx _ h1; have c2 := hx _ h2; have c3 := hx _ h3
      have n0 := hne ((be32 t).getD 0 0); have n1 := hne ((be32 t).getD 1 0); have n2 := hne ((be32 t).getD 2 0); have n3 := hne ((be32 t).getD 3 0)
      have hi4 : i = 0 ∨ i = 1 ∨ i = 2 ∨ i = 3 := by omega
      rcases hi4 with rfl | rfl | rfl | rfl
      · rw [if_pos rfl, if_neg (by decide), if_neg (by decide), if_neg (by decide)] at e; omega
      · rw [if_neg (by decide), if_pos rfl, if_neg (by decide), if_neg (by decide)] at e; omega
      · rw [if_neg (by decide), if_neg (by decide), if_pos rfl, if_neg (by decide)] at e; omega
      · rw [if_neg (by decide), if_neg (by decide), if_neg (by decide), if_pos rfl] at e; omega
    rw [e2, ← hq]
    have hv : val32 (be32 n ++ (q ++ p)) = n := val32_be _ (by omega) _
    have h4d : (be32 n ++ (q ++ p)).drop 4 = q ++ p := List.drop_left' (be32_len _)
    have hT : (be32 n ++ (q ++ p)).take 4 = be32 n := List.take_left' (be32_len _)
    have h8 : (be32 n ++ (q ++ p)).drop 8 = p := by
      have : (be32 n ++ (q ++ p)).drop 8 = ((be32 n ++ (q ++ p)).drop 4).drop 4 := by rw [List.drop_drop]
      rw [this, h4d, List.drop_left' hql]
    have hqp : val32 (q ++ p) = val32 q := by
      unfold val32
      simp only [List.getD_eq_getElem?_getD]
      rw [List.getElem?_append_left (by omega), List.getElem?_append_left (by omega), List.getElem?_append_left (by omega), List.getElem?_append_left (by omega)]
    have hl : (be32 n ++ (q ++ p)).length = 8 + n := by rw [List.length_append, List.length_append, be32_len, hql, ← hn]; omega
    unfold decL
    rw [hv, h4d, hT, h8, hqp, List.take_of_length_le (by omega), if_neg (by omega), if_neg (by omega), if_neg (by omega), ← ht, if_pos hqv]
  · -- a byte of what it holds
    obtain ⟨k, rfl⟩ : ∃ k, i = 4 + k := ⟨i - 4, by omega⟩
    have e1 : (frameL p).getD (4 + (4 + k)) 0 = p.getD k 0 := by
      rw [ef]
      simp only [List.getD_eq_getElem?_getD]
      rw [List.getElem?_append_right (by rw [be32_len]; omega), be32_len, List.getElem?_append_right (by rw [be32_len]; omega), be32_len]
      congr 2
      omega
    have e2 : (frameL p).set (4 + (4 + k)) ((frameL p).getD (4 + (4 + k)) 0 ^^^ y) = be32 n ++ (be32 t ++ p.set k (p.getD k 0 ^^^ y)) := by
      rw [e1, ef, List.set_append_right _ _ (by rw [be32_len]; omega), be32_len, Nat.add_sub_cancel_left, List.set_append_right _ _ (by rw [be32_len]; omega), be32_len, Nat.add_sub_cancel_left]
    have hbn : ∀ x ∈ be32 n ++ p, x < 256 := byte_app (be32_byte n) hb
    have hw := sum_wrong hbn (4 + k) y (by rw [List.length_append, be32_len]; omega) hy hy0
    have e3 : (be32 n ++ p).getD (4 + k) 0 = p.getD k 0 := by
      simp only [List.getD_eq_getElem?_getD]
      rw [List.getElem?_append_right (by rw [be32_len]; omega), be32_len]
      congr 2
      omega
    rw [e3, List.set_append_right _ _ (by rw [be32_len]; omega), be32_len, Nat.add_sub_cancel_left, ← ht] at hw
    obtain ⟨q, hq⟩ : ∃ q, q = p.set k (p.getD k 0 ^^^ y) := ⟨_, rfl⟩
    rw [e2, ← hq]
    rw [← hq] at hw
    have hql : q.length = n := by rw [hq, List.length_set, hn]
    have hv : val32 (be32 n ++ (be32 t ++ q)) = n := val32_be _ (by omega) _
    have h4d : (be32 n ++ (be32 t ++ q)).drop 4 = be32 t ++ q := List.drop_left' (be32_len _)
    have hT : (be32 n ++ (be32 t ++ q)).take 4 = be32 n := List.take_left' (be32_len _)
    have h8 : (be32 n ++ (be32 t ++ q)).drop 8 = q := by
      have : (be32 n ++ (be32 t ++ q)).drop 8 = ((be32 n ++ (be32 t ++ q)).drop 4).drop 4 := by rw [List.drop_drop]
      rw [this, h4d, List.drop_left' (be32_len _)]
    have hl : (be32 n ++ (be32 t ++ q)).length = 8 + n := by rw [List.length_append, List.length_append, be32_len, be32_len, hql]; omega
    unfold decL
    rw [hv, h4d, hT, h8, val32_be t htl, List.take_of_length_le (by omega), if_neg (by omega), if_neg (by omega), if_neg (by omega), if_pos (fun e => hw e.symm)]
end Go.Proofs.Ytmledochidefeaa
