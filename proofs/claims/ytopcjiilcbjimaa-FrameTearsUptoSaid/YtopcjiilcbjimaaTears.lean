/- Records one behind the other of which the end is torn off: what Scan says of them, as plain arithmetic. It names nothing of the program. -/
import Derived.Test.YtopcjiilcbjimaaWalkBack
import Derived.Test.YtopcjiilcbjimaaWalkScan
namespace Go.Proofs.Ytopcjiilcbjimaa
open Go.RowKit
def flatF (xss : List (List Nat)) : List Nat := (xss.map frameL).flatten
theorem flatF_nil : flatF [] = [] := rfl
theorem flatF_cons (x : List Nat) (xss : List (List Nat)) : flatF (x :: xss) = frameL x ++ flatF xss := rfl
theorem flatF_app (a b : List (List Nat)) : flatF (a ++ b) = flatF a ++ flatF b := by unfold flatF; rw [List.map_append, List.flatten_append]
theorem flatF_one (x : List Nat) : flatF [x] = frameL x := by rw [flatF_cons, flatF_nil, List.append_nil]
def upto (xss : List (List Nat)) (k : Nat) : Nat := (flatF (xss.take k)).length
theorem upto_zero (xss : List (List Nat)) : upto xss 0 = 0 := rfl
theorem flatF_step (xss : List (List Nat)) (k : Nat) (h : k < xss.length) : flatF (xss.take (k + 1)) = flatF (xss.take k) ++ frameL (xss.getD k []) := by
  rw [List.take_succ_eq_append_getElem h, flatF_app, flatF_one]
  simp [h]
theorem upto_step (xss : List (List Nat)) (k : Nat) (h : k < xss.length) : upto xss (k + 1) = upto xss k + (8 + (xss.getD k []).length) := by
  unfold upto
  rw [flatF_step xss k h, List.length_append, frame_len]
theorem upto_all (xss : List (List Nat)) (k : Nat) (h : xss.length ≤ k) : upto xss k = (flatF xss).length := by
  unfold upto
  rw [List.take_of_length_le h]
theorem upto_mono (xss : List (List Nat)) (j : Nat) : ∀ k, j ≤ k → upto xss j ≤ upto xss k := by
  intro k
  induction k with
  | zero => intro h; have : j = 0 := by omega
            subst this; exact Nat.le_refl _
  | succ k ih =>
    intro h
    by_cases hj : j = k + 1
    · subst hj; exact Nat.le_refl _
    · refine Nat.le_trans (ih (by omega)) ?_
      by_cases hk : k < xss.length
      · rw [upto_step xss k hk]; omega
      · rw [upto_all xss k (by omega), upto_all xss (k + 1) (by omega)]; exact Nat.le_refl _
theorem upto_cons (x : List Nat) (xss : List (List Nat)) (k : Nat) : upto (x :: xss) (k + 1) = 8 + x.length + upto xss k := by
  unfold upto
  rw [List.take_succ_cons, flatF_cons, List.length_append, frame_len]
theorem dec_torn (x : List Nat) (k : Nat) (hx : x.length ≤ 1048576) (_h0 : 0 < k) (hk : k < 8 + x.length) : (decL ((frameL x).take k)).2.2 = 2 := by
  have hl : ((frameL x).take k).length = k := by rw [List.length_take, frame_len]; omega
  by_cases h8 : k < 8
  · unfold decL
    rw [if_pos (by rw [hl]; exact h8)]
  · have hv : val32 ((frameL x).take k) = x.length := by
      have e1 : frameL x = be32 x.length ++ (be32 (sumS (be32 x.length ++ x)) ++ x) := by unfold frameL; rw [List.append_assoc]
      have e2 : (frameL x).take k = be32 x.length ++ (be32 (sumS (be32 x.length ++ x)) ++ x).take (k - 4) := by
        rw [e1, List.take_append, be32_len, List.take_of_length_le (by rw [be32_len]; omega)]
      rw [e2]
      exact val32_be _ (by omega) _
    unfold decL
    rw [if_neg (by rw [hl]; omega), hv, if_neg (by omega), if_pos (by rw [hl]; omega)]
/-- Of records of which the end is torn off all those are told that are whole. -/
theorem scan_torn : ∀ (xss : List (List Nat)), (∀ x ∈ xss, x.length ≤ 1048576) → ∀ k, k ≤ (flatF xss).length →
    ∃ want, want ≤ xss.length ∧ upto xss want ≤ k ∧ (want < xss.length → k < upto xss (want + 1)) ∧
      (scanL ((flatF xss).take k)).1 = xss.take want ∧ (scanL ((flatF xss).take k)).2.1 = upto xss want ∧
      ((scanL ((flatF xss).take k)).2.2 = 0 ∧ upto xss want = k ∨ (scanL ((flatF xss).take k)).2.2 = 2 ∧ upto xss want < k) := by
  intro xss
  induction xss with
  | nil =>
    intro _ k hk
    have h0 : k = 0 := by simpa [flatF_nil] using hk
    subst h0
    have e := scan_end (b := (flatF []).take 0) rfl
    refine ⟨0, Nat.le_refl _, Nat.le_refl _, fun h => absurd h (by simp), ?_, ?_, .inl ⟨?_, rfl⟩⟩
    · rw [e]; rfl
    · rw [e]; rfl
    · rw [e]
  | cons x xss ih =>
    intro hx k hk
    have hx0 := hx x (by simp)
    rw [flatF_cons, List.length_append, frame_len] at hk
    by_cases hlt : k < 8 + x.length
    · have e1 : (flatF (x :: xss)).take k = (frameL x).take k := by rw [flatF_cons, List.take_append_of_le_length (by rw [frame_len]; omega)]
      have hu : upto (x :: xss) (0 + 1) = 8 + x.length := by rw [upto_cons, upto_zero]; omega
      by_cases h0 : k = 0
      · subst h0
        have e := scan_end (b := (flatF (x :: xss)).take 0) rfl
        refine ⟨0, Nat.zero_le _, Nat.le_refl _, fun _ => by rw [hu]; omega, ?_, ?_, .inl ⟨?_, rfl⟩⟩
        · rw [e]; rfl
        · rw [e]; rfl
        · rw [e]
      · have hd := dec_torn x k hx0 (by omega) hlt
        have hl : ((frameL x).take k).length ≠ 0 := by rw [List.length_take, frame_len]; omega
        have e := scan_bad hl (by rw [hd]; decide)
        rw [hd] at e
        rw [e1, e]
        exact ⟨0, Nat.zero_le _, Nat.zero_le _, fun _ => by rw [hu]; exact hlt, rfl, rfl, .inr ⟨rfl, by rw [upto_zero]; omega⟩⟩
    · obtain ⟨j, rfl⟩ : ∃ j, k = 8 + x.length + j := ⟨k - (8 + x.length), by omega⟩
      have e1 : (flatF (x :: xss)).take (8 + x.length + j) = frameL x ++ (flatF xss).take j := by
        rw [flatF_cons, List.take_append, frame_len, List.take_of_length_le (by rw [frame_len]; omega), Nat.add_sub_cancel_left]
      obtain ⟨want, g1, g2, g3, g4, g5, g6⟩ := ih (fun y hy => hx y (by simp [hy])) j (by omega)
      have hb := dec_back x ((flatF xss).take j) hx0
      have hl : (frameL x ++ (flatF xss).take j).length ≠ 0 := by rw [List.length_append, frame_len]; omega
      have hv : val32 (frameL x ++ (flatF xss).take j) = x.length := by
        have e2 : frameL x ++ (flatF xss).take j = be32 x.length ++ (be32 (sumS (be32 x.length ++ x)) ++ (x ++ (flatF xss).take j)) := by unfold frameL; simp
        rw [e2]
        exact val32_be _ (by omega) _
      obtain ⟨s1, s2, s3⟩ := scan_more3 hl (by rw [hb]) x (8 + x.length) (by rw [hb]) (by rw [hv])
      have hd : (frameL x ++ (flatF xss).take j).drop (8 + x.length) = (flatF xss).take j := List.drop_left' (frame_len x)
      rw [hd] at s1 s2 s3
      rw [e1]
      refine ⟨want + 1, by simp; omega, by rw [upto_cons]; omega, fun h => ?_, by rw [s1, g4, List.take_succ_cons], by rw [s2, g5, upto_cons], ?_⟩
      · rw [upto_cons]
        have := g3 (by simp at h; omega)
        omega
      · rw [s3, upto_cons]
        rcases g6 with ⟨a, b⟩ | ⟨a, b⟩
        · exact .inl ⟨a, by omega⟩
        · exact .inr ⟨a, by omega⟩
end Go.Proofs.Ytopcjiilcbjimaa
