/- Saves and loads on a disk with one file, as lists; a byte that rots. No condition but the widths. -/
import Derived.Test.YtmledochidefeaaK20
import Derived.Test.YtmledochidefeaaK21
import Derived.Test.YtmledochidefeaaK6
namespace Go.Proofs.Ytmledochidefeaa
open Go.RowKit Go.Maps
theorem tilde_ok {k : Str} (hk : 1 ≤ k.length ∧ k.length ≤ 63) : 1 ≤ (tildeL k).length ∧ (tildeL k).length ≤ 64 := by
  rw [tilde_len]
  omega
theorem draft_fit {room : Nat} {k : Str} {p : List Nat} {L : DiskL} (hk : 1 ≤ k.length ∧ k.length ≤ 63) (hl : (delK (tildeL k) L).length < 256) (hu : usedL (delK (tildeL k) L) + (8 + p.length) ≤ room) : (draftL room k p L).2 = 0 := by
  unfold draftL appL
  rw [remL_one, if_neg (fun h => h (tilde_ok hk)), if_neg]
  rw [frame_len]
  rintro (⟨_, h⟩ | h) <;> omega
theorem draft_full {room : Nat} {k : Str} {p : List Nat} {L : DiskL} (hk : 1 ≤ k.length ∧ k.length ≤ 63) (hu : room < usedL (delK (tildeL k) L) + (8 + p.length)) : (draftL room k p L).2 = 6 := by
  unfold draftL appL
  rw [remL_one, if_neg (fun h => h (tilde_ok hk)), if_pos (.inr (by rw [frame_len]; exact hu))]
theorem del_other_one {k t : Str} (h : k ≠ t) (a : List Nat × Nat) : delK t [(k, a)] = [(k, a)] := by
  unfold delK
  simp [h]
section
variable {room : Nat} {k : Str} {p : List Nat} (hk : 1 ≤ k.length ∧ k.length ≤ 63) (hp : p.length ≤ 1048576)
include hk hp
theorem save_new (h : 8 + p.length ≤ room) : saveL room k p [] = ([(k, (frameL p, 8 + p.length))], 0) := by
  have hr : Rise ([] : DiskL) := List.Pairwise.nil
  have hd : (draftL room k p []).2 = 0 := draft_fit hk (by show 0 < 256; omega) (by show 0 + _ ≤ _; omega)
  rw [saved hr hk hp hd, frame_len]
  rfl
theorem save_new_full (h : room < 8 + p.length) : saveL room k p [] = ([], 6) := by
  have hd : (draftL room k p []).2 = 6 := draft_full hk (by show _ < 0 + _; omega)
  rw [refused hk hp (by rw [hd]; decide), hd]
  rfl
theorem save_over (b : List Nat) (l : Nat) (h : b.length + (8 + p.length) ≤ room) : saveL room k p [(k, (b, l))] = ([(k, (frameL p, 8 + p.length))], 0) := by
  have hr : Rise [(k, (b, l))] := List.pairwise_singleton _ _
  have hd : (draftL room k p [(k, (b, l))]).2 = 0 := draft_fit hk (by rw [del_other_one (tilde_ne k)]; show 1 < 256; omega) (by rw [del_other_one (tilde_ne k), usedL_one]; exact h)
  rw [saved hr hk hp hd, frame_len, del_other_one (tilde_ne k), putK_one]
theorem save_stay (b : List Nat) (l : Nat) (h : room < b.length + (8 + p.length)) : saveL room k p [(k, (b, l))] = ([(k, (b, l))], 6) := by
  have hd : (draftL room k p [(k, (b, l))]).2 = 6 := draft_full hk (by rw [del_other_one (tilde_ne k), usedL_one]; exact h)
  rw [refused hk hp (by rw [hd]; decide), hd, del_other_one (tilde_ne k)]
end
theorem load_nil (k : Str) : loadL k [] = ([], 7) := loadL_none rfl
theorem load_one {k : Str} {p : List Nat} (l : Nat) (hp : p.length ≤ 1048576) : loadL k [(k, (frameL p, l))] = (p, 0) := by
  have h := dec_back p [] hp
  rw [List.append_nil] at h
  rw [loadL_ok (getK_one k _) (by rw [h]) (by rw [h]; show ¬ 8 + p.length < (frameL p).length; rw [frame_len]; omega), h]
theorem crash_whole (draw : Nat) (k : Str) (b : List Nat) : crashD draw [(k, (b, b.length))] = [(k, (b, b.length))] := by
  obtain ⟨m, h1, h2, h3⟩ := crashD_one draw k b []
  rw [List.append_nil] at h2 h3
  have e : m = b.length := by omega
  rw [h3, e, List.take_length]
theorem rot_one {k : Str} {b : List Nat} {l : Nat} {z y : Nat} (h : z < b.length) : rotL k (z : Int) y [(k, (b, l))] = ([(k, (b.set z (b.getD z 0 ^^^ y), l))], 0) := by
  unfold rotL
  rw [getK_one]
  dsimp only
  rw [if_neg (by omega), putK_one, Int.toNat_natCast]
/-- One byte of the length turned: another length. -/
theorem val_wrong {n : Nat} (hn : n < 4294967296) (i y : Nat) (hi : i < 4) (hy : y < 256) (hy0 : y ≠ 0) (r : List Nat) : val32 ((be32 n).set i ((be32 n).getD i 0 ^^^ y) ++ r) ≠ n := by
  have hb4 : ∀ x ∈ be32 n, x < 256 := be32_byte n
  have h0 := getD_lt hb4 0; have h1 := getD_lt hb4 1; have h2 := getD_lt hb4 2; have h3 := getD_lt hb4 3
  have hx : ∀ a, a < 256 → a ^^^ y < 256 := fun a ha => Nat.xor_lt_two_pow (n := 8) ha hy
  have hne : ∀ a, a ^^^ y ≠ a := fun a e => hy0 (xor_lc (a := a) (by rw [e, Nat.xor_zero]))
  have hv := val32_be n hn []
  rw [List.append_nil] at hv
  have hql : ((be32 n).set i ((be32 n).getD i 0 ^^^ y)).length = 4 := by rw [List.length_set, be32_len]
  have hs : ∀ j, j < 4 → ((be32 n).set i ((be32 n).getD i 0 ^^^ y) ++ r).getD j 0 = if i = j then (be32 n).getD i 0 ^^^ y else (be32 n).getD j 0 := by
    intro j hj
    simp only [List.getD_eq_getElem?_getD]
    rw [List.getElem?_append_left (by rw [List.length_set, be32_len]; omega), List.getElem?_set]
    by_cases hij : i = j
    · subst hij
      rw [if_pos rfl, if_pos (by rw [be32_len]; exact hi), if_pos rfl]
      rfl
    · rw [if_neg hij, if_neg hij]
  intro e
  unfold val32 at e hv
  rw [hs 0 (by decide), hs 1 (by decide), hs 2 (by decide), hs 3 (by decide)] at e
  have c0 := hx _ h0; have c1 := hx _ h1; have c2 := hx _ h2; have c3 := hx _ h3
  have n0 := hne ((be32 n).getD 0 0); have n1 := hne ((be32 n).getD 1 0); have n2 := hne ((be32 n).getD 2 0); have n3 := hne ((be32 n).getD 3 0)
  have hi4 : i = 0 ∨ i = 1 ∨ i = 2 ∨ i = 3 := by omega
  rcases hi4 with rfl | rfl | rfl | rfl
  · rw [if_pos rfl, if_neg (by decide), if_neg (by decide), if_neg (by decide)] at e; omega
  · rw [if_neg (by decide), if_pos rfl, if_neg (by decide), if_neg (by decide)] at e; omega
  · rw [if_neg (by decide), if_neg (by decide), if_pos rfl, if_neg (by decide)] at e; omega
  · rw [if_neg (by decide), if_neg (by decide), if_neg (by decide), if_pos rfl] at e; omega
/-- A record of which any one byte is turned is not loaded. -/
theorem load_rot {k : Str} {p : List Nat} {z y l : Nat} (hb : ∀ x ∈ p, x < 256) (hp : p.length ≤ 1048576) (hz : z < 8 + p.length) (hy : y < 256) (hy0 : y ≠ 0) : ∃ q, q ≠ 0 ∧ loadL k [(k, ((frameL p).set z ((frameL p).getD z 0 ^^^ y), l))] = ([], q) := by
  by_cases h4 : z < 4
  · obtain ⟨b, hbb⟩ : ∃ b, b = (frameL p).set z ((frameL p).getD z 0 ^^^ y) := ⟨_, rfl⟩
    rw [← hbb]
    have hl : b.length = 8 + p.length := by rw [hbb, List.length_set, frame_len]
    have hv : val32 b ≠ p.length := by
      have e1 : frameL p = be32 p.length ++ (be32 (sumS (be32 p.length ++ p)) ++ p) := by unfold frameL; rw [List.append_assoc]
      have e2 : (frameL p).getD z 0 = (be32 p.length).getD z 0 := by
        rw [e1]
        simp only [List.getD_eq_getElem?_getD]
        rw [List.getElem?_append_left (by rw [be32_len]; omega)]
      rw [hbb, e2, e1, List.set_append_left _ _ (by rw [be32_len]; omega)]
      exact val_wrong (by omega) z y h4 hy hy0 _
    by_cases he : (decL b).2.2 = 0
    · have hn : (decL b).2.1 < b.length := by
        have he' := he
        unfold decL at he' ⊢
        split at he'
        · simp at he'
        · split at he'
          · simp at he'
          · split at he'
            · simp at he'
            · split at he'
              · simp at he'
              · rename_i h1 h2 h3 h4
                rw [if_neg h1, if_neg h2, if_neg h3, if_neg h4]
                show 8 + val32 b < b.length
                omega
      exact ⟨3, by decide, loadL_form (getK_one k _) he hn⟩
    · exact ⟨_, he, loadL_err (getK_one k _) he⟩
  · obtain ⟨i, rfl⟩ : ∃ i, z = 4 + i := ⟨z - 4, by omega⟩
    have h := dec_wrong p hb hp i y (by omega) hy hy0
    exact ⟨4, by decide, by rw [loadL_err (getK_one k _) (by show _ ≠ 0; rw [h]; decide)]; exact congrArg _ h⟩
end Go.Proofs.Ytmledochidefeaa
