/- The contract of the document's own Pack: truths as digits of bytes. Condition: there are at most 3000 truths. -/
import Derived.Test.YtndkdfbcbofnkaaPack
namespace Go.Proofs.Ytndkdfbcbofnkaa
open Go.RowKit
theorem Own.at' {w : World} {B : Nat} {v : Value} {xs : List Nat} {n : Nat} (h : Own w B v xs) (hn : xs.length = n) (h1 : 1 ≤ n) :
    ∃ g c, v = .slice (some ⟨g, 0, none⟩) n c ∧ B ≤ g ∧ n ≤ c ∧ c ≤ 9223372036854775807 := by
  subst hn
  unfold Own at h
  rcases h.2 with ⟨rfl, hn⟩ | ⟨g, cap, cur, rfl, hb, hg, hc, hm, _⟩
  · omega
  · exact ⟨g, cap, rfl, hb, hc, by unfold maxLen at hm; omega⟩
theorem packP_grow (l : List Bool) (k : Nat) (h : k % 8 = 0) : packP l k (k / 8) ++ [0] = packP l k (k / 8 + 1) := by
  unfold packP
  rw [List.range_succ, List.map_append]
  simp only [List.map_cons, List.map_nil]
  rw [pkB_none l (k / 8) k (by omega)]
theorem need_even (k : Nat) (h : k % 8 = 0) : need k = k / 8 := by unfold need; rw [if_pos h]; rfl
theorem need_odd (k : Nat) (h : ¬ k % 8 = 0) : need k = k / 8 + 1 := by unfold need; rw [if_neg h]
theorem need_next (k : Nat) : need (k + 1) = k / 8 + 1 := by rw [need_eq]; omega
set_option maxHeartbeats 3200000 in
theorem rpack_any (A : Option Addr) (n c : Nat) (l : List Bool) (w : World) (hA : BRd w A l) (hn : l.length = n) (h3 : n ≤ 3000) :
    Calls Try.prog 36 #[.slice A n c] w fun e w' => ∃ v, e = .returned v ∧ Own w' w.heap.size v (packP l n (need n)) ∧ Below w.heap.size w w' := by
  have HA := hide hA
  have HN := hide hn
  clear hA hn
  go_enter Try.func36, Try.ntmps36
  go_wp2
  go_loopw [3, 4] (fun v i wr => ∃ k : Nat, k ≤ n ∧ i = .int .i64 (k : Int) ∧ Hid (Own wr w.heap.size v (packP l k (need k))) ∧ Below w.heap.size w wr) (fun _ i _ => n - (intOf i).toNat)
  case atStart => exact ⟨0, Nat.zero_le _, rfl, hide (World.ownsRow_nil _ _ _ _), Below.refl _ _⟩
  case round =>
    obtain ⟨k, hk, rfl, hown, hbel⟩ := hrel
    by_cases hlt : k < n
    · have hsz := hbel.size
      by_cases h8 : k % 8 = 0
      · have h8b : (((k : Int) % 8) == 0) = true := by simp; omega
        have ho := hown.out
        rw [need_even k h8] at ho
        have HO := hide ho
        have H8 := hide h8
        clear ho hown h8
        go_wp2_with (at_builtin; refine halt ?_)
        refine ⟨?_⟩
        refine wpList_append_bytes rfl (.tmp 14) (.tmp 15) rfl w.heap.size _ (packP l k (k / 8)) rfl (HO.out.keep ((Below.refl _ _).alloc (Nat.le_refl _) _)) _ [0] rfl (isB_new wr _ [0] rfl (by decide) _ _ rfl rfl) (by rw [packP_len]; simp; omega) (by simp; omega) ?_
        intro v2 w2 o2 k2
        have bel2 := (hbel.alloc hsz (.cells #[.int .u8 0] 5)).trans k2
        rw [packP_grow l k H8.out] at o2
        obtain ⟨g, c2, rfl, hg, hc2, lc2⟩ := o2.at' (packP_len l k (k / 8 + 1)) (by omega)
        obtain ⟨b', off', e, hcell⟩ := HA.out.below bel2 (by intro e; have := HN.out; rw [e] at this; simp at this; omega)
        have ck := hcell k (by rw [HN.out]; exact hlt)
        cases e
        obtain ⟨t, ht⟩ : ∃ t, t = l.getD k false := ⟨_, rfl⟩
        rw [← ht] at ck
        clear hcell k2 HO hbel
        cases t
        · have OW := hide (show Own w2 w.heap.size (.slice (some ⟨g, 0, none⟩) (k / 8 + 1) c2) (packP l (k + 1) (need (k + 1))) by rw [packP_miss l k _ ht.symm, need_next]; exact o2)
          clear ht o2
          go_wp2
          go_roundw
          case rel => exact ⟨k + 1, by omega, by go_num, OW, bel2⟩
          case measure => simp [intOf]; omega
        · have cs := o2.cells_ (packP_len l k _) (k / 8)
          have c1 := cs.1 (by omega)
          have cf := cs.2
          rw [packP_get l k _ _ (by omega)] at c1
          have hp := pkB_lt l k (k / 8)
          have hor := or_pack (pkB l k (k / 8)) (k % 8) hp (by omega)
          have st := o2.stored' (packP_len l k _) (k / 8) (pkB l k (k / 8) ||| 2 ^ (k % 8))
          rw [← packP_hit l k _ ht.symm] at st
          have bel3 : Below w.heap.size w (w2.setCell ⟨g, k / 8, none⟩ (.int .u8 ((pkB l k (k / 8) ||| 2 ^ (k % 8) : Nat) : Int))) := bel2.setCell hg _
          obtain ⟨p, hpe⟩ : ∃ p, p = pkB l k (k / 8) := ⟨_, rfl⟩
          rw [← hpe] at c1 hp hor st bel3
          obtain ⟨z, hz⟩ : ∃ z, z = p ||| 2 ^ (k % 8) := ⟨_, rfl⟩
          rw [← hz] at hor st bel3
          have ST := hide st
          have BEL := hide bel3
          clear ht cs st bel3 hpe hz o2
          go_wp2
          go_roundw
          case rel => exact ⟨k + 1, by omega, by go_num, by rw [need_next]; exact ST, BEL.out⟩
          case measure => simp [intOf]; omega
      · have h8b : (((k : Int) % 8) == 0) = false := by simp; omega
        have o2 := hown.out
        rw [need_odd k h8] at o2
        have bel2 := hbel
        clear hown h8
        obtain ⟨g, c2, rfl, hg, hc2, lc2⟩ := o2.at' (packP_len l k (k / 8 + 1)) (by omega)
        obtain ⟨b', off', e, hcell⟩ := HA.out.below bel2 (by intro e; have := HN.out; rw [e] at this; simp at this; omega)
        have ck := hcell k (by rw [HN.out]; exact hlt)
        cases e
        obtain ⟨t, ht⟩ : ∃ t, t = l.getD k false := ⟨_, rfl⟩
        rw [← ht] at ck
        clear hcell hbel
        cases t
        · have OW := hide (show Own wr w.heap.size (.slice (some ⟨g, 0, none⟩) (k / 8 + 1) c2) (packP l (k + 1) (need (k + 1))) by rw [packP_miss l k _ ht.symm, need_next]; exact o2)
          clear ht o2
          go_wp2
          go_roundw
          case rel => exact ⟨k + 1, by omega, by go_num, OW, bel2⟩
          case measure => simp [intOf]; omega
        · have cs := o2.cells_ (packP_len l k _) (k / 8)
          have c1 := cs.1 (by omega)
          have cf := cs.2
          rw [packP_get l k _ _ (by omega)] at c1
          have hp := pkB_lt l k (k / 8)
          have hor := or_pack (pkB l k (k / 8)) (k % 8) hp (by omega)
          have st := o2.stored' (packP_len l k _) (k / 8) (pkB l k (k / 8) ||| 2 ^ (k % 8))
          rw [← packP_hit l k _ ht.symm] at st
          have bel3 : Below w.heap.size w (wr.setCell ⟨g, k / 8, none⟩ (.int .u8 ((pkB l k (k / 8) ||| 2 ^ (k % 8) : Nat) : Int))) := bel2.setCell hg _
          obtain ⟨p, hpe⟩ : ∃ p, p = pkB l k (k / 8) := ⟨_, rfl⟩
          rw [← hpe] at c1 hp hor st bel3
          obtain ⟨z, hz⟩ : ∃ z, z = p ||| 2 ^ (k % 8) := ⟨_, rfl⟩
          rw [← hz] at hor st bel3
          have ST := hide st
          have BEL := hide bel3
          clear ht cs st bel3 hpe hz o2
          go_wp2
          go_roundw
          case rel => exact ⟨k + 1, by omega, by go_num, by rw [need_next]; exact ST, BEL.out⟩
          case measure => simp [intOf]; omega
    · obtain rfl : k = n := by omega
      go_wp2
      go_ret
      exact ⟨_, rfl, hown.out, hbel⟩
end Go.Proofs.Ytndkdfbcbofnkaa
