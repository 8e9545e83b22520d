/- The contracts of bits.Pack and of the document's own: truths as digits of bytes. Condition: there are at most 3000 truths. -/
import Derived.Test.YtndkdfbcbofnkaaUnpackOk
import Derived.RegionTactic
import Derived.ChangeAlike
namespace Go.Proofs.Ytndkdfbcbofnkaa
open Go.RowKit
/-- Byte j of the first k truths. -/
def pkB (l : List Bool) : Nat → Nat → Nat
  | 0, _ => 0
  | k + 1, j => if j = k / 8 ∧ l.getD k false = true then pkB l k j ||| 2 ^ (k % 8) else pkB l k j
def packP (l : List Bool) (k m : Nat) : List Nat := (List.range m).map (pkB l k)
theorem pkB_hit {l : List Bool} {k : Nat} (h : l.getD k false = true) : pkB l (k + 1) (k / 8) = pkB l k (k / 8) ||| 2 ^ (k % 8) := by rw [pkB, if_pos ⟨rfl, h⟩]
theorem pkB_far {l : List Bool} {k j : Nat} (h : j ≠ k / 8) : pkB l (k + 1) j = pkB l k j := by rw [pkB, if_neg (fun e => h e.1)]
theorem pkB_miss {l : List Bool} {k j : Nat} (h : l.getD k false = false) : pkB l (k + 1) j = pkB l k j := by rw [pkB, if_neg (fun e => by rw [h] at e; exact absurd e.2 (by decide))]
theorem pkB_lt (l : List Bool) : ∀ k j, pkB l k j < 256
  | 0, _ => by simp [pkB]
  | k + 1, j => by
    rw [pkB]
    split
    · exact Nat.or_lt_two_pow (n := 8) (pkB_lt l k j) (Nat.pow_lt_pow_right (by decide) (by omega))
    · exact pkB_lt l k j
theorem pkB_none (l : List Bool) (j : Nat) : ∀ k, k ≤ 8 * j → pkB l k j = 0
  | 0, _ => rfl
  | k + 1, h => by rw [pkB_far (by omega)]; exact pkB_none l j k (by omega)
theorem pkB_bit (l : List Bool) (j t : Nat) (ht : t < 8) : ∀ k, (pkB l k j).testBit t = (decide (8 * j + t < k) && l.getD (8 * j + t) false)
  | 0 => by simp [pkB]
  | k + 1 => by
    have ih := pkB_bit l j t ht k
    by_cases hh : j = k / 8 ∧ l.getD k false = true
    · rw [pkB, if_pos hh, Nat.testBit_or, ih, Nat.testBit_two_pow]
      by_cases e : k % 8 = t
      · have e2 : 8 * j + t = k := by omega
        rw [e2, hh.2]
        simp [e]
      · have e2 : 8 * j + t ≠ k := by omega
        have e3 : decide (k % 8 = t) = false := by simp [e]
        rw [e3, Bool.or_false]
        congr 1
        rw [decide_eq_decide]
        omega
    · rw [pkB, if_neg hh, ih]
      by_cases e2 : 8 * j + t = k
      · have : l.getD k false = false := by
          have hj : j = k / 8 := by omega
          cases hb : l.getD k false
          · rfl
          · exact absurd ⟨hj, hb⟩ hh
        rw [e2, this]
        simp
      · congr 1
        rw [decide_eq_decide]
        omega
theorem packP_len (l : List Bool) (k m : Nat) : (packP l k m).length = m := by simp [packP]
theorem packP_get (l : List Bool) (k m j : Nat) (h : j < m) : (packP l k m).getD j 0 = pkB l k j := by simp [packP, h]
theorem packP_zero (l : List Bool) (m : Nat) : packP l 0 m = List.replicate m 0 := by
  apply List.ext_getElem
  · simp [packP]
  · intro i h1 h2
    simp [packP, pkB]
theorem packP_miss (l : List Bool) (k m : Nat) (h : l.getD k false = false) : packP l (k + 1) m = packP l k m := by
  unfold packP
  apply List.map_congr_left
  intro j _
  exact pkB_miss h
theorem packP_hit (l : List Bool) (k m : Nat) (h : l.getD k false = true) : packP l (k + 1) m = (packP l k m).set (k / 8) (pkB l k (k / 8) ||| 2 ^ (k % 8)) := by
  apply List.ext_getElem
  · simp [packP]
  · intro i h1 h2
    rw [List.getElem_set]
    simp only [packP, List.getElem_map, List.getElem_range]
    by_cases e : k / 8 = i
    · subst e
      rw [if_pos rfl, pkB_hit h]
    · rw [if_neg e, pkB_far (fun e' => e e'.symm)]
theorem packP_byte (l : List Bool) (k m : Nat) : ∀ x ∈ packP l k m, x < 256 := by
  intro x hx
  simp only [packP, List.mem_map] at hx
  obtain ⟨j, _, rfl⟩ := hx
  exact pkB_lt l k j
/-- What was packed is unpacked. -/
theorem unp_pack (l : List Bool) : Unp (packP l l.length (need l.length)) (l.length : Int) 0 l := by
  refine .inr (.inr (.inr (.inr ⟨by omega, ?_, ?_, rfl, ?_⟩)))
  · rw [packP_len]; simp
  · rintro ⟨i, h1, h2, h3⟩
    rw [packP_len] at h2
    unfold bitAt at h3
    rw [packP_get _ _ _ _ (by omega), pkB_bit _ _ _ (by omega)] at h3
    have e : 8 * (i / 8) + i % 8 = i := by omega
    rw [e] at h3
    simp at h1 h3
    omega
  · apply List.ext_getElem
    · simp [bitsOf]
    · intro i h1 h2
      simp only [bitsOf, List.getElem_map, List.getElem_range]
      unfold bitAt
      have hn := need_eq l.length
      rw [packP_get _ _ _ _ (by omega), pkB_bit _ _ _ (by omega)]
      have e : 8 * (i / 8) + i % 8 = i := by omega
      rw [e]
      simp [h1]
theorem or_pack (p r : Nat) (hp : p < 256) (hr : r < 8) : bits .or .u8 (p : Int) ((2 : Int) ^ r % 256) = ((p ||| 2 ^ r : Nat) : Int) := by
  have hl : 2 ^ r < 256 := Nat.lt_of_lt_of_le (Nat.pow_lt_pow_right (by decide) hr) (by decide)
  have e : ((2 : Int) ^ r % 256) = ((2 ^ r % 256 : Nat) : Int) := by simp
  rw [Nat.mod_eq_of_lt hl] at e
  rw [e, u8_or_nat _ _ hp hl]
theorem made_bytes {w : World} {B g n : Nat} (h : w.ownsRow B 5 1 (.slice (some ⟨g, 0, none⟩) n n) n (madeCells (Value.int .u8 0).cells (n * 1)).toList) : Own w B (.slice (some ⟨g, 0, none⟩) n n) (List.replicate n 0) := by
  have e : (madeCells (Value.int .u8 0).cells (n * 1)).toList = List.replicate n (Value.int .u8 0) := by
    rw [Nat.mul_one]; exact toList_madeCells_one (Value.int .u8 0) n
  rw [e] at h
  unfold Own
  simpa using h
theorem Own.cells_ {w : World} {B : Nat} {g n c : Nat} {xs : List Nat} (h : Own w B (.slice (some ⟨g, 0, none⟩) n c) xs) (hn : xs.length = n) (k : Nat) :
    (k < n → w.cell? ⟨g, k, none⟩ = some (.int .u8 ((xs.getD k 0 : Nat) : Int))) ∧ w.frozen? ⟨g, k, none⟩ = false := by
  subst hn
  unfold Own at h
  refine ⟨fun hk => ?_, World.ownsRow.frozenAt h k⟩
  rw [World.ownsRow.cellAt h k (by omega)]
  simp [hk]
theorem Own.stored' {w : World} {B : Nat} {g n c : Nat} {xs : List Nat} (h : Own w B (.slice (some ⟨g, 0, none⟩) n c) xs) (hn : xs.length = n) (k z : Nat) :
    Own (w.setCell ⟨g, k, none⟩ (.int .u8 (z : Int))) B (.slice (some ⟨g, 0, none⟩) n c) (xs.set k z) := by
  subst hn
  unfold Own at h ⊢
  have := (World.ownsRow.stored h k (.int .u8 (z : Int))).1
  simpa [List.map_set] using this
theorem Own.more {w : World} {B B' : Nat} {v : Value} {l : List Nat} (h : Own w B v l) (hb : B' ≤ B) : Own w B' v l := by
  unfold Own at h ⊢
  refine ⟨h.1, ?_⟩
  rcases h.2 with hn | ⟨g, cap, cur, hv, h1, r⟩
  · exact .inl hn
  · exact .inr ⟨g, cap, cur, hv, by omega, r⟩
set_option maxHeartbeats 1600000 in
theorem pack_any (A : Option Addr) (n c : Nat) (l : List Bool) (w : World) (hA : BRd w A l) (hn : l.length = n) (h3 : n ≤ 3000) :
    Calls Try.prog 35 #[.slice A n c] w fun e w' => ∃ v, e = .returned v ∧ Own w' w.heap.size v (packP l n (need n)) ∧ Below w.heap.size w w' := by
  obtain ⟨i0, hi, hz0, hz1, hz2⟩ := info_parts Try.info_u8'
  have HA := hide hA
  have HN := hide hn
  have hm3 : need n ≤ 3000 := by have := need_eq n; omega
  have hm8 : n ≤ 8 * need n := by have := need_eq n; omega
  obtain ⟨m, hm⟩ : ∃ m, m = need n := ⟨_, rfl⟩
  rw [← hm] at hm3 hm8 ⊢
  have HM := hide hm
  clear hA hn hm
  go_enter Try.func35, Try.ntmps35
  go_wp2_with fail
  refine (bytesOf_any n _ (by omega)).mono ?_
  rintro e w1 ⟨rfl, rfl⟩
  rw [← HM.out]
  go_wp2_with (at_make; refine halt ?_)
  refine ⟨?_⟩
  refine wpList_make_full _ rfl (.tmp 8) (.tmp 8) 23 rfl w.heap.size 5 i0 (.int .u8 0) 1 Try.underlying23 hi hz0 hz1 .i64 .i64 m m m rfl rfl rfl rfl (by rw [hz2]; omega) (by unfold maxLen; omega) (Nat.le_refl _) ?_
  intro w2 h2 g2
  have o2 := made_bytes h2
  have b2 : Below w.heap.size w w2 := (Below.refl _ _).grown g2 (Nat.le_refl _) (by simp)
  clear h2 g2
  obtain ⟨g, hg⟩ : ∃ g, g = w.heap.size := ⟨_, rfl⟩
  rw [← hg] at o2 ⊢
  have HG := hide hg
  clear hg
  go_wp2
  go_loopw [12] (fun i wr => ∃ k : Nat, k ≤ n ∧ i = .int .i64 (k : Int) ∧ Hid (Own wr g (.slice (some ⟨g, 0, none⟩) m m) (packP l k m)) ∧ Below g w wr) (fun i _ => n - (intOf i).toNat)
  case atStart => exact ⟨0, Nat.zero_le _, rfl, hide (by rw [packP_zero]; exact o2), by rw [HG.out]; exact b2⟩
  case round =>
    obtain ⟨k, hk, rfl, hown, hbel⟩ := hrel
    by_cases hlt : k < n
    · have hkm : k / 8 < m := by omega
      obtain ⟨b', off', e, hcell⟩ := HA.out.below (w' := wr) (by rw [← HG.out]; exact hbel) (by intro e; have := HN.out; rw [e] at this; simp at this; omega)
      have ck := hcell k (by rw [HN.out]; exact hlt)
      cases e
      obtain ⟨t, ht⟩ : ∃ t, t = l.getD k false := ⟨_, rfl⟩
      rw [← ht] at ck
      clear hcell
      cases t
      · have OW := hide (show Own wr g (.slice (some ⟨g, 0, none⟩) m m) (packP l (k + 1) m) by rw [packP_miss l k m ht.symm]; exact hown.out)
        clear ht hown
        go_wp2
        go_roundw
        case rel => exact ⟨k + 1, by omega, by go_num, OW, hbel⟩
        case measure => simp [intOf]; omega
      · have hk7 := and7 k (by omega)
        have cs := hown.out.cells_ (packP_len l k m) (k / 8)
        have c1 := cs.1 hkm
        have c2 := cs.2
        rw [packP_get l k m _ hkm] at c1
        have hp := pkB_lt l k (k / 8)
        have hor := or_pack (pkB l k (k / 8)) (k % 8) hp (by omega)
        have st := hown.out.stored' (packP_len l k m) (k / 8) (pkB l k (k / 8) ||| 2 ^ (k % 8))
        rw [← packP_hit l k m ht.symm] at st
        have bel2 : Below g w (wr.setCell ⟨g, k / 8, none⟩ (.int .u8 ((pkB l k (k / 8) ||| 2 ^ (k % 8) : Nat) : Int))) := hbel.setCell (Nat.le_refl _) _
        obtain ⟨r, hr⟩ : ∃ r, r = k % 8 := ⟨_, rfl⟩
        obtain ⟨p, hpe⟩ : ∃ p, p = pkB l k (k / 8) := ⟨_, rfl⟩
        have hr8 : r < 8 := by omega
        rw [← hr] at hk7 hor st bel2
        rw [← hpe] at c1 hp hor st bel2
        obtain ⟨z, hz⟩ : ∃ z, z = p ||| 2 ^ r := ⟨_, rfl⟩
        rw [← hz] at hor st bel2
        have ST := hide st
        have BEL := hide bel2
        have hbel' := hbel
        clear ht hown cs st bel2 hr hpe hz hbel
        go_wp2
        go_region
        go_wp2
        go_roundw
        case rel => exact ⟨k + 1, by omega, by go_num, hide ST.out, BEL.out.drew⟩
        case measure => simp [intOf]; omega
    · obtain rfl : k = n := by omega
      go_wp2
      go_ret
      exact ⟨_, rfl, hown.out.more (Nat.le_of_eq HG.out.symm), by rw [← HG.out]; exact hbel⟩
end Go.Proofs.Ytndkdfbcbofnkaa
