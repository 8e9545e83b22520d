/- The walk of the law NetFull. No conditions but the widths. -/
import Derived.Test.YtdhamhaadclhkaaNOne
namespace Go.Proofs.Ytdhamhaadclhkaa
open Go.RowKit
def fullL (n : Nat) : List Tale := (List.range n).map fun j : Nat => tale (j : Int)
theorem fullL_length (n : Nat) : (fullL n).length = n := by unfold fullL; simp
theorem fullL_succ (n : Nat) : fullL n ++ [tale (n : Int)] = fullL (n + 1) := by unfold fullL; rw [List.range_succ, List.map_append]; rfl
theorem fullL_get (n j : Nat) (h : j < n) : getM (j : Int) (fullL n) = tale (j : Int) := by
  unfold getM
  rw [if_pos (by rw [fullL_length]; omega)]
  unfold fullL
  simp [h]
theorem fullL_cut (n j : Nat) (h : j < n) : (cutM (j : Int) (fullL n)).length = n - 1 := by
  unfold cutM
  rw [if_pos (by rw [fullL_length]; omega), List.length_append, List.length_take, List.length_drop, fullL_length]
  simp
  omega
theorem send_full5 (i M : Nat) (hM : M = 4096) : sendL (tale (i : Int)) (fullL (min i M)) = fullL (min (i + 1) M) ∧ decide ((fullL (min i M)).length < 4096) = decide (i < M) := by
  unfold sendL
  rw [fullL_length]
  by_cases h : i < M
  · rw [show min i M = i by omega, show min (i + 1) M = i + 1 by omega, if_neg (by omega), fullL_succ, hM]
    exact ⟨rfl, rfl⟩
  · rw [show min i M = M by omega, show min (i + 1) M = M by omega, if_pos hM, decide_eq_false h, decide_eq_false (by omega)]
    exact ⟨rfl, rfl⟩
theorem twice_full (M : Nat) (hM : M = 4096) : twiceL 0 (fullL M) = (fullL M, false) := by
  unfold twiceL
  rw [if_neg (by rw [fullL_length]; omega)]
theorem twice_cut (M : Nat) (hM : M = 4096) : (twiceL 0 (cutM ((4095 : Nat) : Int) (fullL M))) = (cutM ((4095 : Nat) : Int) (fullL M) ++ [(cutM ((4095 : Nat) : Int) (fullL M)).getD (0 : Int).toNat (0, 0, 0, [], [])], true) := by
  have h := fullL_cut M 4095 (by omega)
  unfold twiceL
  rw [if_pos (by omega)]
theorem netFull_out (z : Int) (w : World) (h : z < 0 ∨ 50 < z) :
    Calls Try.prog 5 #[.int .i64 z] w fun e w' => e = .returned (.bool true) ∧ Below w.heap.size w w' := by
  have hall : z < 0 ∨ ¬ z < 0 ∧ 50 < z := by omega
  clear h
  rcases hall with h | ⟨h, h2⟩
  all_goals
    go_enter Try.func5, Try.ntmps5
    go_wp2_with fail
    refine (known_any _).mono ?_
    rintro e w7 ⟨rfl, k7⟩
    go_wp2_with fail
    go_ret
    exact ⟨rfl, k7⟩
set_option maxRecDepth 100000 in
set_option maxHeartbeats 3200000 in
theorem netFull_core (m : Nat) (w : World) (h : m ≤ 50) :
    Calls Try.prog 5 #[.int .i64 (m : Int)] w fun e w' => e = .returned (.bool true) ∧ Below w.heap.size w w' := by
  have n0 := net_new PN w _ rfl
  have ka := below_alloc w (.cells #[.slice none 0 0] PN)
  have e0 := Nat.le_refl w.heap.size
  obtain ⟨w1, hw1⟩ : ∃ w1, w1 = w.alloc (.cells #[.slice none 0 0] PN) := ⟨_, rfl⟩
  obtain ⟨g, hg⟩ : ∃ g, g = w.heap.size := ⟨_, rfl⟩
  rw [← hw1, ← hg] at n0
  rw [← hw1] at ka
  have HW := hide hw1
  have HG := hide hg
  have N0 := hide n0
  have KA := hide ka
  have HF : Hid (∀ k, k = g → w.heap.size ≤ k) := by unfold Hid; intro k e; rw [e, hg]; exact e0
  obtain ⟨M, hM⟩ : ∃ M, M = 4096 := ⟨_, rfl⟩
  have HM := hide hM
  obtain ⟨T, hT⟩ : ∃ T, T = 4096 + m := ⟨_, rfl⟩
  have hT2 : (4096 : Int) + (m : Int) = (T : Int) := by omega
  have hTb : T ≤ 4146 := by omega
  have hTM : M ≤ T := by omega
  have HTM := hide hTM
  have hm0 : ¬ ((m : Int) < 0) := by omega
  have hm1 : ¬ (50 < (m : Int)) := by omega
  clear hw1 hg ka n0 e0 hM hT h hTM
  go_enter Try.func5, Try.ntmps5
  go_wp2_with fail
  rw [← HW.out, ← HG.out]
  go_loopw [4] (fun i wr => ∃ j : Nat, j ≤ T ∧ i = .int .i64 (j : Int) ∧ Hid (∃ F, NetAt PN wr F g (fullL (min j M)) ∧ ∀ k, F k → w.heap.size ≤ k) ∧ Hid (Below w.heap.size w wr)) (fun i _ => T - (intOf i).toNat)
  case atStart => exact ⟨0, Nat.zero_le _, rfl, ⟨_, by rw [Nat.zero_min]; exact N0.out, HF.out⟩, KA.out⟩
  case round =>
    obtain ⟨j, hj, rfl, hN, hB⟩ := hrel
    obtain ⟨F, hN, hU⟩ := hN.out
    by_cases hlt : j < T
    · have hc := send_tale F g _ (j : Int) wr hN
      obtain ⟨e1, e2⟩ := send_full5 j M HM.out
      rw [e1, e2] at hc
      have HC := hide hc
      have HU := hide hU
      have hlt2 : (j : Int) < (T : Int) := by omega
      have hq : decide ((j : Int) < 4096) = decide (j < M) := by have := HM.out; rw [this]; simp; omega
      clear hc hN hU e1 e2
      go_wp2_with fail
      refine HC.out.mono ?_
      rintro e w2 ⟨rfl, F2, h2, n2⟩
      have K2 := hide (hB.out.trans (n2.below hB.out.size HU.out))
      have U2 := hide (n2.up hB.out.size HU.out)
      have H2 := hide h2
      clear h2 n2
      go_wp2_with fail
      exact ⟨⟨j + 1, by omega, by go_num, ⟨F2, H2.out, U2.out⟩, K2.out⟩, by simp [intOf]; omega⟩
    · obtain rfl : j = T := by omega
      rw [show min j M = M from Nat.min_eq_right HTM.out] at hN
      have hc := twice_any F g _ 0 wr hN
      rw [twice_full M HM.out] at hc
      have HC := hide hc
      have HU := hide hU
      have HB := hide hB.out
      have hnl : ¬ ((j : Int) < (j : Int)) := by omega
      clear hc hN hU hB
      go_wp2_with fail
      refine HC.out.mono ?_
      rintro e w2 ⟨rfl, F2, h2, n2⟩
      have K2 := hide (HB.out.trans (n2.below HB.out.size HU.out))
      have U2 := hide (n2.up HB.out.size HU.out)
      have H2 := hide h2
      have hl := len5_at F2 g _ w2 h2
      rw [fullL_length] at hl
      have HL := hide hl
      have hM6 : ((M : Int) != 4096) = false := by have := HM.out; rw [this]; rfl
      clear h2 n2 hl
      go_wp2_with fail
      refine HL.out.mono ?_
      rintro e w' ⟨rfl, rfl⟩
      have ht := take5_any F2 g _ 4095 w2 H2.out
      rw [show (4095 : Int) = ((4095 : Nat) : Int) from rfl, fullL_get M 4095 (by rw [HM.out]; decide)] at ht
      have hd : decide (0 ≤ ((4095 : Nat) : Int) ∧ ((4095 : Nat) : Int) < ((fullL M).length : Int)) = true := decide_eq_true (by rw [fullL_length, HM.out]; decide)
      rw [hd] at ht
      have HT := hide ht
      clear ht hd
      go_wp2_with fail
      refine HT.out.mono ?_
      rintro e w4 ⟨r, rfl, F4, fr, h4, n4⟩
      have K4 := hide (K2.out.trans (n4.below K2.out.size U2.out))
      have U4 := hide (n4.up K2.out.size U2.out)
      obtain ⟨A, c, D, cp, rfl, -⟩ := fr
      have k5 := below_alloc w4 (.cells #[.int .i64 0, .int .i64 0, .int .i64 4095, .slice A 0 c, .slice D 0 cp] 45)
      have hc := twice_any F4 g _ 0 _ (h4.below k5)
      rw [twice_cut M HM.out] at hc
      have HC := hide hc
      have K5 := hide (K4.out.trans (k5.mono K4.out.size))
      clear hc h4 n4 k5
      unfold tale
      go_wp2_with fail
      refine HC.out.mono ?_
      rintro e w5 ⟨rfl, F5, h5, n5⟩
      have K6 := hide (K5.out.trans (n5.below K5.out.size U4.out))
      clear h5 n5
      go_wp2_with fail
      refine (known_any _).mono ?_
      rintro e w7 ⟨rfl, k7⟩
      go_wp2_with fail
      go_ret
      exact ⟨rfl, K6.out.trans (k7.mono K6.out.size)⟩
theorem netFull_walk (a0 : Int) (_w0 : (Lit.int .i64 a0).wf = true) (w : World) :
    Calls Try.prog 5 #[.int .i64 a0] w fun e w' => e = .returned (.bool true) ∧ Below w.heap.size w w' := by
  by_cases h : a0 < 0 ∨ 50 < a0
  · exact netFull_out a0 w h
  · obtain ⟨n, rfl⟩ : ∃ n : Nat, a0 = (n : Int) := ⟨a0.toNat, by omega⟩
    exact netFull_core n w (by omega)
end Go.Proofs.Ytdhamhaadclhkaa
