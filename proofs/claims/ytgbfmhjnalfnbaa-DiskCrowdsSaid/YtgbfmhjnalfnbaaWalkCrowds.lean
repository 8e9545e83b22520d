/- The walk of the law DiskCrowds. No condition. -/
import Derived.Test.YtgbfmhjnalfnbaaOne
import Derived.Test.YtgbfmhjnalfnbaaKnown
import Derived.Test.YtgbfmhjnalfnbaaDList
import Derived.Laws.IdiomStrings
namespace Go.Proofs.Ytgbfmhjnalfnbaa
open Go.RowKit Go.Maps Go.Sort
/-- The j-th name. -/
def nmJ (j : Nat) : Str := [102, UInt8.ofNat (j / 256), UInt8.ofNat (j % 256)]
theorem ofNat_inj {a b : Nat} (ha : a < 256) (hb : b < 256) (h : UInt8.ofNat a = UInt8.ofNat b) : a = b := by
  have := congrArg UInt8.toNat h
  simpa [Nat.mod_eq_of_lt ha, Nat.mod_eq_of_lt hb] using this
theorem nmJ_inj {i j : Nat} (hi : i < 65536) (hj : j < 65536) (h : nmJ i = nmJ j) : i = j := by
  unfold nmJ at h
  simp only [List.cons.injEq, and_true, true_and] at h
  have h1 := ofNat_inj (by omega) (by omega) h.1
  have h2 := ofNat_inj (by omega) (by omega) h.2
  omega
structure Crowd (i : Nat) (L : DiskL) : Prop where
  rise : Rise L
  len : L.length = min i 256
  used : usedL L = L.length
  has : ∀ j, j < 400 → (getK (nmJ j) L).isSome = decide (j < i ∧ j < 256)
theorem crowd_zero : Crowd 0 [] := ⟨List.Pairwise.nil, rfl, rfl, fun j _ => by simp [getK]⟩
theorem usedL_put {k : Str} {a : List Nat × Nat} {L : DiskL} (hg : getK k L = none) : usedL (putK k a L) = usedL L + a.1.length := by
  unfold usedL
  rw [sumK_put, delK_of_none hg]
theorem crowd_step {i : Nat} {L : DiskL} (h : Crowd i L) (hi : i < 400) : ∃ L', Crowd (i + 1) L' ∧ appL 1048576 (nmJ i) [1] L = (L', if i < 256 then 0 else 6) := by
  have hg : getK (nmJ i) L = none := by
    have := h.has i hi
    rcases hg : getK (nmJ i) L with _ | a
    · rfl
    · rw [hg] at this
      simp at this
  have hl := h.len
  have hu := h.used
  by_cases hlt : i < 256
  · have e : appL 1048576 (nmJ i) [1] L = (putK (nmJ i) ([1], 0) L, 0) := by
      unfold appL oldB oldN
      rw [if_neg (by simp [nmJ]), if_neg, hg]
      · rfl
      · rintro (⟨_, h'⟩ | h')
        · omega
        · simp at h'; omega
    refine ⟨_, ⟨putK_rise h.rise, ?_, ?_, fun j hj => ?_⟩, by rw [if_pos hlt]; exact e⟩
    · rw [length_put h.rise, hg]
      simp only [Option.isSome_none, Bool.false_eq_true, if_false]
      omega
    · rw [usedL_put hg, length_put h.rise, hg]
      simp only [Option.isSome_none, Bool.false_eq_true, if_false, List.length_cons, List.length_nil]
      omega
    · by_cases hji : j = i
      · subst hji
        rw [getK_put_same h.rise]
        simp [hlt]
      · rw [getK_put_other h.rise (fun e => hji (nmJ_inj (by omega) (by omega) e)), h.has j hj, decide_eq_decide]
        omega
  · refine ⟨L, ⟨h.rise, by omega, h.used, fun j hj => ?_⟩, ?_⟩
    · rw [h.has j hj, decide_eq_decide]
      omega
    · rw [if_neg hlt]
      unfold appL
      rw [if_neg (by simp [nmJ]), if_pos (.inl ⟨hg, by omega⟩)]
theorem crowd_end {n : Nat} {L : DiskL} (h : Crowd n L) : ∃ L', appL 1048576 (nmJ 0) [2] L = (L', 0) ∧ L'.length = max 1 (min n 256) := by
  have hl := h.len
  have hu := h.used
  refine ⟨putK (nmJ 0) (oldB (nmJ 0) L ++ [2], oldN (nmJ 0) L) L, ?_, ?_⟩
  · unfold appL
    rw [if_neg (by simp [nmJ]), if_neg]
    rintro (⟨h1, h2⟩ | h')
    · have h3 := h.has 0 (by decide)
      rw [h1] at h3
      simp at h3
      omega
    · simp at h'; omega
  · rw [length_put h.rise, h.has 0 (by decide)]
    by_cases hn : 0 < n
    · rw [if_pos (by simp [hn])]
      omega
    · rw [if_neg (by simp [hn])]
      omega
theorem conv_cells (w : World) (a b c : Nat) (ha : a < 256) (hb : b < 256) (hc : c < 256) :
    (convert 32 9 (.slice (some ⟨w.heap.size, 0, none⟩) 3 3)).run Try.prog (w.alloc (.cells #[.int .u8 (a : Int), .int .u8 (b : Int), .int .u8 (c : Int)] 5)) = .ok (encStr [UInt8.ofNat a, UInt8.ofNat b, UInt8.ofNat c]) (w.alloc (.cells #[.int .u8 (a : Int), .int .u8 (b : Int), .int .u8 (c : Int)] 5)) := by
  refine run_convert_bytes_back (P := Try.prog) _ 32 9 5 ⟨w.heap.size, 0, none⟩ 3 [UInt8.ofNat a, UInt8.ofNat b, UInt8.ofNat c] Try.underlying32 Try.underlying5 Try.underlying9 ?_
  intro j hj
  rw [add_off, Nat.zero_add, cell_of_row _ _ _ _ _ (0, 0) (heap_alloc_new w _)]
  match j, hj with
  | 0, _ => simp [Nat.mod_eq_of_lt ha]
  | 1, _ => simp [Nat.mod_eq_of_lt hb]
  | 2, _ => simp [Nat.mod_eq_of_lt hc]
theorem conv_nm (w : World) (j : Nat) (hj : j < 65536) :
    (convert 32 9 (.slice (some ⟨w.heap.size, 0, none⟩) 3 3)).run Try.prog (w.alloc (.cells #[.int .u8 102, .int .u8 ((j : Int) / 256), .int .u8 ((j : Int) % 256)] 5)) = .ok (encStr (nmJ j)) (w.alloc (.cells #[.int .u8 102, .int .u8 ((j : Int) / 256), .int .u8 ((j : Int) % 256)] 5)) := by
  have h := conv_cells w 102 (j / 256) (j % 256) (by decide) (by omega) (by omega)
  have e1 : ((j / 256 : Nat) : Int) = (j : Int) / 256 := by omega
  have e2 : ((j % 256 : Nat) : Int) = (j : Int) % 256 := by omega
  rw [e1, e2] at h
  exact h
set_option maxRecDepth 100000 in
set_option maxHeartbeats 3200000 in
theorem diskCrowds_core (n : Nat) (w : World) (hn : n ≤ 400) :
    Calls Try.prog 6 #[.int .i64 (n : Int)] w fun e w' => e = .returned (.bool true) ∧ Below w.heap.size w w' := by
  go_enter Try.func6, Try.ntmps6
  go_wp2_with fail
  refine (new_any 1048576 w (by decide)).mono ?_
  rintro e w1 ⟨d, F1, rfl, d1, u1, k1⟩
  have D1 := hide d1
  have K1 := hide k1
  have U1 := hide u1
  clear d1 u1 k1
  go_wp2_with fail
  go_loopw [5] (fun i wr => ∃ (j : Nat) (F : Nat → Prop), j ≤ n ∧ i = .int .i64 (j : Int) ∧ Hid (∃ L, Crowd j L ∧ DiskAt wr F d 1048576 L) ∧ Hid (∀ k, F k → w.heap.size ≤ k) ∧ Hid (Below w.heap.size w wr)) (fun i _ => n - (intOf i).toNat)
  case atStart => exact ⟨0, F1, Nat.zero_le _, rfl, ⟨[], crowd_zero, D1.out⟩, U1, K1⟩
  case round =>
    obtain ⟨j, F, hj, rfl, hD, hU, hK⟩ := hrel
    by_cases hlt : j < n
    · obtain ⟨L, hC, hDL⟩ := hD.out
      obtain ⟨L', hC', hap⟩ := crowd_step hC (by omega)
      have DL := hide hDL
      have HC := hide hC'
      have HAP := hide hap
      clear hDL hC' hap hC hD
      have hcv := conv_nm wr j (by omega)
      have ka := below_alloc wr (.cells #[.int .u8 102, .int .u8 ((j : Int) / 256), .int .u8 ((j : Int) % 256)] 5)
      have kb := below_alloc (wr.alloc (.cells #[.int .u8 102, .int .u8 ((j : Int) / 256), .int .u8 ((j : Int) % 256)] 5)) (.cells #[.int .u8 1] 5)
      have kab := below_step ka kb
      have ib := isB_new (wr.alloc (.cells #[.int .u8 102, .int .u8 ((j : Int) / 256), .int .u8 ((j : Int) % 256)] 5)) #[.int .u8 1] [1] rfl (by decide) (wr.heap.size + 1) 1 (by simp) rfl
      have DB := hide (DL.out.below kab)
      have KAB := hide kab
      have IB := hide ib
      clear ka kb kab ib
      have hpart : j < 256 ∧ Hid (appL 1048576 (nmJ j) [1] L = (L', 0)) ∨ ¬ j < 256 ∧ Hid (appL 1048576 (nmJ j) [1] L = (L', 6)) := by
        by_cases h : j < 256
        · exact .inl ⟨h, by have := HAP.out; rw [if_pos h] at this; exact this⟩
        · exact .inr ⟨h, by have := HAP.out; rw [if_neg h] at this; exact this⟩
      clear HAP
      rcases hpart with ⟨h256, HAP⟩ | ⟨h256, HAP⟩
      all_goals
        have H256 := hide h256
        clear h256
        go_wp2_with fail
        refine (append_any F d 1048576 L ⟨(nmJ j).toArray⟩ _ 1 1 [1] _ DB.out (by show 3 ≤ 1099511627776; decide) IB.out rfl (by decide) (by decide)).mono ?_
        rintro e w5 ⟨rfl, F5, d5, n5⟩
        rw [show appL 1048576 (⟨(nmJ j).toArray⟩ : ByteArray).data.toList [1] L = _ from HAP.out] at d5 ⊢
        have n5' := (Next.of_below F KAB.out).trans n5
        have D5 := hide (show ∃ L, Crowd (j + 1) L ∧ DiskAt w5 F5 d 1048576 L from ⟨L', HC.out, d5⟩)
        have U5 := hide (n5'.up hK.out.size hU.out)
        have K5 := hide (hK.out.trans (n5'.below hK.out.size hU.out))
        clear d5 n5 n5' hcv
        have h256 := H256.out
        try have hb1 : decide ((j : Int) < 256) = false := decide_eq_false (by omega)
        try have hb2 : decide ((j : Int) < 256) = true := decide_eq_true (by omega)
        go_wp2_with fail
        go_roundw
        case rel => exact ⟨j + 1, F5, by omega, by go_num, D5, U5, K5⟩
        case measure => simp [intOf]; omega
    · obtain rfl : j = n := by omega
      obtain ⟨L, hC, hDL⟩ := hD.out
      obtain ⟨L', hap, hlen⟩ := crowd_end hC
      have hcv : (convert 32 9 (.slice (some ⟨wr.heap.size, 0, none⟩) 3 3)).run Try.prog (wr.alloc (.cells #[.int .u8 102, .int .u8 0, .int .u8 0] 5)) = .ok (encStr (nmJ 0)) (wr.alloc (.cells #[.int .u8 102, .int .u8 0, .int .u8 0] 5)) := conv_cells wr 102 0 0 (by decide) (by decide) (by decide)
      have ka := below_alloc wr (.cells #[.int .u8 102, .int .u8 0, .int .u8 0] 5)
      have kb := below_alloc (wr.alloc (.cells #[.int .u8 102, .int .u8 0, .int .u8 0] 5)) (.cells #[.int .u8 2] 5)
      have kab := below_step ka kb
      have IB := hide (isB_new (wr.alloc (.cells #[.int .u8 102, .int .u8 0, .int .u8 0] 5)) #[.int .u8 2] [2] rfl (by decide) (wr.heap.size + 1) 1 (by simp) rfl)
      have DB := hide (hDL.below kab)
      have KAB := hide kab
      have HAP := hide hap
      have HLEN := hide hlen
      clear ka kb kab hap hlen hDL hC hD
      go_wp2_with fail
      refine (append_any F d 1048576 L ⟨(nmJ 0).toArray⟩ _ 1 1 [2] _ DB.out (by decide) IB.out rfl (by decide) (by decide)).mono ?_
      rintro e w5 ⟨rfl, F5, d5, n5⟩
      rw [show appL 1048576 (⟨(nmJ 0).toArray⟩ : ByteArray).data.toList [2] L = _ from HAP.out] at d5 ⊢
      have n5' := (Next.of_below F KAB.out).trans n5
      have D5 := hide d5
      have K5 := hide (hK.out.trans (n5'.below hK.out.size hU.out))
      clear d5 n5 n5' hcv
      go_wp2_with fail
      refine (list_any F5 d 1048576 _ _ D5.out).mono ?_
      rintro e w6 ⟨v6, rfl, o6, k6⟩
      obtain ⟨A6, c6, e6, _, _, _⟩ := o6.form
      obtain ⟨q, hq⟩ : ∃ q, q = max 1 (min j 256) := ⟨_, rfl⟩
      rw [List.length_map, HLEN.out, ← hq] at e6
      subst e6
      have hqz : max 1 (min (j : Int) 256) = (q : Int) := by omega
      have hqb : q ≤ 256 := by omega
      have K6 := hide (K5.out.trans (k6.mono K5.out.size))
      clear o6 k6 hq
      go_wp2_with fail
      refine (known_any _).mono ?_
      rintro e w7 ⟨rfl, k7⟩
      go_wp2_with fail
      go_ret
      exact ⟨rfl, below_step K6.out k7⟩
theorem diskCrowds_out (z : Int) (w : World) (h : z < 0 ∨ ¬ z < 0 ∧ 400 < z) :
    Calls Try.prog 6 #[.int .i64 z] w fun e w' => e = .returned (.bool true) ∧ Below w.heap.size w w' := by
  rcases h with h | ⟨h, h'⟩
  all_goals
    go_enter Try.func6, Try.ntmps6
    go_wp2_with fail
    refine (known_any _).mono ?_
    rintro e w1 ⟨rfl, k1⟩
    go_wp2_with fail
    go_ret
    exact ⟨rfl, k1⟩
theorem diskCrowds_walk (a0 : Int) (_w0 : (Lit.int .i64 a0).wf = true) (w : World) :
    Calls Try.prog 6 #[.int .i64 a0] w fun e w' => e = .returned (.bool true) ∧ Below w.heap.size w w' := by
  by_cases h : a0 < 0 ∨ ¬ a0 < 0 ∧ 400 < a0
  · exact diskCrowds_out a0 w h
  · obtain ⟨n, rfl⟩ : ∃ n : Nat, a0 = (n : Int) := ⟨a0.toNat, by omega⟩
    exact diskCrowds_core n w (by omega)
end Go.Proofs.Ytgbfmhjnalfnbaa
