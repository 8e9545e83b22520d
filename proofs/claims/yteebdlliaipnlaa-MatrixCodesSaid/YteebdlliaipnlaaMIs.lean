/- The contracts of matrix's isMatrix and of the document's Is: whether rows are a matrix. No condition but the widths. -/
import Derived.Test.YteebdlliaipnlaaMRead
namespace Go.Proofs.Yteebdlliaipnlaa
open Go.RowKit
theorem unlike_any (A : Option Addr) (l c m p : Nat) (w : World) (hc : w.cell? ⟨p, 0, none⟩ = some (.int .i64 (m : Int))) :
    Calls Try.prog 38 #[.slice A l c, .pointer (some ⟨p, 0, none⟩)] w fun e w' => e = .returned (.bool (decide (l ≠ m))) ∧ w' = w := by
  by_cases h1 : l = m
  · have e1 : ((l : Int) != (m : Int)) = false := by simp [h1]
    rw [decide_eq_false (fun h => h h1)]
    clear h1
    go_enter Try.func38, Try.ntmps38
    go_wp2_with fail
    go_ret
    exact ⟨rfl, rfl⟩
  · have e1 : ((l : Int) != (m : Int)) = true := by simp; omega
    rw [decide_eq_true h1]
    clear h1
    go_enter Try.func38, Try.ntmps38
    go_wp2_with fail
    go_ret
    exact ⟨rfl, rfl⟩
abbrev unlikeF (p : Nat) : Value := .func (.func 38) #[] #[.pointer (some ⟨p, 0, none⟩)]
/-- Where the first row stands that is not as long. -/
def oddAt (xss : ML) (m : Nat) (r : Int) : Prop := (r = -1 ∧ ∀ i, i < xss.length → (xss.getD i []).length = m) ∨ ∃ j : Nat, r = (j : Int) ∧ j < xss.length ∧ (xss.getD j []).length ≠ m
set_option maxHeartbeats 800000 in
theorem odd_any (A : Option Addr) (n c m p : Nat) (xss : ML) (w : World) (hA : IsM w A xss) (hn : xss.length = n) (h3 : n ≤ 64) (hp : w.cell? ⟨p, 0, none⟩ = some (.int .i64 (m : Int))) :
    Calls Try.prog 45 #[.slice A n c, unlikeF p] w fun e w' => ∃ r, e = .returned (.int .i64 r) ∧ oddAt xss m r ∧ w' = w := by
  have HA := hide hA
  have HN := hide hn
  have HP := hide hp
  clear hA hn hp
  go_enter Try.func45, Try.ntmps45
  go_wp2_with fail
  go_loop [8] (fun i => ∃ j : Nat, j ≤ n ∧ i = .int .i64 (j : Int) ∧ Hid (∀ i, i < j → (xss.getD i []).length = m)) (fun i => n - (intOf i).toNat)
  case atStart => exact ⟨0, Nat.zero_le _, rfl, hide (fun i h => absurd h (Nat.not_lt_zero _))⟩
  case round =>
    obtain ⟨j, hj, rfl, hno⟩ := hrel
    by_cases hlt : j < n
    · obtain ⟨b, off, A', c', rfl, ck, -, l1, m1⟩ := HA.out.at_ j (by rw [HN.out]; exact hlt)
      obtain ⟨l, hl⟩ : ∃ l, l = (xss.getD j []).length := ⟨_, rfl⟩
      rw [← hl] at ck l1
      have HL := hide hl
      have hlt2 : (j : Int) < (n : Int) := by omega
      clear hl
      have HD := hide (unlike_any A' l c' m p w HP.out)
      by_cases e : l = m
      · rw [decide_eq_false (fun h => h e)] at HD
        have HE := hide e
        clear e
        go_wp2_with fail
        refine HD.out.mono ?_
        rintro e w2 ⟨rfl, rfl⟩
        go_wp2_with fail
        go_round
        case rel =>
          refine ⟨j + 1, by omega, by go_num, hide (fun i h => ?_)⟩
          by_cases e : i = j
          · subst e; rw [← HL.out]; exact HE.out
          · exact hno.out i (by omega)
        case measure => simp [intOf]; omega
      · rw [decide_eq_true e] at HD
        have HE := hide e
        clear e
        go_wp2_with fail
        refine HD.out.mono ?_
        rintro e w2 ⟨rfl, rfl⟩
        go_wp2_with fail
        go_ret
        exact ⟨_, rfl, .inr ⟨j, rfl, by rw [HN.out]; exact hlt, by rw [← HL.out]; exact HE.out⟩, rfl⟩
    · obtain rfl : j = n := by omega
      go_wp2_with fail
      go_ret
      exact ⟨_, rfl, .inl ⟨rfl, fun i hi => hno.out i (by rw [← HN.out]; exact hi)⟩, rfl⟩
theorem contains_any (A : Option Addr) (n c m p : Nat) (xss : ML) (w : World) (hA : IsM w A xss) (hn : xss.length = n) (h3 : n ≤ 64) (hp : w.cell? ⟨p, 0, none⟩ = some (.int .i64 (m : Int))) :
    Calls Try.prog 37 #[.slice A n c, unlikeF p] w fun e w' => e = .returned (.bool (decide (¬ ∀ i, i < xss.length → (xss.getD i []).length = m))) ∧ w' = w := by
  obtain ⟨t, ht⟩ : ∃ t, t = decide (¬ ∀ i, i < xss.length → (xss.getD i []).length = m) := ⟨_, rfl⟩
  rw [← ht]
  have HT := hide ht
  clear ht
  go_enter Try.func37, Try.ntmps37
  have HA := hide hA
  have HN := hide hn
  have HP := hide hp
  clear hA hn hp
  go_wp2_with fail
  refine (odd_any A n c m p xss w HA.out HN.out h3 HP.out).mono ?_
  rintro e w2 ⟨r, rfl, hr, rfl⟩
  rcases hr with ⟨rfl, hall⟩ | ⟨j, rfl, hj, hne⟩
  · obtain rfl : t = false := by rw [HT.out]; exact decide_eq_false (fun h => h hall)
    clear hall
    go_wp2_with fail
    go_ret
    exact ⟨rfl, rfl⟩
  · obtain rfl : t = true := by rw [HT.out]; exact decide_eq_true (fun h => hne (h j hj))
    have hjj : (0 : Int) ≤ (j : Int) := by omega
    clear hne
    go_wp2_with fail
    go_ret
    exact ⟨rfl, rfl⟩
theorem isMt_no {xss : ML} (h : ¬ (1 ≤ xss.length ∧ xss.length ≤ 64)) : isMt xss = false := decide_eq_false (fun k => h ⟨k.1, k.2.1⟩)
theorem isMt_no2 {xss : ML} (h : ¬ (1 ≤ (xss.getD 0 []).length ∧ (xss.getD 0 []).length ≤ 64)) : isMt xss = false := decide_eq_false (fun k => h ⟨k.2.2.1, k.2.2.2.1⟩)
theorem isMt_is {xss : ML} (h : 1 ≤ xss.length ∧ xss.length ≤ 64) (h2 : 1 ≤ (xss.getD 0 []).length ∧ (xss.getD 0 []).length ≤ 64) : isMt xss = decide (∀ i, i < xss.length → (xss.getD i []).length = (xss.getD 0 []).length) := by
  unfold isMt
  apply decide_eq_decide.2
  constructor
  · intro k i hi
    exact k.2.2.2.2 _ (mem_getD hi)
  · intro k
    refine ⟨h.1, h.2, h2.1, h2.2, fun r hr => ?_⟩
    obtain ⟨i, hi, e⟩ := List.getElem_of_mem hr
    have := k i hi
    rw [show xss.getD i [] = r by simp [hi, e]] at this
    exact this
set_option maxHeartbeats 800000 in
theorem isMatrix_any (A : Option Addr) (n c : Nat) (xss : ML) (w : World) (hA : IsM w A xss) (hn : xss.length = n) (h63 : n ≤ 9223372036854775807) :
    Calls Try.prog 20 #[.slice A n c] w fun e w' => e = .returned (.bool (isMt xss)) ∧ Below w.heap.size w w' := by
  have HA := hide hA
  have HN := hide hn
  clear hA hn
  by_cases h0 : n < 1
  · rw [isMt_no (by rw [HN.out]; omega)]
    go_enter Try.func20, Try.ntmps20
    have h1 : (n : Int) < 1 := by omega
    go_wp2_with fail
    go_ret
    exact ⟨rfl, Below.refl _ _⟩
  · by_cases h64 : n > 64
    · rw [isMt_no (by rw [HN.out]; omega)]
      go_enter Try.func20, Try.ntmps20
      have h1 : ¬ (n : Int) < 1 := by omega
      have h2 : 64 < (n : Int) := by omega
      go_wp2_with fail
      go_ret
      exact ⟨rfl, Below.refl _ _⟩
    · obtain ⟨b, off, A', c', rfl, ck, -, l1, m1⟩ := HA.out.at_ 0 (by rw [HN.out]; omega)
      have ck0 : w.cell? ⟨b, off, none⟩ = some (.slice A' (xss.getD 0 []).length c') := ck
      obtain ⟨m, hm⟩ : ∃ m, m = (xss.getD 0 []).length := ⟨_, rfl⟩
      rw [← hm] at ck0 l1
      have HM := hide hm
      have h1 : ¬ (n : Int) < 1 := by omega
      have h2 : ¬ 64 < (n : Int) := by omega
      have h3 : 0 < (n : Int) := by omega
      have kb := below_alloc w (.cells #[.int .i64 (m : Int)] 3)
      have KB := hide kb
      clear hm ck kb
      by_cases g0 : m < 1
      · rw [isMt_no2 (by rw [← HM.out]; omega)]
        have g1 : (m : Int) < 1 := by omega
        go_enter Try.func20, Try.ntmps20
        go_wp2_with fail
        go_ret
        exact ⟨rfl, KB.out⟩
      · have g1 : ¬ (m : Int) < 1 := by omega
        by_cases g64 : m > 64
        · rw [isMt_no2 (by rw [← HM.out]; omega)]
          have g2 : 64 < (m : Int) := by omega
          go_enter Try.func20, Try.ntmps20
          go_wp2_with fail
          go_ret
          exact ⟨rfl, KB.out⟩
        · have g2 : ¬ 64 < (m : Int) := by omega
          rw [isMt_is (by rw [HN.out]; omega) (by rw [← HM.out]; omega), ← HM.out]
          have hcell : (w.alloc (.cells #[.int .i64 (m : Int)] 3)).cell? ⟨w.heap.size, 0, none⟩ = some (.int .i64 (m : Int)) := cell_new w _ _
          have HC := hide (contains_any (some ⟨b, off, none⟩) n c m w.heap.size xss _ (HA.out.below KB.out) HN.out (by omega) hcell)
          clear hcell
          obtain ⟨t, ht⟩ : ∃ t, t = decide (∀ i, i < xss.length → (xss.getD i []).length = m) := ⟨_, rfl⟩
          have hnt : decide (¬ ∀ i, i < xss.length → (xss.getD i []).length = m) = !t := by rw [ht, decide_not]
          rw [hnt] at HC
          rw [← ht]
          clear ht hnt
          go_enter Try.func20, Try.ntmps20
          go_wp2_with fail
          refine HC.out.mono ?_
          rintro e w2 ⟨rfl, rfl⟩
          go_wp2_with fail
          go_ret
          exact ⟨by simp, KB.out⟩
set_option maxHeartbeats 800000 in
theorem ris_any (A : Option Addr) (n c : Nat) (xss : ML) (w : World) (hA : IsM w A xss) (hn : xss.length = n) (h63 : n ≤ 9223372036854775807) :
    Calls Try.prog 17 #[.slice A n c] w fun e w' => e = .returned (.bool (isMt xss)) ∧ ∃ d, w' = w.drewN d := by
  have HA := hide hA
  have HN := hide hn
  clear hA hn
  by_cases h0 : n < 1
  · rw [isMt_no (by rw [HN.out]; omega)]
    go_enter Try.func17, Try.ntmps17
    have h1 : (n : Int) < 1 := by omega
    go_wp2_with fail
    go_ret
    exact ⟨rfl, 0, rfl⟩
  · by_cases h64 : n > 64
    · rw [isMt_no (by rw [HN.out]; omega)]
      go_enter Try.func17, Try.ntmps17
      have h1 : ¬ (n : Int) < 1 := by omega
      have h2 : 64 < (n : Int) := by omega
      go_wp2_with fail
      go_ret
      exact ⟨rfl, 0, rfl⟩
    · obtain ⟨b, off, A', c', rfl, ck, -, l1, m1⟩ := HA.out.at_ 0 (by rw [HN.out]; omega)
      have ck0 : w.cell? ⟨b, off, none⟩ = some (.slice A' (xss.getD 0 []).length c') := ck
      obtain ⟨m, hm⟩ : ∃ m, m = (xss.getD 0 []).length := ⟨_, rfl⟩
      rw [← hm] at ck0 l1
      have HM := hide hm
      have h1 : ¬ (n : Int) < 1 := by omega
      have h2 : ¬ 64 < (n : Int) := by omega
      have h3 : 0 < (n : Int) := by omega
      clear hm ck
      by_cases g0 : m < 1
      · rw [isMt_no2 (by rw [← HM.out]; omega)]
        have g1 : (m : Int) < 1 := by omega
        go_enter Try.func17, Try.ntmps17
        go_wp2_with fail
        go_ret
        exact ⟨rfl, 0, rfl⟩
      · have g1 : ¬ (m : Int) < 1 := by omega
        by_cases g64 : m > 64
        · rw [isMt_no2 (by rw [← HM.out]; omega)]
          have g2 : 64 < (m : Int) := by omega
          go_enter Try.func17, Try.ntmps17
          go_wp2_with fail
          go_ret
          exact ⟨rfl, 0, rfl⟩
        · have g2 : ¬ 64 < (m : Int) := by omega
          rw [isMt_is (by rw [HN.out]; omega) (by rw [← HM.out]; omega), ← HM.out]
          obtain ⟨t, ht⟩ : ∃ t, t = decide (∀ i, i < xss.length → (xss.getD i []).length = m) := ⟨_, rfl⟩
          have HT := hide ht
          rw [← ht]
          clear ht
          go_enter Try.func17, Try.ntmps17
          go_wp2_with fail
          go_loopw [3] (fun i wr => ∃ k d : Nat, 1 ≤ k ∧ k ≤ n ∧ i = .int .i64 (k : Int) ∧ Hid (∀ i, i < k → (xss.getD i []).length = m) ∧ wr = w.drewN d) (fun i _ => n - (intOf i).toNat)
          case atStart => exact ⟨1, 0, Nat.le_refl _, by omega, rfl, hide (fun i hi => by rw [show i = 0 by omega]; exact HM.out.symm), rfl⟩
          case round =>
            obtain ⟨k, d, hk1, hk, rfl, hno, rfl⟩ := hrel
            by_cases hlt : k < n
            · obtain ⟨b2, off2, A2, c2, e2, ck, -, l2, m2⟩ := HA.out.at_ k (by rw [HN.out]; exact hlt)
              cases e2
              obtain ⟨l, hl⟩ : ∃ l, l = (xss.getD k []).length := ⟨_, rfl⟩
              rw [← hl] at ck l2
              have HL := hide hl
              clear hl
              by_cases e : l = m
              · have HE := hide e
                have e1 : ((l : Int) != (m : Int)) = false := by simp [e]
                clear e
                go_wp2_with fail
                go_quiet (fail)
                go_wp2_with fail
                go_roundw
                case rel =>
                  refine ⟨k + 1, _, by omega, by omega, by go_num, hide (fun i h => ?_), rfl⟩
                  by_cases e : i = k
                  · subst e; rw [← HL.out]; exact HE.out
                  · exact hno.out i (by omega)
                case measure => simp [intOf]; omega
              · have HE := hide e
                have e1 : ((l : Int) != (m : Int)) = true := by simp; omega
                clear e
                go_wp2_with fail
                go_quiet (fail)
                go_wp2_with fail
                go_ret
                refine ⟨ret_bool ?_, _, World.drewN_drewN _ _ _⟩
                rw [HT.out]
                symm
                rw [decide_eq_false_iff_not]
                intro h
                exact HE.out (by rw [HL.out]; exact h k (by rw [HN.out]; exact hlt))
            · obtain rfl : k = n := by omega
              go_wp2_with fail
              go_ret
              refine ⟨ret_bool ?_, _, rfl⟩
              rw [HT.out]
              symm
              rw [decide_eq_true_eq]
              exact fun i hi => hno.out i (by rw [← HN.out]; exact hi)
end Go.Proofs.Yteebdlliaipnlaa
