/- The contract of the project's Sums: the rows of sums, or refused. Condition: at most 1000000 rows of at most 1000000 numbers. -/
import Derived.Test.YtehgjkckhjggbabSr7
import Derived.Test.YtehgjkckhjggbabSr8
import Derived.Test.YtehgjkckhjggbabSr11
namespace Go.Proofs.Ytehgjkckhjggbab
open Go.RowKit
theorem IsM.tail {w : World} {A : Option Addr} {xss : ML} (h : IsM w A xss) {b off k : Nat} (e : A = some ⟨b, off, none⟩) (off' : Nat) (ho : k < xss.length → off' = off + k) : IsM w (some ⟨b, off', none⟩) (xss.drop k) := by
  subst e
  obtain ⟨vs, h1, h2⟩ := h
  refine ⟨vs.drop k, fun hne => ?_, ?_⟩
  · have hl : k < vs.length := by
      rcases Nat.lt_or_ge k vs.length with q | q
      · exact q
      · exact absurd (List.drop_of_length_le q) hne
    obtain ⟨b', off0, e, hc⟩ := h1 (by intro q; rw [q] at hl; exact absurd hl (Nat.not_lt_zero k))
    cases e
    refine ⟨b, off', rfl, fun i hi => ?_⟩
    rw [List.length_drop] at hi
    rw [ho (by rw [← h2.1]; exact hl)]
    have := hc (k + i) (by omega)
    rw [← Nat.add_assoc] at this
    rw [this]
    congr 1
    simp [List.getD_eq_getElem?_getD]
  · refine ⟨by rw [List.length_drop, List.length_drop, h2.1], fun i hi => ?_⟩
    rw [List.length_drop] at hi
    have := h2.2 (k + i) (by omega)
    rw [show (vs.drop k).getD i (.slice none 0 0) = vs.getD (k + i) (.slice none 0 0) by simp [List.getD_eq_getElem?_getD], show (xss.drop k).getD i [] = xss.getD (k + i) [] by simp [List.getD_eq_getElem?_getD]]
    exact this
theorem code_tail (k b : Nat) : Shape ((codeL k b).drop k) b k ∧ ∀ i, i < b → ∀ j, j < k → en ((codeL k b).drop k) i j = codeRow k (k + i) j := by
  have hs : Shape (codeL k b) (k + b) k := by unfold codeL; exact laid_shape _ _ _
  refine ⟨⟨by rw [List.length_drop, hs.high]; omega, fun r hr => hs.wide r (List.mem_of_mem_drop hr), fun r hr => hs.byte r (List.mem_of_mem_drop hr)⟩, fun i hi j hj => ?_⟩
  have e : en ((codeL k b).drop k) i j = en (codeL k b) (k + i) j := by
    unfold en
    congr 1
    simp [List.getD_eq_getElem?_getD]
  rw [e]
  unfold codeL
  exact laid_at _ (by omega) hj
theorem laid_drop (n m k : Nat) (f : Mat) : (laid (k + n) m f).drop k = laid n m (fun i j => f (k + i) j) := by
  apply List.ext_getElem
  · simp [laid]
  · intro i h1 h2
    simp [laid]
/-- What made makes of the Code's last rows. -/
theorem made_word (k b N : Nat) (D : ML) : laid b N (mm k (en ((codeL k b).drop k)) (en D)) = (wordL k b N (en D)).drop k := by
  unfold wordL
  rw [laid_drop]
  refine laid_congr (fun i hi j hj => ?_)
  exact gs_congr (fun t ht => by rw [(code_tail k b).2 i hi t ht])
theorem bad_even {D : ML} {m : Int} (h : ¬ even D) : sumsBad D m := by
  refine .inr (.inr (.inr ?_))
  apply Decidable.byContradiction
  intro q
  refine h ⟨(D.getD 0 []).length, fun r hr _ => ?_⟩
  rcases Decidable.em (r.length = (D.getD 0 []).length) with e | e
  · exact e
  · exact absurd ⟨r, hr, .inr e⟩ q
theorem present_all {D : ML} (h : D.length ≤ (present D).length) : ∀ r ∈ D, r ≠ [] := by
  intro r hr e
  obtain ⟨i, hi, rfl⟩ := List.getElem_of_mem hr
  have hl : (present D).length < D.length := by
    have h1 := List.length_filter_lt_length_iff_exists (l := List.range D.length) (p := fun i => !(D.getD i []).isEmpty)
    rw [List.length_range] at h1
    refine h1.2 ⟨i, List.mem_range.2 hi, ?_⟩
    have : D.getD i [] = [] := by simp [hi, e]
    rw [this]
    simp
  omega
theorem present_some {D : ML} (h : (present D).length < D.length) : ∃ r ∈ D, r = [] := by
  apply Decidable.byContradiction
  intro q
  have e : present D = List.range D.length := List.filter_eq_self.2 (fun i hi => by
    have hi := List.mem_range.1 hi
    have hm := mem_getD (xss := D) (k := i) hi
    cases e : D.getD i [] with
    | nil => exact absurd ⟨_, hm, e⟩ q
    | cons a b => rfl)
  rw [e, List.length_range] at h
  omega
theorem OwnMt.cap_ge {w : World} {B n c : Nat} {A : Option Addr} {xss : ML} (h : OwnMt w B (.slice A n c) xss) : n ≤ c ∧ c ≤ 9223372036854775807 ∧ (1 ≤ n → ∃ g, A = some ⟨g, 0, none⟩) := by
  obtain ⟨vs, h1, _⟩ := h
  rcases h1.2 with ⟨q, q2⟩ | ⟨g, cap, cur, q, _, _, h5, h6, h7, _⟩
  · cases q; exact ⟨by omega, by omega, fun h => by omega⟩
  · cases q; exact ⟨by omega, by unfold maxLen at h6; omega, fun _ => ⟨g, rfl⟩⟩
set_option maxHeartbeats 3200000 in
theorem sumsC : SumsC := by
  intro A n c m D w ⟨hA, hn, h15, hb, hl⟩ hm
  have HA := hide hA
  have HN := hide hn
  have HB := hide hb
  have HL := hide hl
  have HC := hide (code_all (n : Int) m w (by omega) (by omega) hm.1 hm.2)
  by_cases hbad : (n : Int) < 1 ∨ m < 0 ∨ 14 < (n : Int) + m
  · have e1 : codeE (n : Int) m = 1 := if_pos hbad
    rw [e1] at HC
    have ANS := hide (show sumsAns D m [] 1 from .inl ⟨rfl, rfl, by
      unfold sumsBad
      rw [hn]
      omega⟩)
    clear hA hn hb hl hm hbad e1
    go_enter Try.func37, Try.ntmps37
    go_wp2_with fail
    refine HC.out.mono ?_
    rintro e w1 ⟨v, rfl, o1, k1⟩
    go_wp2_with fail
    go_ret2
    exact ⟨_, [], 1, rfl, ⟨none, 0, 0, rfl, rfl, ⟨[], fun h => absurd rfl h, rfl, fun i hi => absurd hi (Nat.not_lt_zero i)⟩, fun _ => rfl, by decide⟩, OwnMt.nil _ _, ANS.out, k1⟩
  · have e1 : codeE (n : Int) m = 0 := if_neg hbad
    have e2 : codeR (n : Int) m = codeL n m.toNat := by unfold codeR; rw [if_neg hbad, Int.toNat_natCast]
    rw [e1, e2] at HC
    obtain ⟨b, rfl⟩ : ∃ b : Nat, m = (b : Int) := ⟨m.toNat, by omega⟩
    rw [Int.toNat_natCast] at HC e2
    have hn1 : 1 ≤ n := by omega
    have h14 : n + b ≤ 14 := by omega
    have hE : ∀ hbd : sumsBad D (b : Int), sumsAns D (b : Int) [] 1 := fun hbd => .inl ⟨rfl, rfl, hbd⟩
    have hOK : (∀ r ∈ D, r ≠ []) → even D → sumsAns D (b : Int) ((wordL n b (D.getD 0 []).length (en D)).drop n) 0 ∧ Shape D n (D.getD 0 []).length := fun hf ⟨N, hN⟩ => by
      have h0 : (D.getD 0 []).length = N := hN _ (mem_getD (by omega)) (hf _ (mem_getD (by omega)))
      refine ⟨.inr ⟨rfl, ?_, by rw [hn, Int.toNat_natCast]⟩, hn, fun r hr => by rw [h0]; exact hN r hr (hf r hr), hb⟩
      rintro (q | q | q | ⟨r, hr, q⟩)
      · omega
      · omega
      · omega
      · rcases q with q | q
        · exact hf r hr q
        · exact q (by rw [h0]; exact hN r hr (hf r hr))
    have HE := hide hE
    have HOK := hide hOK
    have hnil : ∀ W : World, OutM W (.slice none 0 0) [] := fun W => ⟨none, 0, 0, rfl, rfl, ⟨[], fun h => absurd rfl h, rfl, fun i hi => absurd hi (Nat.not_lt_zero i)⟩, fun _ => rfl, by decide⟩
    have HNIL := hide hnil
    clear hA hn hb hl hm hbad e1 e2 hE hOK hnil
    go_enter Try.func37, Try.ntmps37
    go_wp2_with fail
    refine HC.out.mono ?_
    rintro e w1 ⟨v, rfl, o1, k1⟩
    have O1 := hide o1
    have K1 := hide k1
    have A1 := hide (HA.out.below k1)
    have HP := hide (present_any A n c D w1 A1.out HN.out (by omega))
    obtain ⟨A4, c4, rfl, -, -⟩ := o1.form (n := n + b) (by unfold codeL; rw [laid_len])
    have hcap := O1.out.cap_ge
    clear o1 k1 HC
    go_wp2_with fail
    refine HP.out.mono ?_
    rintro e w2 ⟨v, rfl, hp, rfl⟩
    rcases hp with ⟨x, rfl, hset, hev⟩ | ⟨rfl, hev⟩
    · have HX := hide (count_any x w1 hset.1)
      have hdx := present_digs hset (by rw [HN.out]; omega)
      rw [hdx] at HX
      have HEV := hide hev
      clear hset hev hdx HP
      obtain ⟨p, hp⟩ : ∃ p, p = (present D).length := ⟨_, rfl⟩
      rw [← hp] at HX
      have HP := hide hp
      by_cases hlt : p < n
      · have hli : (p : Int) < (n : Int) := by omega
        clear hp
        go_wp2_with fail
        refine HX.out.mono ?_
        rintro e w2 ⟨rfl, rfl⟩
        go_wp2_with fail
        go_ret2
        refine ⟨_, [], 1, rfl, HNIL.out _, OwnMt.nil _ _, HE.out (.inr (.inr (.inr ?_))), K1.out⟩
        obtain ⟨r, hr, e⟩ := present_some (D := D) (by rw [HN.out]; have := HP.out; omega)
        exact ⟨r, hr, .inl e⟩
      · have hli : ¬ (p : Int) < (n : Int) := by omega
        obtain ⟨hans, hsh⟩ := HOK.out (present_all (by rw [HN.out]; have := HP.out; omega)) HEV.out
        obtain ⟨g, rfl⟩ := hcap.2.2 (by omega)
        have hN1 : (D.getD 0 []).length ≤ 1000000 := Nat.le_trans (HL.out _ (mem_getD (by rw [HN.out]; omega))) (by decide)
        have HM := hide (fun (off' cc : Nat) (ho : n < (codeL n b).length → off' = 0 + n) => made_any (some ⟨g, off', none⟩) A b cc n c (D.getD 0 []).length ((codeL n b).drop n) D w1 (O1.out.isM.1.tail rfl off' ho) (code_tail n b).1 A1.out hsh (by omega) hn1 (by omega) hN1)
        rw [made_word] at HM
        have HANS := hide hans
        have hl0 : (codeL n b).length = n + b := by unfold codeL; rw [laid_len]
        have fin : ∀ (W' : World) (B2 g2 : Nat), OwnMt W' B2 (.slice (some ⟨g2, 0, none⟩) b b) ((wordL n b (D.getD 0 []).length (en D)).drop n) → OutM W' (.slice (some ⟨g2, 0, none⟩) b b) ((wordL n b (D.getD 0 []).length (en D)).drop n) := fun _ _ _ h => ⟨_, _, _, rfl, h.isM.2, h.isM.1, h.nilc, by omega⟩
        have FIN := hide fin
        have hc1 : n + b ≤ c4 := hcap.1
        have hc2 : c4 ≤ 9223372036854775807 := hcap.2.1
        clear hans hsh hN1 hp fin hcap
        by_cases hcn : c4 = n
        · have HM := hide (HM.out 0 0 (by rw [hl0]; omega))
          have hnc : (n : Int) ≤ (c4 : Int) := by omega
          have hb0 : (n : Int) ≤ (n : Int) + (b : Int) := by omega
          clear hl0
          go_wp2_with fail
          refine HX.out.mono ?_
          rintro e w2 ⟨rfl, rfl⟩
          go_wp2_with fail
          refine HM.out.mono ?_
          rintro e w3 ⟨g3, rfl, o3, k3⟩
          have O3 := hide (FIN.out _ _ _ o3)
          have P3 := hide (o3.more K1.out.size)
          have K3 := hide (below_step K1.out k3)
          clear o3 k3 HM
          go_wp2_with fail
          go_ret2
          exact ⟨_, _, 0, rfl, O3.out, P3.out, HANS.out, K3.out⟩
        · have HM := hide (HM.out n (c4 - n) (fun _ => by omega))
          clear hl0
          go_wp2_with fail
          refine HX.out.mono ?_
          rintro e w2 ⟨rfl, rfl⟩
          go_wp2_with fail
          refine HM.out.mono ?_
          rintro e w3 ⟨g3, rfl, o3, k3⟩
          have O3 := hide (FIN.out _ _ _ o3)
          have P3 := hide (o3.more K1.out.size)
          have K3 := hide (below_step K1.out k3)
          clear o3 k3 HM
          go_wp2_with fail
          go_ret2
          exact ⟨_, _, 0, rfl, O3.out, P3.out, HANS.out, K3.out⟩
    · clear HP
      go_wp2_with fail
      go_ret2
      exact ⟨_, [], 1, rfl, HNIL.out _, OwnMt.nil _ _, HE.out (bad_even hev), K1.out⟩
end Go.Proofs.Ytehgjkckhjggbab
