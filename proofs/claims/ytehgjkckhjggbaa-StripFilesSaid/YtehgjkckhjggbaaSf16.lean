/- The contract of the project's Sums: the rows of sums, or refused. Condition: at most 1000000 rows of at most 1000000 numbers. The contract of slices.Chunk over bytes that are whole chunks, and of the function that it hands back: the chunks, one by one. Conditions: at least one chunk; a chunk has at most 1000000 bytes. The contracts of strip's isHead, headOf, appendSummed and File. Condition: at most 900000 bytes. -/
import Derived.Test.YtehgjkckhjggbaaSf8
import Derived.Test.YtehgjkckhjggbaaSf9
import Derived.Test.YtehgjkckhjggbaaSf15
import Derived.Test.YtehgjkckhjggbaaSf6
import Derived.Test.YtehgjkckhjggbaaSf10
import Derived.Test.YtehgjkckhjggbaaSf12
import Derived.Test.YtehgjkckhjggbaaSf7
namespace Go.Proofs.Ytehgjkckhjggbaa
open Go.RowKit
theorem IsM.tail {w : World} {A : Option Addr} {xss : ML} (h : IsM w A xss) {b off k : Nat} (e : A = some ⟨b, off, none⟩) (off' : Nat) (ho : k < xss.length → off' = off + k) : IsM w (some ⟨b, off', none⟩) (xss.drop k) := by
  subst e
  obtain ⟨vs, h1, h2⟩ := h
  refine ⟨vs.drop k, fun hne => ?_, ?_⟩
  · have hl : k < vs.length := by
      rcases Nat.lt_or_ge k vs.length with q | q
      · exact q
      · exact absurd (List.drop_of_length_le q) hne
    obtain ⟨b', off0, e, hc⟩ := h1 (by intro q; rw [q] at hl; exact absurd hl (Nat.not_lt_zero k))
    cases e
    refine ⟨b, off', rfl, fun i hi => ?_⟩
    rw [List.length_drop] at hi
    rw [ho (by rw [← h2.1]; exact hl)]
    have := hc (k + i) (by omega)
    rw [← Nat.add_assoc] at this
    rw [this]
    congr 1
    simp [List.getD_eq_getElem?_getD]
  · refine ⟨by rw [List.length_drop, List.length_drop, h2.1], fun i hi => ?_⟩
    rw [List.length_drop] at hi
    have := h2.2 (k + i) (by omega)
    rw [show (vs.drop k).getD i (.slice none 0 0) = vs.getD (k + i) (.slice none 0 0) by simp [List.getD_eq_getElem?_getD], show (xss.drop k).getD i [] = xss.getD (k + i) [] by simp [List.getD_eq_getElem?_getD]]
    exact this
theorem code_tail (k b : Nat) : Shape ((codeL k b).drop k) b k ∧ ∀ i, i < b → ∀ j, j < k → en ((codeL k b).drop k) i j = codeRow k (k + i) j := by
  have hs : Shape (codeL k b) (k + b) k := by unfold codeL; exact laid_shape _ _ _
  refine ⟨⟨by rw [List.length_drop, hs.high]; omega, fun r hr => hs.wide r (List.mem_of_mem_drop hr), fun r hr => hs.byte r (List.mem_of_mem_drop hr)⟩, fun i hi j hj => ?_⟩
  have e : en ((codeL k b).drop k) i j = en (codeL k b) (k + i) j := by
    unfold en
    congr 1
    simp [List.getD_eq_getElem?_getD]
  rw [e]
  unfold codeL
  exact laid_at _ (by omega) hj
theorem laid_drop (n m k : Nat) (f : Mat) : (laid (k + n) m f).drop k = laid n m (fun i j => f (k + i) j) := by
  apply List.ext_getElem
  · simp [laid]
  · intro i h1 h2
    simp [laid]
/-- What made makes of the Code's last rows. -/
theorem made_word (k b N : Nat) (D : ML) : laid b N (mm k (en ((codeL k b).drop k)) (en D)) = (wordL k b N (en D)).drop k := by
  unfold wordL
  rw [laid_drop]
  refine laid_congr (fun i hi j hj => ?_)
  exact gs_congr (fun t ht => by rw [(code_tail k b).2 i hi t ht])
theorem bad_even {D : ML} {m : Int} (h : ¬ even D) : sumsBad D m := by
  refine .inr (.inr (.inr ?_))
  apply Decidable.byContradiction
  intro q
  refine h ⟨(D.getD 0 []).length, fun r hr _ => ?_⟩
  rcases Decidable.em (r.length = (D.getD 0 []).length) with e | e
  · exact e
  · exact absurd ⟨r, hr, .inr e⟩ q
theorem present_all {D : ML} (h : D.length ≤ (present D).length) : ∀ r ∈ D, r ≠ [] := by
  intro r hr e
  obtain ⟨i, hi, rfl⟩ := List.getElem_of_mem hr
  have hl : (present D).length < D.length := by
    have h1 := List.length_filter_lt_length_iff_exists (l := List.range D.length) (p := fun i => !(D.getD i []).isEmpty)
    rw [List.length_range] at h1
    refine h1.2 ⟨i, List.mem_range.2 hi, ?_⟩
    have : D.getD i [] = [] := by simp [hi, e]
    rw [this]
    simp
  omega
theorem present_some {D : ML} (h : (present D).length < D.length) : ∃ r ∈ D, r = [] := by
  apply Decidable.byContradiction
  intro q
  have e : present D = List.range D.length := List.filter_eq_self.2 (fun i hi => by
    have hi := List.mem_range.1 hi
    have hm := mem_getD (xss := D) (k := i) hi
    cases e : D.getD i [] with
    | nil => exact absurd ⟨_, hm, e⟩ q
    | cons a b => rfl)
  rw [e, List.length_range] at h
  omega
theorem OwnMt.cap_ge {w : World} {B n c : Nat} {A : Option Addr} {xss : ML} (h : OwnMt w B (.slice A n c) xss) : n ≤ c ∧ c ≤ 9223372036854775807 ∧ (1 ≤ n → ∃ g, A = some ⟨g, 0, none⟩) := by
  obtain ⟨vs, h1, _⟩ := h
  rcases h1.2 with ⟨q, q2⟩ | ⟨g, cap, cur, q, _, _, h5, h6, h7, _⟩
  · cases q; exact ⟨by omega, by omega, fun h => by omega⟩
  · cases q; exact ⟨by omega, by unfold maxLen at h6; omega, fun _ => ⟨g, rfl⟩⟩
set_option maxHeartbeats 3200000 in
theorem sumsC : SumsC := by
  intro A n c m D w ⟨hA, hn, h15, hb, hl⟩ hm
  have HA := hide hA
  have HN := hide hn
  have HB := hide hb
  have HL := hide hl
  have HC := hide (code_all (n : Int) m w (by omega) (by omega) hm.1 hm.2)
  by_cases hbad : (n : Int) < 1 ∨ m < 0 ∨ 14 < (n : Int) + m
  · have e1 : codeE (n : Int) m = 1 := if_pos hbad
    rw [e1] at HC
    have ANS := hide (show sumsAns D m [] 1 from .inl ⟨rfl, rfl, by
      unfold sumsBad
      rw [hn]
      omega⟩)
    clear hA hn hb hl hm hbad e1
    go_enter Try.func65, Try.ntmps65
    go_wp2_with fail
    refine HC.out.mono ?_
    rintro e w1 ⟨v, rfl, o1, k1⟩
    go_wp2_with fail
    go_ret2
    exact ⟨_, [], 1, rfl, ⟨none, 0, 0, rfl, rfl, ⟨[], fun h => absurd rfl h, rfl, fun i hi => absurd hi (Nat.not_lt_zero i)⟩, fun _ => rfl, by decide⟩, OwnMt.nil _ _, ANS.out, k1⟩
  · have e1 : codeE (n : Int) m = 0 := if_neg hbad
    have e2 : codeR (n : Int) m = codeL n m.toNat := by unfold codeR; rw [if_neg hbad, Int.toNat_natCast]
    rw [e1, e2] at HC
    obtain ⟨b, rfl⟩ : ∃ b : Nat, m = (b : Int) := ⟨m.toNat, by omega⟩
    rw [Int.toNat_natCast] at HC e2
    have hn1 : 1 ≤ n := by omega
    have h14 : n + b ≤ 14 := by omega
    have hE : ∀ hbd : sumsBad D (b : Int), sumsAns D (b : Int) [] 1 := fun hbd => .inl ⟨rfl, rfl, hbd⟩
    have hOK : (∀ r ∈ D, r ≠ []) → even D → sumsAns D (b : Int) ((wordL n b (D.getD 0 []).length (en D)).drop n) 0 ∧ Shape D n (D.getD 0 []).length := fun hf ⟨N, hN⟩ => by
      have h0 : (D.getD 0 []).length = N := hN _ (mem_getD (by omega)) (hf _ (mem_getD (by omega)))
      refine ⟨.inr ⟨rfl, ?_, by rw [hn, Int.toNat_natCast]⟩, hn, fun r hr => by rw [h0]; exact hN r hr (hf r hr), hb⟩
      rintro (q | q | q | ⟨r, hr, q⟩)
      · omega
      · omega
      · omega
      · rcases q with q | q
        · exact hf r hr q
        · exact q (by rw [h0]; exact hN r hr (hf r hr))
    have HE := hide hE
    have HOK := hide hOK
    have hnil : ∀ W : World, OutM W (.slice none 0 0) [] := fun W => ⟨none, 0, 0, rfl, rfl, ⟨[], fun h => absurd rfl h, rfl, fun i hi => absurd hi (Nat.not_lt_zero i)⟩, fun _ => rfl, by decide⟩
    have HNIL := hide hnil
    clear hA hn hb hl hm hbad e1 e2 hE hOK hnil
    go_enter Try.func65, Try.ntmps65
    go_wp2_with fail
    refine HC.out.mono ?_
    rintro e w1 ⟨v, rfl, o1, k1⟩
    have O1 := hide o1
    have K1 := hide k1
    have A1 := hide (HA.out.below k1)
    have HP := hide (present_any A n c D w1 A1.out HN.out (by omega))
    obtain ⟨A4, c4, rfl, -, -⟩ := o1.form (n := n + b) (by unfold codeL; rw [laid_len])
    have hcap := O1.out.cap_ge
    clear o1 k1 HC
    go_wp2_with fail
    refine HP.out.mono ?_
    rintro e w2 ⟨v, rfl, hp, rfl⟩
    rcases hp with ⟨x, rfl, hset, hev⟩ | ⟨rfl, hev⟩
    · have HX := hide (count_any x w1 hset.1)
      have hdx := present_digs hset (by rw [HN.out]; omega)
      rw [hdx] at HX
      have HEV := hide hev
      clear hset hev hdx HP
      obtain ⟨p, hp⟩ : ∃ p, p = (present D).length := ⟨_, rfl⟩
      rw [← hp] at HX
      have HP := hide hp
      by_cases hlt : p < n
      · have hli : (p : Int) < (n : Int) := by omega
        clear hp
        go_wp2_with fail
        refine HX.out.mono ?_
        rintro e w2 ⟨rfl, rfl⟩
        go_wp2_with fail
        go_ret2
        refine ⟨_, [], 1, rfl, HNIL.out _, OwnMt.nil _ _, HE.out (.inr (.inr (.inr ?_))), K1.out⟩
        obtain ⟨r, hr, e⟩ := present_some (D := D) (by rw [HN.out]; have := HP.out; omega)
        exact ⟨r, hr, .inl e⟩
      · have hli : ¬ (p : Int) < (n : Int) := by omega
        obtain ⟨hans, hsh⟩ := HOK.out (present_all (by rw [HN.out]; have := HP.out; omega)) HEV.out
        obtain ⟨g, rfl⟩ := hcap.2.2 (by omega)
        have hN1 : (D.getD 0 []).length ≤ 1000000 := Nat.le_trans (HL.out _ (mem_getD (by rw [HN.out]; omega))) (by decide)
        have HM := hide (fun (off' cc : Nat) (ho : n < (codeL n b).length → off' = 0 + n) => made_any (some ⟨g, off', none⟩) A b cc n c (D.getD 0 []).length ((codeL n b).drop n) D w1 (O1.out.isM.1.tail rfl off' ho) (code_tail n b).1 A1.out hsh (by omega) hn1 (by omega) hN1)
        rw [made_word] at HM
        have HANS := hide hans
        have hl0 : (codeL n b).length = n + b := by unfold codeL; rw [laid_len]
        have fin : ∀ (W' : World) (B2 g2 : Nat), OwnMt W' B2 (.slice (some ⟨g2, 0, none⟩) b b) ((wordL n b (D.getD 0 []).length (en D)).drop n) → OutM W' (.slice (some ⟨g2, 0, none⟩) b b) ((wordL n b (D.getD 0 []).length (en D)).drop n) := fun _ _ _ h => ⟨_, _, _, rfl, h.isM.2, h.isM.1, h.nilc, by omega⟩
        have FIN := hide fin
        have hc1 : n + b ≤ c4 := hcap.1
        have hc2 : c4 ≤ 9223372036854775807 := hcap.2.1
        clear hans hsh hN1 hp fin hcap
        by_cases hcn : c4 = n
        · have HM := hide (HM.out 0 0 (by rw [hl0]; omega))
          have hnc : (n : Int) ≤ (c4 : Int) := by omega
          have hb0 : (n : Int) ≤ (n : Int) + (b : Int) := by omega
          clear hl0
          go_wp2_with fail
          refine HX.out.mono ?_
          rintro e w2 ⟨rfl, rfl⟩
          go_wp2_with fail
          refine HM.out.mono ?_
          rintro e w3 ⟨g3, rfl, o3, k3⟩
          have O3 := hide (FIN.out _ _ _ o3)
          have P3 := hide (o3.more K1.out.size)
          have K3 := hide (below_step K1.out k3)
          clear o3 k3 HM
          go_wp2_with fail
          go_ret2
          exact ⟨_, _, 0, rfl, O3.out, P3.out, HANS.out, K3.out⟩
        · have HM := hide (HM.out n (c4 - n) (fun _ => by omega))
          clear hl0
          go_wp2_with fail
          refine HX.out.mono ?_
          rintro e w2 ⟨rfl, rfl⟩
          go_wp2_with fail
          refine HM.out.mono ?_
          rintro e w3 ⟨g3, rfl, o3, k3⟩
          have O3 := hide (FIN.out _ _ _ o3)
          have P3 := hide (o3.more K1.out.size)
          have K3 := hide (below_step K1.out k3)
          clear o3 k3 HM
          go_wp2_with fail
          go_ret2
          exact ⟨_, _, 0, rfl, O3.out, P3.out, HANS.out, K3.out⟩
    · clear HP
      go_wp2_with fail
      go_ret2
      exact ⟨_, [], 1, rfl, HNIL.out _, OwnMt.nil _ _, HE.out (bad_even hev), K1.out⟩
end Go.Proofs.Ytehgjkckhjggbaa
namespace Go.Proofs.Ytehgjkckhjggbaa
open Go.RowKit
attribute [local go_sem] Oper.semAt_some
theorem chunk_any (A : Option Addr) (n c z : Nat) (w : World) (hz : 1 ≤ z) :
    Calls Try.prog 72 #[.slice A n c, .int .i64 (z : Int)] w fun e w' => e = .returned (.func (.func 108) #[] #[.pointer (some ⟨w.heap.size, 0, none⟩), .pointer (some ⟨w.heap.size + 1, 0, none⟩)]) ∧ w' = (w.alloc (.cells #[.slice A n c] 23)).alloc (.cells #[.int .i64 (z : Int)] 3) := by
  have hz1 : ¬ (z : Int) < 1 := by omega
  go_enter Try.func72, Try.ntmps72
  go_wp2_with fail
  go_ret
  exact ⟨rfl, rfl⟩
/-- What a round is handed. -/
def chunkR (b off z i : Nat) (vs : Array Value) (_ : World) : Prop := vs = #[.slice (some ⟨b, off + i * z, none⟩) z z]
set_option maxRecDepth 100000 in
set_option maxHeartbeats 3200000 in
theorem chunk_seq (b off n c z N gs gn : Nat) (W : World) (S : Nat → Prop) (hz : 1 ≤ z) (hz2 : z ≤ 1000000) (hn : n = N * z) (hc : n ≤ c) (hc2 : c ≤ 9223372036854775807) (hn2 : n ≤ 1000000000000) (h1 : W.cell? ⟨gs, 0, none⟩ = some (.slice (some ⟨b, off, none⟩) n c)) (h2 : W.cell? ⟨gn, 0, none⟩ = some (.int .i64 (z : Int))) (hS1 : ¬ S gs) (hS2 : ¬ S gn) :
    SeqC Try.prog 108 #[] #[.pointer (some ⟨gs, 0, none⟩), .pointer (some ⟨gn, 0, none⟩)] (chunkR b off z) (fun A B => B = A.drew) S N W := by
  intro l J Jx hJ hJx hY h0
  have HY := hide hY
  have HJ := hide hJ
  have H0 := hide h0
  have HN := hide hn
  have HS := hide (And.intro hS1 hS2)
  have C1 := hide h1
  have C2 := hide h2
  clear hY hJ hJx h0 hn hS1 hS2 h1 h2
  refine callsIn_of_wp Try.func108 rfl trivial ?_ rfl
  simp only [Try.ntmps108, List.size_toArray, List.length_cons, List.length_nil, Nat.reduceAdd, Nat.reduceSub, Array.replicate_succ, Array.replicate_zero, List.push_toArray, List.append_toArray, List.nil_append, List.cons_append]
  gi_wp2
  gi_loopw [4] (fun p wr => ∃ i q : Nat, i ≤ N ∧ p = .int .i64 (q : Int) ∧ Hid (q = i * z) ∧ Hid (J i wr) ∧ Hid (Turn S W wr)) (fun p _ => n - (intOf p).toNat)
  case atStart => exact ⟨0, 0, Nat.zero_le _, rfl, hide (by omega), H0, hide (Turn.refl _ _)⟩
  case round =>
    obtain ⟨i, q, hi, rfl, hq, hj, ht⟩ := hrel
    have c1 := ht.out.cell C1.out HS.out.1
    have c2 := ht.out.cell C2.out HS.out.2
    by_cases hlt : i < N
    · have hqz : q + z ≤ n := by
        rw [hq.out, HN.out]
        have := Nat.mul_le_mul_right z (show i + 1 ≤ N by omega)
        rw [Nat.add_mul, Nat.one_mul] at this
        exact this
      have hqn : (q : Int) < (n : Int) := by omega
      have h01 : (0 : Int) ≤ (q : Int) := by omega
      have h02 : (q : Int) ≤ (n : Int) := by omega
      have hcq : ¬ c = q := by omega
      have hcq2 : ¬ q = c := by omega
      have hsub : ((n - q : Nat) : Int) = (n : Int) - (q : Int) := by omega
      have hmin : (if ((n - q : Nat) : Int) < (z : Int) then ((n - q : Nat) : Int) else (z : Int)) = (z : Int) := by split <;> omega
      have hmin2 : (if (n : Int) - (q : Int) < (z : Int) then (n : Int) - (q : Int) else (z : Int)) = (z : Int) := by split <;> omega
      gi_wp2
      gi_region
      have hR : chunkR b off z i #[.slice (some ⟨b, off + q, none⟩) z z] wr.drew := by unfold chunkR; rw [hq.out]
      obtain ⟨fn, tmps, assign, body, hyy, hRd⟩ := HY.out i _ wr.drew hlt (HJ.out i wr wr.drew hj.out rfl) hR
      obtain ⟨t, ht9⟩ : ∃ t, t = q + z := ⟨_, rfl⟩
      have htz : (q : Int) + (z : Int) = (t : Int) := by omega
      have hts : t - q = z := by omega
      have htq : ¬ t = q := by omega
      have hqt : ¬ q = t := by omega
      have h03 : (q : Int) ≤ (t : Int) := by omega
      have h04 : (t : Int) ≤ (c : Int) := by omega
      have ht8 : t ≤ 1000000000000 := by omega
      have hqi : Hid (t = (i + 1) * z) := hide (by rw [ht9, hq.out, Nat.add_mul, Nat.one_mul])
      have HT1 : Hid (Turn S W wr.drew) := hide ⟨ht.out.os, ht.out.tape, ht.out.output, ht.out.size, ht.out.block⟩
      have d1 := HT1.out.cell C1.out HS.out.1
      have d2 := HT1.out.cell C2.out HS.out.2
      have HLT := hide hlt
      clear hR ht9 hmin hmin2 hsub c1 c2 ht hj hlt
      gi_wp2
      refine hRd.mono ?_
      rintro e W3 (⟨rfl, hJ3, hk3⟩ | ⟨rfl, hJx3⟩)
      · have J3 := hide hJ3
        have T3 := hide (HT1.out.trans hk3)
        have e1 := T3.out.cell C1.out HS.out.1
        have e2 := T3.out.cell C2.out HS.out.2
        clear hJ3 hk3 hyy hRd d1 d2 HT1
        gi_wp2
        go_roundw
        case rel => exact ⟨i + 1, t, by have := HLT.out; omega, by go_num, hqi, J3, T3⟩
        case measure => simp [intOf]; omega
      · gi_wp2
        refine bodyPost_ret (results_none rfl _ _ _) rfl ?_
        exact ⟨⟨_, rfl⟩, .inr ⟨i + 1, HLT.out, hJx3⟩⟩
    · have hiN : i = N := by omega
      have hqn : ¬ ((q : Int) < (n : Int)) := by
        have h9 := hq.out
        rw [hiN, ← HN.out] at h9
        omega
      have HI := hide hiN
      clear hiN hlt
      gi_wp2
      go_end0
      exact ⟨⟨_, rfl⟩, .inl (HI.out ▸ hj.out)⟩
end Go.Proofs.Ytehgjkckhjggbaa
namespace Go.Proofs.Ytehgjkckhjggbaa
open Go.RowKit
theorem isnumber_any (z : Int) (w : World) : Calls Try.prog 105 #[.int .i64 z] w fun e w' => e = .returned (.bool (decide (0 ≤ z ∧ z ≤ 2147483647))) ∧ w = w' := by
  by_cases h1 : 0 ≤ z
  · by_cases h2 : z ≤ 2147483647
    · rw [decide_eq_true ⟨h1, h2⟩]
      go_enter Try.func105, Try.ntmps105
      go_wp2_with fail
      go_ret
      exact ⟨rfl, rfl⟩
    · rw [decide_eq_false (fun h => h2 h.2)]
      go_enter Try.func105, Try.ntmps105
      go_wp2_with fail
      go_ret
      exact ⟨rfl, rfl⟩
  · rw [decide_eq_false (fun h => h1 h.1)]
    go_enter Try.func105, Try.ntmps105
    go_wp2_with fail
    go_ret
    exact ⟨rfl, rfl⟩
theorem issize_any (z : Int) (w : World) : Calls Try.prog 106 #[.int .i64 z] w fun e w' => e = .returned (.bool (decide (1 ≤ z ∧ z ≤ 4194304))) ∧ w = w' := by
  by_cases h1 : 1 ≤ z
  · by_cases h2 : z ≤ 4194304
    · rw [decide_eq_true ⟨h1, h2⟩]
      go_enter Try.func106, Try.ntmps106
      go_wp2_with fail
      go_ret
      exact ⟨rfl, rfl⟩
    · rw [decide_eq_false (fun h => h2 h.2)]
      go_enter Try.func106, Try.ntmps106
      go_wp2_with fail
      go_ret
      exact ⟨rfl, rfl⟩
  · rw [decide_eq_false (fun h => h1 h.1)]
    go_enter Try.func106, Try.ntmps106
    go_wp2_with fail
    go_ret
    exact ⟨rfl, rfl⟩
theorem ishead_any (id i size : Int) (w : World) : Calls Try.prog 69 #[.int .i64 id, .int .i64 i, .int .i64 size] w fun e w' => e = .returned (.bool (decide (okHead id i size))) ∧ w = w' := by
  have HA := hide (isnumber_any id w)
  have HB := hide (isnumber_any i w)
  have HC := hide (issize_any size w)
  by_cases h1 : 0 ≤ id ∧ id ≤ 2147483647
  · by_cases h2 : 0 ≤ i ∧ i ≤ 2147483647
    · by_cases h3 : 1 ≤ size ∧ size ≤ 4194304
      · have e : decide (okHead id i size) = true := decide_eq_true ⟨h1, h2, h3⟩
        rw [e]
        rw [decide_eq_true h1] at HA
        rw [decide_eq_true h2] at HB
        rw [decide_eq_true h3] at HC
        clear h1 h2 h3 e
        go_enter Try.func69, Try.ntmps69
        go_wp2_with fail
        refine HA.out.mono ?_
        rintro e w1 ⟨rfl, rfl⟩
        go_wp2_with fail
        refine HB.out.mono ?_
        rintro e w1 ⟨rfl, rfl⟩
        go_wp2_with fail
        refine HC.out.mono ?_
        rintro e w1 ⟨rfl, rfl⟩
        go_wp2_with fail
        go_ret
        exact ⟨rfl, rfl⟩
      · have e : decide (okHead id i size) = false := decide_eq_false (fun h => h3 h.2.2)
        rw [e]
        rw [decide_eq_true h1] at HA
        rw [decide_eq_true h2] at HB
        rw [decide_eq_false h3] at HC
        clear h1 h2 h3 e
        go_enter Try.func69, Try.ntmps69
        go_wp2_with fail
        refine HA.out.mono ?_
        rintro e w1 ⟨rfl, rfl⟩
        go_wp2_with fail
        refine HB.out.mono ?_
        rintro e w1 ⟨rfl, rfl⟩
        go_wp2_with fail
        refine HC.out.mono ?_
        rintro e w1 ⟨rfl, rfl⟩
        go_wp2_with fail
        go_ret
        exact ⟨rfl, rfl⟩
    · have e : decide (okHead id i size) = false := decide_eq_false (fun h => h2 h.2.1)
      rw [e]
      rw [decide_eq_true h1] at HA
      rw [decide_eq_false h2] at HB
      clear h1 h2 e
      go_enter Try.func69, Try.ntmps69
      go_wp2_with fail
      refine HA.out.mono ?_
      rintro e w1 ⟨rfl, rfl⟩
      go_wp2_with fail
      refine HB.out.mono ?_
      rintro e w1 ⟨rfl, rfl⟩
      go_wp2_with fail
      go_ret
      exact ⟨rfl, rfl⟩
  · have e : decide (okHead id i size) = false := decide_eq_false (fun h => h1 h.1)
    rw [e]
    rw [decide_eq_false h1] at HA
    clear h1 e
    go_enter Try.func69, Try.ntmps69
    go_wp2_with fail
    refine HA.out.mono ?_
    rintro e w1 ⟨rfl, rfl⟩
    go_wp2_with fail
    go_ret
    exact ⟨rfl, rfl⟩
theorem index4 (a b c d : Int) (j : Nat) (x : Int) (w : World) (hj : j < 4) (hx : [a, b, c, d][j]? = some x) : (Instr.index 167 (.agg #[.int .i64 a, .int .i64 b, .int .i64 c, .int .i64 d]) (.int .i64 (j : Int))).run Try.prog w = .ok (.int .i64 x) w := by
  have hu := Try.underlying167
  match j, hj with
  | 0, _ => (simp at hx; subst hx; simp [Instr.index, run_underlying hu, asIntOf, go_sem])
  | 1, _ => (simp at hx; subst hx; simp [Instr.index, run_underlying hu, asIntOf, go_sem])
  | 2, _ => (simp at hx; subst hx; simp [Instr.index, run_underlying hu, asIntOf, go_sem])
  | 3, _ => (simp at hx; subst hx; simp [Instr.index, run_underlying hu, asIntOf, go_sem])
set_option maxRecDepth 100000 in
set_option maxHeartbeats 1600000 in
theorem headof_any (id i size : Nat) (w : World) (h1 : id < 4294967296) (h2 : i < 4294967296) (h3 : size < 4294967296) :
    Calls Try.prog 71 #[.int .i64 (id : Int), .int .i64 (i : Int), .int .i64 (size : Int)] w fun e w' => ∃ s, e = .returned s ∧ Own w' w.heap.size s (head16 id i size) ∧ Below w.heap.size w w' := by
  have e1 : IntKind.u32.wrap (id : Int) = (id : Int) := by rw [IntKind.wrap_u32]; omega
  have e2 : IntKind.u32.wrap (i : Int) = (i : Int) := by rw [IntKind.wrap_u32]; omega
  have e3 : IntKind.u32.wrap (size : Int) = (size : Int) := by rw [IntKind.wrap_u32]; omega
  go_enter Try.func71, Try.ntmps71
  go_wp2_with fail
  go_loopw [7, 14] (fun b j wr => ∃ j' : Nat, j' ≤ 4 ∧ j = .int .i64 (j' : Int) ∧ Hid (Own wr w.heap.size b ((([1735590144, id, i, size].take j').flatMap be32))) ∧ Hid (Below w.heap.size w wr)) (fun _ j _ => 4 - (intOf j).toNat)
  case atStart => exact ⟨0, by omega, rfl, hide (World.ownsRow_nil _ _ _ _), hide (Below.refl _ _)⟩
  case round =>
    obtain ⟨j, hj, rfl, hO, hK⟩ := hrel
    rcases (show j = 0 ∨ j = 1 ∨ j = 2 ∨ j = 3 ∨ j = 4 by omega) with rfl | rfl | rfl | rfl | rfl
    · have hx := index4 1735590144 (id : Int) (i : Int) (size : Int) 0 (1735590144 : Int) wr (by decide) rfl
      have hx : (Instr.index 167 (.agg #[.int .i64 1735590144, .int .i64 (id : Int), .int .i64 (i : Int), .int .i64 (size : Int)]) (.int .i64 0)).run Try.prog wr = .ok (.int .i64 (1735590144 : Int)) wr := hx
      go_wp2_with fail
      refine (put32_any _ 1735590144 rfl wr (by decide)).mono ?_
      rintro e w2 ⟨s, rfl, o2, k2⟩
      have O2 := hide (hO.out.keep k2)
      have I2 := hide o2.isB
      have K2 := hide (hK.out.trans (k2.mono hK.out.size))
      clear o2 k2 hO hK
      go_wp2_with (at_builtin; refine halt ?_)
      refine ⟨?_⟩
      refine wpList_append_bytes rfl (.tmp 17) (.tmp 20) rfl w.heap.size _ _ rfl O2.out _ (be32 1735590144) rfl I2.out (by simp [be32_len]) K2.out.size ?_
      intro v3 w3 o3 k3
      have O3 := hide o3
      have K3 := hide (K2.out.trans k3)
      clear o3 k3 O2 K2 I2
      go_wp2_with fail
      go_roundw
      case rel => exact ⟨1, by omega, by go_num, by simpa using O3, K3⟩
      case measure => simp [intOf]
    · have hx := index4 1735590144 (id : Int) (i : Int) (size : Int) 1 (id : Int) wr (by decide) rfl
      have hx : (Instr.index 167 (.agg #[.int .i64 1735590144, .int .i64 (id : Int), .int .i64 (i : Int), .int .i64 (size : Int)]) (.int .i64 1)).run Try.prog wr = .ok (.int .i64 (id : Int)) wr := hx
      go_wp2_with fail
      refine (put32_any _ id rfl wr h1).mono ?_
      rintro e w2 ⟨s, rfl, o2, k2⟩
      have O2 := hide (hO.out.keep k2)
      have I2 := hide o2.isB
      have K2 := hide (hK.out.trans (k2.mono hK.out.size))
      clear o2 k2 hO hK
      go_wp2_with (at_builtin; refine halt ?_)
      refine ⟨?_⟩
      refine wpList_append_bytes rfl (.tmp 17) (.tmp 20) rfl w.heap.size _ _ rfl O2.out _ (be32 id) rfl I2.out (by simp [be32_len]) K2.out.size ?_
      intro v3 w3 o3 k3
      have O3 := hide o3
      have K3 := hide (K2.out.trans k3)
      clear o3 k3 O2 K2 I2
      go_wp2_with fail
      go_roundw
      case rel => exact ⟨2, by omega, by go_num, by simpa using O3, K3⟩
      case measure => simp [intOf]
    · have hx := index4 1735590144 (id : Int) (i : Int) (size : Int) 2 (i : Int) wr (by decide) rfl
      have hx : (Instr.index 167 (.agg #[.int .i64 1735590144, .int .i64 (id : Int), .int .i64 (i : Int), .int .i64 (size : Int)]) (.int .i64 2)).run Try.prog wr = .ok (.int .i64 (i : Int)) wr := hx
      go_wp2_with fail
      refine (put32_any _ i rfl wr h2).mono ?_
      rintro e w2 ⟨s, rfl, o2, k2⟩
      have O2 := hide (hO.out.keep k2)
      have I2 := hide o2.isB
      have K2 := hide (hK.out.trans (k2.mono hK.out.size))
      clear o2 k2 hO hK
      go_wp2_with (at_builtin; refine halt ?_)
      refine ⟨?_⟩
      refine wpList_append_bytes rfl (.tmp 17) (.tmp 20) rfl w.heap.size _ _ rfl O2.out _ (be32 i) rfl I2.out (by simp [be32_len]) K2.out.size ?_
      intro v3 w3 o3 k3
      have O3 := hide o3
      have K3 := hide (K2.out.trans k3)
      clear o3 k3 O2 K2 I2
      go_wp2_with fail
      go_roundw
      case rel => exact ⟨3, by omega, by go_num, by simpa using O3, K3⟩
      case measure => simp [intOf]
    · have hx := index4 1735590144 (id : Int) (i : Int) (size : Int) 3 (size : Int) wr (by decide) rfl
      have hx : (Instr.index 167 (.agg #[.int .i64 1735590144, .int .i64 (id : Int), .int .i64 (i : Int), .int .i64 (size : Int)]) (.int .i64 3)).run Try.prog wr = .ok (.int .i64 (size : Int)) wr := hx
      go_wp2_with fail
      refine (put32_any _ size rfl wr h3).mono ?_
      rintro e w2 ⟨s, rfl, o2, k2⟩
      have O2 := hide (hO.out.keep k2)
      have I2 := hide o2.isB
      have K2 := hide (hK.out.trans (k2.mono hK.out.size))
      clear o2 k2 hO hK
      go_wp2_with (at_builtin; refine halt ?_)
      refine ⟨?_⟩
      refine wpList_append_bytes rfl (.tmp 17) (.tmp 20) rfl w.heap.size _ _ rfl O2.out _ (be32 size) rfl I2.out (by simp [be32_len]) K2.out.size ?_
      intro v3 w3 o3 k3
      have O3 := hide o3
      have K3 := hide (K2.out.trans k3)
      clear o3 k3 O2 K2 I2
      go_wp2_with fail
      go_roundw
      case rel => exact ⟨4, by omega, by go_num, by simpa using O3, K3⟩
      case measure => simp [intOf]
    · go_wp2_with fail
      go_ret
      exact ⟨_, rfl, by simpa [head16] using hO.out, hK.out⟩
set_option maxHeartbeats 1600000 in
theorem appsum_any {w : World} {B : Nat} {v : Value} {xs : List Nat} (hown : Own w B v xs) (hB : B ≤ w.heap.size) (A : Option Addr) (n c : Nat) (ps : List Nat) (hP : IsB w (.slice A n c) ps) (hn : ps.length = n) (hb : ∀ x ∈ ps, x < 256)
    (hne : ∀ g, (Value.slice A n c).ownBlock = some g → v.ownBlock ≠ some g) (hlen : xs.length + n ≤ 1000000000) :
    Calls Try.prog 70 #[v, .slice A n c] w fun e w' => ∃ A' c', e = .returned (.slice A' (xs.length + n + 4) c') ∧ Own w' B (.slice A' (xs.length + n + 4) c') (xs ++ sumd ps) ∧ Turn (fun k => some k = v.ownBlock) w w' ∧
      ∀ g, (Value.slice A' (xs.length + n + 4) c').ownBlock = some g → v.ownBlock = some g ∨ w.heap.size ≤ g := by
  have HP := hide hP
  have HN := hide hn
  have HB := hide hb
  have HO := hide hown
  have HNE := hide hne
  clear hP hn hb hown hne
  go_enter Try.func70, Try.ntmps70
  go_wp2_with (at_builtin; refine halt ?_)
  refine ⟨?_⟩
  refine wpList_append_at rfl (.tmp 5) (.tmp 6) rfl B v xs rfl HO.out _ ps rfl HP.out (by rw [HN.out]; omega) hB ?_
  intro v1 w1 o1 g1 l1
  have t1 := Turn.of_grown g1
  have I1 := hide (HP.out.turn t1 (fun b e q => HNE.out b e q.symm))
  have O1 := hide o1
  have L1 := hide l1
  have T1 := hide t1
  clear o1 g1 l1 t1
  go_wp2_with fail
  refine (sum_any A n c ps w1 I1.out.rd HN.out.symm HB.out (by omega)).mono ?_
  rintro e w2 ⟨rfl, rfl⟩
  go_wp2_with fail
  refine (put32_any _ (sumS ps) rfl w1 (by unfold sumS; omega)).mono ?_
  rintro e w3 ⟨s3, rfl, o3, k3⟩
  have O3 := hide (O1.out.keep k3)
  have I3 := hide o3.isB
  have T3 := hide (Turn.of_below (fun k => some k = v.ownBlock) k3)
  have S3 := hide k3.size
  clear o3 k3
  go_wp2_with (at_builtin; refine halt ?_)
  refine ⟨?_⟩
  refine wpList_append_at rfl (.tmp 7) (.tmp 10) rfl B v1 _ rfl O3.out _ (be32 (sumS ps)) rfl I3.out (by rw [List.length_append, be32_len, HN.out]; omega) (Nat.le_trans hB (Nat.le_trans T1.out.size S3.out)) ?_
  intro v4 w4 o4 g4 l4
  rw [List.append_assoc] at o4
  obtain ⟨A4, c4, rfl, i4, m4, q4⟩ := o4.isB.form (n := xs.length + n + 4) (by rw [List.length_append, List.length_append, be32_len, HN.out]; omega)
  have t4 := Turn.of_grown g4
  have TT := hide ((T1.out.trans T3.out).then t4 (fun k e => by
    rcases L1.out with q | q
    · exact .inl (by rw [← q]; exact e)
    · rw [q] at e
      exact .inr (by rw [Option.some.inj e]; exact Nat.le_refl _)))
  have LL : Hid (∀ g, (Value.slice A4 (xs.length + n + 4) c4).ownBlock = some g → v.ownBlock = some g ∨ w.heap.size ≤ g) := hide (fun g hg => by
    rcases l4 with q | q
    · rw [q] at hg
      rcases L1.out with q1 | q1
      · exact .inl (by rw [← q1]; exact hg)
      · rw [q1] at hg
        exact .inr (by rw [← Option.some.inj hg]; exact Nat.le_refl _)
    · rw [q] at hg
      have h9 := T1.out.size
      have h8 := S3.out
      have h7 := Option.some.inj hg
      exact .inr (by omega))
  have O4 := hide o4
  clear o4 g4 l4 t4 i4 m4 q4
  go_wp2_with fail
  go_ret
  exact ⟨_, _, rfl, O4.out, TT.out, LL.out⟩
end Go.Proofs.Ytehgjkckhjggbaa
