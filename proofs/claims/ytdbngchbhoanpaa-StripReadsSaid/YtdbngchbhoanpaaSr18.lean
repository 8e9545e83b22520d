/- The contract of the project's Sums: the rows of sums, or refused. Condition: at most 1000000 rows of at most 1000000 numbers. The contracts of the reader of strip's index: what is left of bytes, and a take. Condition: the bytes are no longer than a slice may be. -/
import Derived.Test.YtdbngchbhoanpaaSr9
import Derived.Test.YtdbngchbhoanpaaSr10
import Derived.Test.YtdbngchbhoanpaaSr17
import Derived.Test.YtdbngchbhoanpaaSr8
namespace Go.Proofs.Ytdbngchbhoanpaa
open Go.RowKit
theorem IsM.tail {w : World} {A : Option Addr} {xss : ML} (h : IsM w A xss) {b off k : Nat} (e : A = some ⟨b, off, none⟩) (off' : Nat) (ho : k < xss.length → off' = off + k) : IsM w (some ⟨b, off', none⟩) (xss.drop k) := by
  subst e
  obtain ⟨vs, h1, h2⟩ := h
  refine ⟨vs.drop k, fun hne => ?_, ?_⟩
  · have hl : k < vs.length := by
      rcases Nat.lt_or_ge k vs.length with q | q
      · exact q
      · exact absurd (List.drop_of_length_le q) hne
    obtain ⟨b', off0, e, hc⟩ := h1 (by intro q; rw [q] at hl; exact absurd hl (Nat.not_lt_zero k))
    cases e
    refine ⟨b, off', rfl, fun i hi => ?_⟩
    rw [List.length_drop] at hi
    rw [ho (by rw [← h2.1]; exact hl)]
    have := hc (k + i) (by omega)
    rw [← Nat.add_assoc] at this
    rw [this]
    congr 1
    simp [List.getD_eq_getElem?_getD]
  · refine ⟨by rw [List.length_drop, List.length_drop, h2.1], fun i hi => ?_⟩
    rw [List.length_drop] at hi
    have := h2.2 (k + i) (by omega)
    rw [show (vs.drop k).getD i (.slice none 0 0) = vs.getD (k + i) (.slice none 0 0) by simp [List.getD_eq_getElem?_getD], show (xss.drop k).getD i [] = xss.getD (k + i) [] by simp [List.getD_eq_getElem?_getD]]
    exact this
theorem code_tail (k b : Nat) : Shape ((codeL k b).drop k) b k ∧ ∀ i, i < b → ∀ j, j < k → en ((codeL k b).drop k) i j = codeRow k (k + i) j := by
  have hs : Shape (codeL k b) (k + b) k := by unfold codeL; exact laid_shape _ _ _
  refine ⟨⟨by rw [List.length_drop, hs.high]; omega, fun r hr => hs.wide r (List.mem_of_mem_drop hr), fun r hr => hs.byte r (List.mem_of_mem_drop hr)⟩, fun i hi j hj => ?_⟩
  have e : en ((codeL k b).drop k) i j = en (codeL k b) (k + i) j := by
    unfold en
    congr 1
    simp [List.getD_eq_getElem?_getD]
  rw [e]
  unfold codeL
  exact laid_at _ (by omega) hj
theorem laid_drop (n m k : Nat) (f : Mat) : (laid (k + n) m f).drop k = laid n m (fun i j => f (k + i) j) := by
  apply List.ext_getElem
  · simp [laid]
  · intro i h1 h2
    simp [laid]
/-- What made makes of the Code's last rows. -/
theorem made_word (k b N : Nat) (D : ML) : laid b N (mm k (en ((codeL k b).drop k)) (en D)) = (wordL k b N (en D)).drop k := by
  unfold wordL
  rw [laid_drop]
  refine laid_congr (fun i hi j hj => ?_)
  exact gs_congr (fun t ht => by rw [(code_tail k b).2 i hi t ht])
theorem bad_even {D : ML} {m : Int} (h : ¬ even D) : sumsBad D m := by
  refine .inr (.inr (.inr ?_))
  apply Decidable.byContradiction
  intro q
  refine h ⟨(D.getD 0 []).length, fun r hr _ => ?_⟩
  rcases Decidable.em (r.length = (D.getD 0 []).length) with e | e
  · exact e
  · exact absurd ⟨r, hr, .inr e⟩ q
theorem present_all {D : ML} (h : D.length ≤ (present D).length) : ∀ r ∈ D, r ≠ [] := by
  intro r hr e
  obtain ⟨i, hi, rfl⟩ := List.getElem_of_mem hr
  have hl : (present D).length < D.length := by
    have h1 := List.length_filter_lt_length_iff_exists (l := List.range D.length) (p := fun i => !(D.getD i []).isEmpty)
    rw [List.length_range] at h1
    refine h1.2 ⟨i, List.mem_range.2 hi, ?_⟩
    have : D.getD i [] = [] := by simp [hi, e]
    rw [this]
    simp
  omega
theorem present_some {D : ML} (h : (present D).length < D.length) : ∃ r ∈ D, r = [] := by
  apply Decidable.byContradiction
  intro q
  have e : present D = List.range D.length := List.filter_eq_self.2 (fun i hi => by
    have hi := List.mem_range.1 hi
    have hm := mem_getD (xss := D) (k := i) hi
    cases e : D.getD i [] with
    | nil => exact absurd ⟨_, hm, e⟩ q
    | cons a b => rfl)
  rw [e, List.length_range] at h
  omega
theorem OwnMt.cap_ge {w : World} {B n c : Nat} {A : Option Addr} {xss : ML} (h : OwnMt w B (.slice A n c) xss) : n ≤ c ∧ c ≤ 9223372036854775807 ∧ (1 ≤ n → ∃ g, A = some ⟨g, 0, none⟩) := by
  obtain ⟨vs, h1, _⟩ := h
  rcases h1.2 with ⟨q, q2⟩ | ⟨g, cap, cur, q, _, _, h5, h6, h7, _⟩
  · cases q; exact ⟨by omega, by omega, fun h => by omega⟩
  · cases q; exact ⟨by omega, by unfold maxLen at h6; omega, fun _ => ⟨g, rfl⟩⟩
set_option maxHeartbeats 3200000 in
theorem sumsC : SumsC := by
  intro A n c m D w ⟨hA, hn, h15, hb, hl⟩ hm
  have HA := hide hA
  have HN := hide hn
  have HB := hide hb
  have HL := hide hl
  have HC := hide (code_all (n : Int) m w (by omega) (by omega) hm.1 hm.2)
  by_cases hbad : (n : Int) < 1 ∨ m < 0 ∨ 14 < (n : Int) + m
  · have e1 : codeE (n : Int) m = 1 := if_pos hbad
    rw [e1] at HC
    have ANS := hide (show sumsAns D m [] 1 from .inl ⟨rfl, rfl, by
      unfold sumsBad
      rw [hn]
      omega⟩)
    clear hA hn hb hl hm hbad e1
    go_enter Try.func39, Try.ntmps39
    go_wp2_with fail
    refine HC.out.mono ?_
    rintro e w1 ⟨v, rfl, o1, k1⟩
    go_wp2_with fail
    go_ret2
    exact ⟨_, [], 1, rfl, ⟨none, 0, 0, rfl, rfl, ⟨[], fun h => absurd rfl h, rfl, fun i hi => absurd hi (Nat.not_lt_zero i)⟩, fun _ => rfl, by decide⟩, OwnMt.nil _ _, ANS.out, k1⟩
  · have e1 : codeE (n : Int) m = 0 := if_neg hbad
    have e2 : codeR (n : Int) m = codeL n m.toNat := by unfold codeR; rw [if_neg hbad, Int.toNat_natCast]
    rw [e1, e2] at HC
    obtain ⟨b, rfl⟩ : ∃ b : Nat, m = (b : Int) := ⟨m.toNat, by omega⟩
    rw [Int.toNat_natCast] at HC e2
    have hn1 : 1 ≤ n := by omega
    have h14 : n + b ≤ 14 := by omega
    have hE : ∀ hbd : sumsBad D (b : Int), sumsAns D (b : Int) [] 1 := fun hbd => .inl ⟨rfl, rfl, hbd⟩
    have hOK : (∀ r ∈ D, r ≠ []) → even D → sumsAns D (b : Int) ((wordL n b (D.getD 0 []).length (en D)).drop n) 0 ∧ Shape D n (D.getD 0 []).length := fun hf ⟨N, hN⟩ => by
      have h0 : (D.getD 0 []).length = N := hN _ (mem_getD (by omega)) (hf _ (mem_getD (by omega)))
      refine ⟨.inr ⟨rfl, ?_, by rw [hn, Int.toNat_natCast]⟩, hn, fun r hr => by rw [h0]; exact hN r hr (hf r hr), hb⟩
      rintro (q | q | q | ⟨r, hr, q⟩)
      · omega
      · omega
      · omega
      · rcases q with q | q
        · exact hf r hr q
        · exact q (by rw [h0]; exact hN r hr (hf r hr))
    have HE := hide hE
    have HOK := hide hOK
    have hnil : ∀ W : World, OutM W (.slice none 0 0) [] := fun W => ⟨none, 0, 0, rfl, rfl, ⟨[], fun h => absurd rfl h, rfl, fun i hi => absurd hi (Nat.not_lt_zero i)⟩, fun _ => rfl, by decide⟩
    have HNIL := hide hnil
    clear hA hn hb hl hm hbad e1 e2 hE hOK hnil
    go_enter Try.func39, Try.ntmps39
    go_wp2_with fail
    refine HC.out.mono ?_
    rintro e w1 ⟨v, rfl, o1, k1⟩
    have O1 := hide o1
    have K1 := hide k1
    have A1 := hide (HA.out.below k1)
    have HP := hide (present_any A n c D w1 A1.out HN.out (by omega))
    obtain ⟨A4, c4, rfl, -, -⟩ := o1.form (n := n + b) (by unfold codeL; rw [laid_len])
    have hcap := O1.out.cap_ge
    clear o1 k1 HC
    go_wp2_with fail
    refine HP.out.mono ?_
    rintro e w2 ⟨v, rfl, hp, rfl⟩
    rcases hp with ⟨x, rfl, hset, hev⟩ | ⟨rfl, hev⟩
    · have HX := hide (count_any x w1 hset.1)
      have hdx := present_digs hset (by rw [HN.out]; omega)
      rw [hdx] at HX
      have HEV := hide hev
      clear hset hev hdx HP
      obtain ⟨p, hp⟩ : ∃ p, p = (present D).length := ⟨_, rfl⟩
      rw [← hp] at HX
      have HP := hide hp
      by_cases hlt : p < n
      · have hli : (p : Int) < (n : Int) := by omega
        clear hp
        go_wp2_with fail
        refine HX.out.mono ?_
        rintro e w2 ⟨rfl, rfl⟩
        go_wp2_with fail
        go_ret2
        refine ⟨_, [], 1, rfl, HNIL.out _, OwnMt.nil _ _, HE.out (.inr (.inr (.inr ?_))), K1.out⟩
        obtain ⟨r, hr, e⟩ := present_some (D := D) (by rw [HN.out]; have := HP.out; omega)
        exact ⟨r, hr, .inl e⟩
      · have hli : ¬ (p : Int) < (n : Int) := by omega
        obtain ⟨hans, hsh⟩ := HOK.out (present_all (by rw [HN.out]; have := HP.out; omega)) HEV.out
        obtain ⟨g, rfl⟩ := hcap.2.2 (by omega)
        have hN1 : (D.getD 0 []).length ≤ 1000000 := Nat.le_trans (HL.out _ (mem_getD (by rw [HN.out]; omega))) (by decide)
        have HM := hide (fun (off' cc : Nat) (ho : n < (codeL n b).length → off' = 0 + n) => made_any (some ⟨g, off', none⟩) A b cc n c (D.getD 0 []).length ((codeL n b).drop n) D w1 (O1.out.isM.1.tail rfl off' ho) (code_tail n b).1 A1.out hsh (by omega) hn1 (by omega) hN1)
        rw [made_word] at HM
        have HANS := hide hans
        have hl0 : (codeL n b).length = n + b := by unfold codeL; rw [laid_len]
        have fin : ∀ (W' : World) (B2 g2 : Nat), OwnMt W' B2 (.slice (some ⟨g2, 0, none⟩) b b) ((wordL n b (D.getD 0 []).length (en D)).drop n) → OutM W' (.slice (some ⟨g2, 0, none⟩) b b) ((wordL n b (D.getD 0 []).length (en D)).drop n) := fun _ _ _ h => ⟨_, _, _, rfl, h.isM.2, h.isM.1, h.nilc, by omega⟩
        have FIN := hide fin
        have hc1 : n + b ≤ c4 := hcap.1
        have hc2 : c4 ≤ 9223372036854775807 := hcap.2.1
        clear hans hsh hN1 hp fin hcap
        by_cases hcn : c4 = n
        · have HM := hide (HM.out 0 0 (by rw [hl0]; omega))
          have hnc : (n : Int) ≤ (c4 : Int) := by omega
          have hb0 : (n : Int) ≤ (n : Int) + (b : Int) := by omega
          clear hl0
          go_wp2_with fail
          refine HX.out.mono ?_
          rintro e w2 ⟨rfl, rfl⟩
          go_wp2_with fail
          refine HM.out.mono ?_
          rintro e w3 ⟨g3, rfl, o3, k3⟩
          have O3 := hide (FIN.out _ _ _ o3)
          have P3 := hide (o3.more K1.out.size)
          have K3 := hide (below_step K1.out k3)
          clear o3 k3 HM
          go_wp2_with fail
          go_ret2
          exact ⟨_, _, 0, rfl, O3.out, P3.out, HANS.out, K3.out⟩
        · have HM := hide (HM.out n (c4 - n) (fun _ => by omega))
          clear hl0
          go_wp2_with fail
          refine HX.out.mono ?_
          rintro e w2 ⟨rfl, rfl⟩
          go_wp2_with fail
          refine HM.out.mono ?_
          rintro e w3 ⟨g3, rfl, o3, k3⟩
          have O3 := hide (FIN.out _ _ _ o3)
          have P3 := hide (o3.more K1.out.size)
          have K3 := hide (below_step K1.out k3)
          clear o3 k3 HM
          go_wp2_with fail
          go_ret2
          exact ⟨_, _, 0, rfl, O3.out, P3.out, HANS.out, K3.out⟩
    · clear HP
      go_wp2_with fail
      go_ret2
      exact ⟨_, [], 1, rfl, HNIL.out _, OwnMt.nil _ _, HE.out (bad_even hev), K1.out⟩
end Go.Proofs.Ytdbngchbhoanpaa
namespace Go.Proofs.Ytdbngchbhoanpaa
open Go.RowKit
attribute [local go_sem] Oper.semAt_some
/-- A reader's box, and what is left. -/
structure RdAt (w : World) (B g : Nat) (rest : List Nat) : Prop where
  out : ∃ A n c, Blk w 0 56 g [.slice A n c] ∧ IsB w (.slice A n c) rest ∧ rest.length = n ∧ (A = none ∨ ∃ b o, A = some ⟨b, o, none⟩ ∧ b < B)
theorem isB_turnU {S : Nat → Prop} {w w' : World} {v : Value} {xs : List Nat} (h : IsB w v xs) (t : Turn S w w') (hS : ∀ j, S j → ∀ o u, w.cell? ⟨j, o, none⟩ = some u → ∀ y, u ≠ .int .u8 y) : IsB w' v xs := by
  obtain ⟨A', c, q, rd, z⟩ := h
  refine ⟨A', c, q, fun hne => ?_, z⟩
  obtain ⟨b, off, e1, hc⟩ := rd hne
  exact ⟨b, off, e1, fun j hj => t.cell (hc j hj) (fun hs => hS _ hs _ _ (hc j hj) _ rfl)⟩
theorem box_turn {w : World} {g k : Nat} {A : Option Addr} {n c : Nat} {u : Value} {v : Value} {xs : List Nat} (hb : Blk w 0 56 g [.slice A n c]) (hi : IsB w v xs) : IsB (w.setCell ⟨g, k, none⟩ u) v xs := by
  have ts : Turn (fun j => j = g) w (w.setCell ⟨g, k, none⟩ u) := (Turn.of_grown (grown_set w g k u)).mono (fun j e => by simpa using e)
  refine isB_turnU hi ts (fun j e o u' hc y => ?_)
  subst e
  rw [hb.cell o] at hc
  rcases o with _ | o
  · cases hc; intro h; cases h
  · cases hc
theorem box_ts (w : World) (g : Nat) (u : Value) : Turn (fun j => j = g) w (w.setCell ⟨g, 0, none⟩ u) := (Turn.of_grown (grown_set w g 0 u)).mono (fun j e => by simpa using e)
set_option maxRecDepth 100000 in
theorem take_all (B g q : Nat) (k b o : Nat) (rest : List Nat) (w : World) (hb : Blk w 0 56 g [.slice (some ⟨b, o, none⟩) q q]) (hi : IsB w (.slice (some ⟨b, o, none⟩) q q) rest) (hn : rest.length = q) (hk : q < k) (_hk9 : k ≤ 9223372036854775807) (hbB : b < B) :
    Calls Try.prog 53 #[.pointer (some ⟨g, 0, none⟩), .int .i64 (k : Int)] w fun e w' => ∃ A n c, e = .returned (.slice A n c) ∧ IsB w' (.slice A n c) (rest.take q) ∧ (rest.take q).length = n ∧ RdAt w' B g (rest.drop q) ∧ Turn (fun j => j = g) w w' := by
  have hl := isB_len hi
  have q0 := hb.cell 0
  have f0 := hb.frozen 0
  dsimp only [List.getElem?_cons_zero] at q0
  have hqc1 : (q : Int) ≤ (q : Int) := by omega
  have hq0 : (0 : Int) ≤ (q : Int) := by omega
  have hkz : (q : Int) < (k : Int) := by omega
  have hi1 := hi.take q (by omega)
  have hlt : (rest.take q).length = q := by rw [List.length_take, hn]; omega
  have hi2 : IsB w (.slice (some ⟨b, o, none⟩) 0 0) (rest.drop q) := by
    rw [List.drop_eq_nil_of_le (by omega)]
    exact ⟨_, 0, rfl, fun e => absurd rfl e, fun _ => rfl, Nat.le_refl _, by omega⟩
  have hld : (rest.drop q).length = 0 := by rw [List.length_drop, hn]; try omega
  have HB := hide hb
  have HI1 := hide hi1
  have HI2 := hide hi2
  have HL := hide (And.intro hlt hld)
  clear hb hi hn hi1 hi2 hl hlt hld
  go_enter Try.func53, Try.ntmps53
  go_wp2_with fail
  go_ret
  exact ⟨_, _, _, rfl, box_turn HB.out HI1.out, (by first | exact HL.out.1 | (rw [← List.length_take]; exact HL.out.1)), ⟨⟨_, _, _, HB.out.stored 0 _, box_turn HB.out HI2.out, HL.out.2, .inr ⟨_, _, rfl, hbB⟩⟩⟩, box_ts _ _ _⟩
set_option maxRecDepth 100000 in
theorem take_allE (B g q : Nat) (b o : Nat) (rest : List Nat) (w : World) (hb : Blk w 0 56 g [.slice (some ⟨b, o, none⟩) q q]) (hi : IsB w (.slice (some ⟨b, o, none⟩) q q) rest) (hn : rest.length = q) (hk9 : q ≤ 9223372036854775807) (hbB : b < B) :
    Calls Try.prog 53 #[.pointer (some ⟨g, 0, none⟩), .int .i64 (q : Int)] w fun e w' => ∃ A n c, e = .returned (.slice A n c) ∧ IsB w' (.slice A n c) (rest.take q) ∧ (rest.take q).length = n ∧ RdAt w' B g (rest.drop q) ∧ Turn (fun j => j = g) w w' := by
  have hl := isB_len hi
  have q0 := hb.cell 0
  have f0 := hb.frozen 0
  dsimp only [List.getElem?_cons_zero] at q0
  have hqc1 : (q : Int) ≤ (q : Int) := by omega
  have hq0 : (0 : Int) ≤ (q : Int) := by omega
  have hkz : ¬ (q : Int) < (q : Int) := by omega
  have hi1 := hi.take q (by omega)
  have hlt : (rest.take q).length = q := by rw [List.length_take, hn]; omega
  have hi2 : IsB w (.slice (some ⟨b, o, none⟩) 0 0) (rest.drop q) := by
    rw [List.drop_eq_nil_of_le (by omega)]
    exact ⟨_, 0, rfl, fun e => absurd rfl e, fun _ => rfl, Nat.le_refl _, by omega⟩
  have hld : (rest.drop q).length = 0 := by rw [List.length_drop, hn]; try omega
  have HB := hide hb
  have HI1 := hide hi1
  have HI2 := hide hi2
  have HL := hide (And.intro hlt hld)
  clear hb hi hn hi1 hi2 hl hlt hld
  go_enter Try.func53, Try.ntmps53
  go_wp2_with fail
  go_ret
  exact ⟨_, _, _, rfl, box_turn HB.out HI1.out, (by first | exact HL.out.1 | (rw [← List.length_take]; exact HL.out.1)), ⟨⟨_, _, _, HB.out.stored 0 _, box_turn HB.out HI2.out, HL.out.2, .inr ⟨_, _, rfl, hbB⟩⟩⟩, box_ts _ _ _⟩
set_option maxRecDepth 100000 in
theorem take_over (B g q : Nat) (k b o c : Nat) (rest : List Nat) (w : World) (hb : Blk w 0 56 g [.slice (some ⟨b, o, none⟩) q c]) (hi : IsB w (.slice (some ⟨b, o, none⟩) q c) rest) (hn : rest.length = q) (hcq : ¬ c = q) (hk : q < k) (hk9 : k ≤ 9223372036854775807) (hbB : b < B) :
    Calls Try.prog 53 #[.pointer (some ⟨g, 0, none⟩), .int .i64 (k : Int)] w fun e w' => ∃ A n c, e = .returned (.slice A n c) ∧ IsB w' (.slice A n c) (rest.take q) ∧ (rest.take q).length = n ∧ RdAt w' B g (rest.drop q) ∧ Turn (fun j => j = g) w w' := by
  have hl := isB_len hi
  have q0 := hb.cell 0
  have f0 := hb.frozen 0
  dsimp only [List.getElem?_cons_zero] at q0
  have hc1 : ¬ c = q := hcq
  have hc2 : ¬ q = c := fun e => hcq e.symm
  have hq0 : (0 : Int) ≤ (q : Int) := by omega
  have hqn : (q : Int) ≤ (q : Int) := by omega
  have hqc : (q : Int) ≤ (c : Int) := by omega
  have hkz : (q : Int) < (k : Int) := by omega
  have hi1 := hi.take q (by omega)
  have hlt : (rest.take q).length = q := by rw [List.length_take, hn]; omega
  have hi2 : IsB w (.slice (some ⟨b, o + q, none⟩) 0 (c - q)) (rest.drop q) := by
    have h9 := isB_sub hi q 0 (c - q) (by omega) rfl
    rw [List.drop_eq_nil_of_le (by omega)] at h9 ⊢
    exact h9
  have hld : (rest.drop q).length = 0 := by rw [List.length_drop, hn]; try omega
  have HB := hide hb
  have HI1 := hide hi1
  have HI2 := hide hi2
  have HL := hide (And.intro hlt hld)
  clear hb hi hn hi1 hi2 hl hlt hld
  go_enter Try.func53, Try.ntmps53
  go_wp2_with fail
  go_ret
  exact ⟨_, _, _, rfl, box_turn HB.out HI1.out, (by first | exact HL.out.1 | (rw [← List.length_take]; exact HL.out.1)), ⟨⟨_, _, _, HB.out.stored 0 _, box_turn HB.out HI2.out, HL.out.2, .inr ⟨_, _, rfl, hbB⟩⟩⟩, box_ts _ _ _⟩
set_option maxRecDepth 100000 in
theorem take_part (B g q : Nat) (b o n c : Nat) (rest : List Nat) (w : World) (hb : Blk w 0 56 g [.slice (some ⟨b, o, none⟩) n c]) (hi : IsB w (.slice (some ⟨b, o, none⟩) n c) rest) (hn : rest.length = n) (hcq : ¬ c = q) (hk : q ≤ n) (hk9 : q ≤ 9223372036854775807) (hbB : b < B) :
    Calls Try.prog 53 #[.pointer (some ⟨g, 0, none⟩), .int .i64 (q : Int)] w fun e w' => ∃ A n c, e = .returned (.slice A n c) ∧ IsB w' (.slice A n c) (rest.take q) ∧ (rest.take q).length = n ∧ RdAt w' B g (rest.drop q) ∧ Turn (fun j => j = g) w w' := by
  have hl := isB_len hi
  have q0 := hb.cell 0
  have f0 := hb.frozen 0
  dsimp only [List.getElem?_cons_zero] at q0
  have hc1 : ¬ c = q := hcq
  have hc2 : ¬ q = c := fun e => hcq e.symm
  have hq0 : (0 : Int) ≤ (q : Int) := by omega
  have hqn : (q : Int) ≤ (n : Int) := by omega
  have hqc : (q : Int) ≤ (c : Int) := by omega
  have hkz : ¬ (n : Int) < (q : Int) := by omega
  have hkz2 : ¬ n < q := by omega
  have hi1 := hi.take q (by omega)
  have hlt : (rest.take q).length = q := by rw [List.length_take, hn]; omega
  have hi2 : IsB w (.slice (some ⟨b, o + q, none⟩) (n - q) (c - q)) (rest.drop q) := by
    have h9 := isB_sub hi q (n - q) (c - q) (by omega) rfl
    rw [List.take_of_length_le (by rw [List.length_drop, hn]; omega)] at h9
    exact h9
  have hld : (rest.drop q).length = n - q := by rw [List.length_drop, hn]; try omega
  have HB := hide hb
  have HI1 := hide hi1
  have HI2 := hide hi2
  have HL := hide (And.intro hlt hld)
  clear hb hi hn hi1 hi2 hl hlt hld
  go_enter Try.func53, Try.ntmps53
  go_wp2_with fail
  go_ret
  exact ⟨_, _, _, rfl, box_turn HB.out HI1.out, (by first | exact HL.out.1 | (rw [← List.length_take]; exact HL.out.1)), ⟨⟨_, _, _, HB.out.stored 0 _, box_turn HB.out HI2.out, HL.out.2, .inr ⟨_, _, rfl, hbB⟩⟩⟩, box_ts _ _ _⟩
set_option maxRecDepth 100000 in
theorem take_none (B g q : Nat) (k : Nat) (rest : List Nat) (w : World) (hb : Blk w 0 56 g [.slice none 0 0]) (hi : IsB w (.slice none 0 0) rest) (hn : rest.length = 0) (hq : q = 0) (hk : 0 < k) (hk9 : k ≤ 9223372036854775807) :
    Calls Try.prog 53 #[.pointer (some ⟨g, 0, none⟩), .int .i64 (k : Int)] w fun e w' => ∃ A n c, e = .returned (.slice A n c) ∧ IsB w' (.slice A n c) (rest.take q) ∧ (rest.take q).length = n ∧ RdAt w' B g (rest.drop q) ∧ Turn (fun j => j = g) w w' := by
  have hl := isB_len hi
  have q0 := hb.cell 0
  have f0 := hb.frozen 0
  dsimp only [List.getElem?_cons_zero] at q0
  subst hq
  have hkz : (0 : Int) < (k : Int) := by omega
  have hi1 := hi.take 0 (by omega)
  have hlt : (rest.take 0).length = 0 := by rw [List.length_take, hn]; omega
  have hi2 : IsB w (.slice none 0 0) (rest.drop 0) := by
    rw [List.drop_eq_nil_of_le (by omega)]
    exact ⟨_, 0, rfl, fun e => absurd rfl e, fun _ => rfl, Nat.le_refl _, by omega⟩
  have hld : (rest.drop 0).length = 0 := by rw [List.length_drop, hn]; try omega
  have HB := hide hb
  have HI1 := hide hi1
  have HI2 := hide hi2
  have HL := hide (And.intro hlt hld)
  clear hb hi hn hi1 hi2 hl hlt hld
  go_enter Try.func53, Try.ntmps53
  go_wp2_with fail
  go_ret
  exact ⟨_, _, _, rfl, box_turn HB.out HI1.out, (by first | exact HL.out.1 | (rw [← List.length_take]; exact HL.out.1)), ⟨⟨_, _, _, HB.out.stored 0 _, box_turn HB.out HI2.out, HL.out.2, .inl rfl⟩⟩, box_ts _ _ _⟩
set_option maxRecDepth 100000 in
theorem take_none0 (B g q : Nat)  (rest : List Nat) (w : World) (hb : Blk w 0 56 g [.slice none 0 0]) (hi : IsB w (.slice none 0 0) rest) (hn : rest.length = 0) (hq : q = 0) :
    Calls Try.prog 53 #[.pointer (some ⟨g, 0, none⟩), .int .i64 (0 : Int)] w fun e w' => ∃ A n c, e = .returned (.slice A n c) ∧ IsB w' (.slice A n c) (rest.take q) ∧ (rest.take q).length = n ∧ RdAt w' B g (rest.drop q) ∧ Turn (fun j => j = g) w w' := by
  have hl := isB_len hi
  have q0 := hb.cell 0
  have f0 := hb.frozen 0
  dsimp only [List.getElem?_cons_zero] at q0
  have hkz : ¬ (0 : Int) < (0 : Int) := by omega
  subst hq
  have hi1 := hi.take 0 (by omega)
  have hlt : (rest.take 0).length = 0 := by rw [List.length_take, hn]; omega
  have hi2 : IsB w (.slice none 0 0) (rest.drop 0) := by
    rw [List.drop_eq_nil_of_le (by omega)]
    exact ⟨_, 0, rfl, fun e => absurd rfl e, fun _ => rfl, Nat.le_refl _, by omega⟩
  have hld : (rest.drop 0).length = 0 := by rw [List.length_drop, hn]; try omega
  have HB := hide hb
  have HI1 := hide hi1
  have HI2 := hide hi2
  have HL := hide (And.intro hlt hld)
  clear hb hi hn hi1 hi2 hl hlt hld
  go_enter Try.func53, Try.ntmps53
  go_wp2_with fail
  go_ret
  exact ⟨_, _, _, rfl, box_turn HB.out HI1.out, (by first | exact HL.out.1 | (rw [← List.length_take]; exact HL.out.1)), ⟨⟨_, _, _, HB.out.stored 0 _, box_turn HB.out HI2.out, HL.out.2, .inl rfl⟩⟩, box_ts _ _ _⟩
theorem take_any (B g k : Nat) (rest : List Nat) (w : World) (h : RdAt w B g rest) (hk9 : k ≤ 9223372036854775807) :
    Calls Try.prog 53 #[.pointer (some ⟨g, 0, none⟩), .int .i64 (k : Int)] w fun e w' => ∃ A n c, e = .returned (.slice A n c) ∧ IsB w' (.slice A n c) (rest.take k) ∧ (rest.take k).length = n ∧ RdAt w' B g (rest.drop k) ∧ Turn (fun j => j = g) w w' := by
  obtain ⟨A, n, c, hb, hi, hn, hA⟩ := h.out
  have hl := isB_len hi
  obtain ⟨q, hq⟩ : ∃ q, q = min k n := ⟨_, rfl⟩
  have et : rest.take k = rest.take q := by
    rcases Nat.le_total k n with h1 | h1
    · rw [hq, Nat.min_eq_left h1]
    · rw [hq, Nat.min_eq_right h1, List.take_of_length_le (by omega), List.take_of_length_le (by omega)]
  have ed : rest.drop k = rest.drop q := by
    rcases Nat.le_total k n with h1 | h1
    · rw [hq, Nat.min_eq_left h1]
    · rw [hq, Nat.min_eq_right h1, List.drop_eq_nil_of_le (by omega), List.drop_eq_nil_of_le (by omega)]
  rw [et, ed]
  rcases hA with rfl | ⟨b, o, rfl, hbB⟩
  · obtain ⟨A', c', e, _, hc0, _⟩ := hi
    cases e
    have hc := hc0 rfl
    subst hc
    have hn0 : rest.length = 0 := by omega
    have hq0 : q = 0 := by omega
    have hi' := h.out
    have hb' : Blk w 0 56 g [.slice none 0 0] := by rw [hn0] at hb; exact hb
    have hi9 : IsB w (.slice none 0 0) rest := ⟨none, 0, by rw [hn0], fun e => absurd (List.length_eq_zero_iff.1 hn0) e, fun _ => rfl, by omega, by omega⟩
    by_cases hk0 : 0 < k
    · exact take_none B g q k rest w hb' hi9 hn0 hq0 hk0 hk9
    · have hk0 : k = 0 := by omega
      subst hk0
      exact take_none0 B g q rest w hb' hi9 hn0 hq0
  · by_cases hkn : n < k
    · have hqn : q = n := by omega
      subst hqn
      by_cases hcq : c = q
      · subst hcq
        exact take_all B g c k b o rest w hb hi hn hkn hk9 hbB
      · exact take_over B g q k b o c rest w hb hi hn hcq hkn hk9 hbB
    · have hqk : q = k := by omega
      subst hqk
      by_cases hcq : c = q
      · have hnq : n = q := by omega
        subst hcq
        subst hnq
        exact take_allE B g n b o rest w hb hi hn hk9 hbB
      · exact take_part B g q b o n c rest w hb hi hn hcq (by omega) hk9 hbB
def numR (rest : List Nat) : Nat := if (rvl 0 0 rest).2.2 = 0 then (rvl 0 0 rest).2.1 else rest.length
set_option maxRecDepth 100000 in
theorem number_anyR (B g : Nat) (rest : List Nat) (w : World) (h : RdAt w B g rest) (hb : ∀ x ∈ rest, x < 256) (h9 : rest.length ≤ 1000000000) (hk9 : (rvl 0 0 rest).2.1 ≤ 1000000000) :
    Calls Try.prog 42 #[.pointer (some ⟨g, 0, none⟩)] w fun e w' => e = .returned (.int .u64 ((rvl 0 0 rest).1 : Nat)) ∧ RdAt w' B g (rest.drop (numR rest)) ∧ Turn (fun j => j = g) w w' := by
  obtain ⟨A, n, c, hbk, hi, hn, hA⟩ := h.out
  have hl := isB_len hi
  have q0 := hbk.cell 0
  dsimp only [List.getElem?_cons_zero] at q0
  have UR := hide (uread_any A n c rest w hi.rd hn.symm hb (by omega))
  have TK := hide (fun k (hk : k ≤ 1000000000) => take_any B g k rest w h (by omega))
  unfold numR
  obtain ⟨r, hr⟩ : ∃ r, r = rvl 0 0 rest := ⟨_, rfl⟩
  rw [← hr] at UR hk9 ⊢
  obtain ⟨v, k, e9⟩ := r
  dsimp only at UR hk9 ⊢
  have hn9 : n ≤ 1000000000 := by omega
  have HN := hide hn
  have hlen : rest.length = n := hn
  rw [hlen]
  clear hlen hr hi hn hbk hl h hb
  by_cases he : e9 = 0
  · rw [if_pos he]
    have hez : ((e9 : Int) != 0) = false := by simp; omega
    clear he
    go_enter Try.func42, Try.ntmps42
    go_wp2_with fail
    refine UR.out.mono ?_
    rintro e w1 ⟨rfl, rfl⟩
    go_wp2_with fail
    refine (TK.out k hk9).mono ?_
    rintro e w2 ⟨A2, n2, c2, rfl, i2, l2, r2, t2⟩
    go_wp2_with fail
    go_ret
    exact ⟨rfl, r2, t2⟩
  · rw [if_neg he]
    have hez : ((e9 : Int) != 0) = true := by simp; omega
    clear he
    go_enter Try.func42, Try.ntmps42
    go_wp2_with fail
    refine UR.out.mono ?_
    rintro e w1 ⟨rfl, rfl⟩
    go_wp2_with fail
    refine (TK.out n hn9).mono ?_
    rintro e w2 ⟨A2, n2, c2, rfl, i2, l2, r2, t2⟩
    go_wp2_with fail
    go_ret
    exact ⟨rfl, r2, t2⟩
end Go.Proofs.Ytdbngchbhoanpaa
