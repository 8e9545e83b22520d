/- The walk of the law MatrixCodes: it returns true for any k, m and any pick, and writes nothing that was there. No condition but the widths. -/
import Derived.Test.YteebdlliaipnlaaWalkInv
import Derived.Test.YteebdlliaipnlaaStepN
namespace Go.Proofs.Yteebdlliaipnlaa
open Go.RowKit
def ints (l : List Nat) : List Int := l.map fun x : Nat => (x : Int)
theorem ints_get {l : List Nat} {k : Nat} (h : k < l.length) : (ints l).getD k 0 = ((l.getD k 0 : Nat) : Int) := by simp [ints, h]
theorem ints_len (l : List Nat) : (ints l).length = l.length := by simp [ints]
theorem ints_snoc (l : List Nat) (x : Nat) : ints l ++ [(x : Int)] = ints (l ++ [x]) := by simp [ints]
theorem range_snoc (n : Nat) : ints (List.range n) ++ [(n : Int)] = ints (List.range (n + 1)) := by rw [ints_snoc, List.range_succ]
theorem isI_oneN (w : World) (z : Int) {b : Nat} (h : b = w.heap.size) : IsI (w.alloc (.cells #[.int .i64 z] 3)) (.slice (some ⟨b, 0, none⟩) 1 1) [z] :=
  isI_new w _ _ _ [z] b 1 h rfl rfl (by decide)
theorem IsI.takeI {w : World} {A : Option Addr} {n c : Nat} {zs : List Int} (h : IsI w (.slice A n c) zs) (k : Nat) (hk : k ≤ n) : IsI w (.slice A k c) (zs.take k) := by
  obtain ⟨A', c', e, r, h1, h2⟩ := h
  cases e
  have hl : (zs.take k).length = k := by rw [List.length_take]; omega
  refine ⟨A, c, by rw [hl], ?_, by omega, h2⟩
  intro hne
  obtain ⟨b, off, e, hc⟩ := r (by intro e; rw [e] at hne; simp at hne)
  refine ⟨b, off, e, fun i hi => ?_⟩
  have hi2 : i < k := by omega
  rw [hc i (by omega)]
  congr 2
  simp [hi2]
theorem IsI.dropI {w : World} {b off n c : Nat} {zs : List Int} (h : IsI w (.slice (some ⟨b, off, Option.none⟩) n c) zs) (k : Nat) (hk : k ≤ n) : IsI w (.slice (some ⟨b, if c = k then off else off + k, Option.none⟩) (n - k) (c - k)) (zs.drop k) := by
  obtain ⟨A', c', e, r, h1, h2⟩ := h
  cases e
  refine ⟨_, _, by rw [List.length_drop], fun hne => ?_, by rw [List.length_drop]; omega, by omega⟩
  have hl : 0 < (zs.drop k).length := List.length_pos_iff.2 hne
  rw [List.length_drop] at hl
  rw [if_neg (by omega)]
  obtain ⟨b2, off2, e, hc⟩ := r (by intro q; rw [q] at hne; simp at hne)
  cases e
  refine ⟨b, off + k, rfl, fun i hi => ?_⟩
  rw [List.length_drop] at hi
  have := hc (k + i) (by omega)
  rw [show off + k + i = off + (k + i) by omega, this]
  congr 2
  simp
theorem own_emptyN {W : World} (b : Nat) (hb : b = W.heap.size) : OwnN (W.alloc (.cells #[] 3)) W.heap.size (.slice (some ⟨b, 0, none⟩) 0 0) [] := by
  subst hb
  exact OwnN.empty W
theorem ints_less (l : List Nat) (j : Nat) : (ints l).take j ++ (ints l).drop (j + 1) = ints (l.take j ++ l.drop (j + 1)) := by simp [ints, List.map_take, List.map_drop]
theorem code_more {k m : Int} (h : codeE k m = 0) : ∃ a b : Nat, k = (a : Int) ∧ m = (b : Int) ∧ 1 ≤ a ∧ a + b ≤ 14 ∧ codeR k m = codeL a b := by
  unfold codeE at h
  unfold codeR
  by_cases c : k < 1 ∨ m < 0 ∨ 14 < k + m
  · rw [if_pos c] at h; cases h
  · rw [if_neg c]
    exact ⟨k.toNat, m.toNat, by omega, by omega, by omega, by omega, rfl⟩
theorem code_less {k m : Int} (h : codeE k m ≠ 0) : codeE k m = 1 := by
  unfold codeE at h ⊢
  by_cases c : k < 1 ∨ m < 0 ∨ 14 < k + m
  · rw [if_pos c]
  · rw [if_neg c] at h; exact absurd rfl h
/-- What the pick says of the place. -/
theorem pick_cases (z : Int) (t : Nat) (ht : 1 ≤ t) : ∃ j : Nat, j < t ∧ ((0 ≤ z.tmod t ∧ z.tmod t = (j : Int)) ∨ (z.tmod t < 0 ∧ z.tmod t + t = (j : Int))) := by
  have h1 : z.tmod t < t := Int.tmod_lt_of_pos z (by omega)
  have h2 : -(t : Int) < z.tmod t := Int.lt_tmod_of_pos z (by omega)
  by_cases h : 0 ≤ z.tmod t
  · exact ⟨(z.tmod t).toNat, by omega, .inl ⟨h, by omega⟩⟩
  · exact ⟨(z.tmod t + t).toNat, by omega, .inr ⟨by omega, by omega⟩⟩
set_option maxHeartbeats 6400000 in
set_option maxRecDepth 100000 in
theorem matrixCodes_walk (k m : Int) (A : Option Addr) (np cp : Nat) (zs0 : List Int) (w : World) (wk : (Lit.int .i64 k).wf = true) (wm : (Lit.int .i64 m).wf = true) (hp : IsRow .i64 w A np cp zs0) :
    Calls Try.prog 6 #[.int .i64 k, .int .i64 m, .slice A np cp] w fun e w' => e = .returned (.bool true) ∧ Below w.heap.size w w' := by
  have bk := bounds_i64 wk
  have bm := bounds_i64 wm
  obtain ⟨zs, hzl, -, hzs, h63⟩ := hp.isI
  have M1 := hide (code_all k m w bk.1 bk.2 bm.1 bm.2)
  have M2 := hide (fun w' => rcode_all k m w' bk.1 bk.2 bm.1 bm.2)
  have HC := hide (fun h : codeE k m = 0 => code_more h)
  have HP := hide hzs
  have HZL := hide hzl
  obtain ⟨L, hL⟩ : ∃ L, L = codeR k m := ⟨_, rfl⟩
  obtain ⟨E, hE⟩ : ∃ E, E = codeE k m := ⟨_, rfl⟩
  rw [← hL, ← hE] at M1 M2 HC
  have hen : (E != E) = false := by simp
  clear hzs hzl hp hL hE wk wm bk bm
  go_enter Try.func6, Try.ntmps6
  go_wp2_with fail
  refine M1.out.mono ?_
  rintro e w1 ⟨v, rfl, o1, k1⟩
  have K1 := hide k1
  have O1 := hide o1
  obtain ⟨A1, c1, rfl, i1, l1⟩ := o1.form rfl
  have I1 := hide i1
  clear k1 o1 i1
  go_wp2_with fail
  refine (M2.out _).mono ?_
  rintro e w2 ⟨v, rfl, o2, k2⟩
  obtain ⟨A2, c2, rfl, i2, l2⟩ := o2.form rfl
  have I2 := hide i2
  have I1' := hide (I1.out.below k2)
  have K2 := hide (below_step K1.out k2)
  clear k2 o2 i2 I1 O1 M1 M2
  go_wp2_with fail
  refine (rows_same A1 A2 _ c1 c2 L w2 I1'.out I2.out rfl l1).mono ?_
  rintro e w3 ⟨rfl, d, rfl⟩
  by_cases hE : E = 0
  · subst hE
    by_cases h100 : 100 < np
    · have h1 : 100 < (np : Int) := by omega
      go_wp2_with fail
      refine (known_any _).mono ?_
      rintro e w9 ⟨rfl, k9⟩
      have K9 := hide (below_step (below_draw K2.out d) k9)
      clear k9
      go_wp2_with fail
      go_ret
      exact ⟨rfl, K9.out⟩
    · have h1 : ¬ 100 < (np : Int) := by omega
      obtain ⟨a, b, rfl, rfl, ha, hab, hLc⟩ := HC.out rfl
      subst hLc
      have hLl : (codeL a b).length = a + b := by unfold codeL; rw [laid_len]
      rw [hLl] at l1 l2 ⊢
      have KD := hide (below_draw K2.out d)
      have ID := hide (I1'.out.drewN d)
      obtain ⟨W0, hW0⟩ : ∃ W0, W0 = w2.drewN d := ⟨_, rfl⟩
      rw [← hW0] at KD ID ⊢
      clear hW0 K2 I2 I1' HC
      have hcab : ((a + b : Nat) : Int) = (a : Int) + (b : Int) := by omega
      have hs1 : -9223372036854775808 ≤ (a : Int) + (b : Int) := by omega
      have hs2 : (a : Int) + (b : Int) ≤ 9223372036854775807 := by omega
      have HCA := hide hcab
      clear hcab
      go_wp2_with fail
      go_loopw [11, 12] (fun s i wr => ∃ q : Nat, q ≤ a + b ∧ i = .int .i64 (q : Int) ∧ Hid (OwnN wr W0.heap.size s (ints (List.range q))) ∧ Hid (Below W0.heap.size W0 wr)) (fun _ i _ => a + b - (intOf i).toNat)
      case atStart => exact ⟨0, Nat.zero_le _, rfl, hide (OwnN.nil _ _), hide (Below.refl _ _)⟩
      case round =>
        obtain ⟨q, hq, rfl, hown, hbel⟩ := hrel
        by_cases hlt : q < a + b
        · have hqi : (q : Int) < (a : Int) + (b : Int) := by omega
          go_wp2_with (at_builtin; refine halt ?_)
          refine ⟨?_⟩
          have ka := below_alloc wr (.cells #[.int .i64 (q : Int)] 3)
          have HSZ := hide hbel.out.size
          refine wpList_append_nums rfl (.tmp 54) (.tmp 56) rfl W0.heap.size _ _ rfl (hown.out.keep ka) _ [(q : Int)] rfl (isI_oneN wr _ rfl) (fun _ _ e => by cases e) (by rw [ints_len, List.length_range]; simp; omega) (Nat.le_trans HSZ.out ka.size) ?_
          intro v' w4 o4 k4
          rw [range_snoc] at o4
          have O4 := hide o4
          have K4 := hide ((hbel.out.trans (ka.mono HSZ.out)).trans k4)
          clear o4 k4 ka HSZ hown hbel
          go_wp2_with fail
          go_roundw
          case rel => exact ⟨q + 1, by omega, by go_num, O4, K4⟩
          case measure => simp [intOf]; omega
        · obtain rfl : q = a + b := by omega
          have KW := hide (below_step KD.out hbel.out)
          have IC := hide (ID.out.below hbel.out)
          have ON := hide (hown.out.more (Nat.zero_le _))
          have hqi : ¬ ((a : Int) + (b : Int) < (a : Int) + (b : Int)) := by omega
          have HCL := hide hLl
          clear hown hbel KD ID hLl
          rename World => W1
          rw [HCA.out]
          go_wp2_with fail
          go_loopw [11, 13, 14] (fun lv sv i wr => ∃ (q : Nat) (lf P : List Nat), q ≤ a ∧ i = .int .i64 (q : Int) ∧ Hid (Picks (a + b) lf P) ∧ P.length = q ∧ Hid (OwnN wr 0 lv (ints lf)) ∧ Hid (∃ vs, OwnV wr W1.heap.size sv vs ∧ IsBs W1 vs (P.map fun l => (codeL a b).getD l [])) ∧ Hid (Below W1.heap.size W1 wr)) (fun _ _ i _ => a - (intOf i).toNat)
          case atStart => exact ⟨0, _, [], Nat.zero_le _, rfl, hide (picks_start (a + b)), rfl, ON, hide ⟨[], OwnV.nil _ _, ⟨rfl, fun i hi => absurd hi (by simp)⟩⟩, hide (Below.refl _ _)⟩
          case round =>
            obtain ⟨q, lf, P, hq, rfl, hpk, hPl, hol, hosq, hbel⟩ := hrel
            by_cases hlt : q < a
            · have hcount := hpk.out.count
              obtain ⟨t, ht⟩ : ∃ t, t = lf.length := ⟨_, rfl⟩
              have ht1 : 1 ≤ t := by omega
              have ht14 : t ≤ 14 := by omega
              obtain ⟨gl, cl, rfl, -, lc1, lc2, hcl, -⟩ := hol.out.at_ (n := t) (by rw [ints_len, ht]) ht1
              obtain ⟨z, hz⟩ : ∃ z, z = zs.getD q 0 := ⟨_, rfl⟩
              obtain ⟨j, hjt, hj⟩ : ∃ j : Nat, j < t ∧ ((¬ q < np ∧ j = 0) ∨ (q < np ∧ 0 ≤ z.tmod t ∧ z.tmod t = (j : Int)) ∨ (q < np ∧ z.tmod t < 0 ∧ z.tmod t + t = (j : Int))) := by
                by_cases hqn : q < np
                · obtain ⟨j, h1, h2⟩ := pick_cases z t ht1
                  exact ⟨j, h1, .inr (h2.imp (fun h => ⟨hqn, h⟩) (fun h => ⟨hqn, h⟩))⟩
                · exact ⟨0, by omega, .inl ⟨hqn, rfl⟩⟩
              have kwr := below_step KW.out hbel.out
              have cj := hcl j hjt
              rw [ints_get (by omega)] at cj
              have HLOW := hide (show lf.getD j 0 < a + b by
                have h : j < lf.length := by omega
                have e : lf.getD j 0 = lf[j] := by simp [h]
                rw [e]
                exact hpk.out.lowL _ (List.getElem_mem h))
              have HTK := hide (hpk.out.take (j := j) (by omega))
              obtain ⟨l, hl⟩ : ∃ l, l = lf.getD j 0 := ⟨_, rfl⟩
              rw [← hl] at cj HLOW HTK
              obtain ⟨b3, off3, A3, c3, rfl, cr0, ir, l3, m3⟩ := (IC.out.below hbel.out).at_ l (by rw [HCL.out]; exact HLOW.out)
              have hrl : ((codeL a b).getD l []).length = a := ((laid_shape (a + b) a (codeRow a)).row HLOW.out).1
              rw [hrl] at cr0 l3 ir
              have irW : IsB W1 (.slice A3 a c3) ((codeL a b).getD l []) := by
                obtain ⟨b4, off4, A4, c4, e4, cr4, ir4, -, -⟩ := IC.out.at_ l (by rw [HCL.out]; exact HLOW.out)
                cases e4
                rw [hrl] at cr4 ir4
                have := (hbel.out.cell (cell_lt cr4)).trans cr4
                rw [this] at cr0
                simp only [Option.some.injEq, Value.slice.injEq, true_and] at cr0
                obtain ⟨rfl, rfl⟩ := cr0
                exact ir4
              have HIR := hide irW
              have hli : (l : Int) < (a : Int) + (b : Int) := by have := HLOW.out; omega
              have hlab : (l : Int) < ((a + b : Nat) : Int) := by have := HLOW.out; omega
              have hji : (j : Int) < (t : Int) := by omega
              have ht0 : ((t : Int) == 0) = false := by simp; omega
              have hrd := HP.out.rd
              have HPI := hide (show q < np → ∃ bp offp, A = some ⟨bp, offp, none⟩ ∧ wr.cell? ⟨bp, offp + q, none⟩ = some (.int .i64 z) from fun h => by
                obtain ⟨bp, offp, e, hc⟩ := hrd (by intro e; have := HZL.out; rw [e] at this; simp at this; omega)
                have := hc q (by rw [HZL.out]; exact h)
                rw [← hz] at this
                exact ⟨bp, offp, e, (kwr.cell (cell_lt this)).trans this⟩)
              have HHT := hide ht
              have HOL := hide hol.out
              have HPK := hide hpk.out
              clear kwr irW ir hrl hl hrd hcl hcount hz ht hol hpk
              rcases hj with ⟨hqn, rfl⟩ | ⟨hqn, hz0, hz1⟩ | ⟨hqn, hz0, hz1⟩
              · have hqn' : ¬ (q : Int) < (np : Int) := by omega
                go_wp2_with (at_builtin; refine halt ?_)
                refine ⟨?_⟩
                obtain ⟨vs, ov, iv⟩ := hosq.out
                have ka := below_alloc wr (.cells #[.slice A3 a c3] 39)
                refine wpList_append_row rfl (.tmp 80) (.tmp 88) rfl W1.heap.size _ vs rfl (ov.keep ka) _ _ rfl (cell_newAt _ _ _ rfl) rfl (by rw [iv.1, List.length_map, hPl]; omega) (Nat.le_trans hbel.out.size ka.size) ?_
                intro v' w7 o7 k7 g7
                have IV := hide (iv.snoc HIR.out)
                have OL := ownsRow_apart (HOL.out.keep ka) (ov.keep ka) (by decide) g7
                have IL : IsI w7 (.slice (some ⟨gl, 0, none⟩) t cl) (ints lf) := OwnN.isI (B := 0) OL
                have HT1 := hide (IL.takeI 0 (by omega))
                obtain ⟨p, hp⟩ : ∃ p, p = 0 + 1 := ⟨_, rfl⟩
                have HT2 := hide (IL.dropI p (by omega))
                have O7 := hide o7
                have K7 := hide ((hbel.out.trans (ka.mono hbel.out.size)).trans k7)
                have L1 : Hid (([] : List Int).length + ((ints lf).take 0).length ≤ 1099511627776) := by unfold Hid; rw [List.length_take]; simp <;> omega
                have L2 : Hid (((ints lf).take 0).length + ((ints lf).drop p).length ≤ 1099511627776) := by unfold Hid; rw [List.length_take, List.length_drop, ints_len, ← HHT.out]; omega
                have HDR := ints_less lf 0
                rw [← hp] at HDR
                have HDR := hide HDR
                have hwj : IntKind.i64.wrap 1 = (p : Int) := by rw [IntKind.wrap_i64]; omega
                have hp0 : 0 ≤ (p : Int) := by omega
                have hpt : (p : Int) ≤ (t : Int) := by omega
                have HHTK := HTK
                rw [← hp] at HHTK
                have hjcl : (((0 : Nat) : Int)) ≤ (cl : Int) := by omega
                have hjt2 : (((0 : Nat) : Int)) + 1 ≤ (t : Int) := by omega
                have htcl : (t : Int) ≤ (cl : Int) := by omega
                clear OL IL ov iv o7 k7 g7 ka hbel hosq HOL cj cr0 HPI
                have KA := below_alloc w7 (.cells #[] 3)
                by_cases hcc : cl = p
                · rw [if_pos hcc] at HT2
                  obtain rfl : t = cl := by omega
                  subst hcc
                  rw [Nat.sub_self] at HT2
                  clear hp
                  go_wp2_with fail
                  go_region_law (first
                    | (refine step_append_nums rfl (.tmp 90) (.tmp 93) rfl w7.heap.size _ [] rfl (own_emptyN (W := w7) _ rfl) _ ((ints lf).take 0) rfl (HT1.out.keep ⟨KA.os, KA.tape, KA.output, KA.size, KA.block⟩) (fun _ _ e => (by cases e)) L1.out KA.size ?_; intro v8 w8 o8 k8; rw [List.nil_append] at o8; have K8 : Below w7.heap.size w7 w8 := (by refine Below.trans ?_ k8; exact ⟨KA.os, KA.tape, KA.output, KA.size, KA.block⟩))
                    | (refine step_append_nums rfl (.tmp 94) (.tmp 98) rfl w7.heap.size _ ((ints lf).take 0) rfl o8 _ _ rfl (HT2.out.keep K8) (fun _ _ e => (by cases e)) L2.out K8.size ?_; intro v9 w9 o9 k9))
                  all_goals
                    rw [HDR.out] at o9
                    have K9 := hide (K8.trans (by exact ⟨k9.os, k9.tape, k9.output, k9.size, k9.block⟩))
                    have O9 := hide (o9.more (Nat.zero_le _))
                    have O7' := hide (O7.out.keep K9.out)
                    have KF := hide (K7.out.trans (K9.out.mono K7.out.size))
                    clear o9 k9 k8 o8 K8 K9 O7 K7
                    go_wp2_with fail
                    go_roundw
                    case rel => exact ⟨q + 1, _, P ++ [l], by omega, by go_num, HHTK, by rw [List.length_append, hPl]; rfl, O9, hide ⟨_, O7'.out, by rw [List.map_append]; exact IV.out⟩, KF⟩
                    case measure => simp [intOf]; omega
                · rw [if_neg hcc, Nat.zero_add] at HT2
                  clear hp
                  go_wp2_with fail
                  go_region_law (first
                    | (refine step_append_nums rfl (.tmp 90) (.tmp 93) rfl w7.heap.size _ [] rfl (own_emptyN (W := w7) _ rfl) _ ((ints lf).take 0) rfl (HT1.out.keep ⟨KA.os, KA.tape, KA.output, KA.size, KA.block⟩) (fun _ _ e => (by cases e)) L1.out KA.size ?_; intro v8 w8 o8 k8; rw [List.nil_append] at o8; have K8 : Below w7.heap.size w7 w8 := (by refine Below.trans ?_ k8; exact ⟨KA.os, KA.tape, KA.output, KA.size, KA.block⟩))
                    | (refine step_append_nums rfl (.tmp 94) (.tmp 98) rfl w7.heap.size _ ((ints lf).take 0) rfl o8 _ _ rfl (HT2.out.keep K8) (fun _ _ e => (by cases e)) L2.out K8.size ?_; intro v9 w9 o9 k9))
                  all_goals
                    rw [HDR.out] at o9
                    have K9 := hide (K8.trans (by exact ⟨k9.os, k9.tape, k9.output, k9.size, k9.block⟩))
                    have O9 := hide (o9.more (Nat.zero_le _))
                    have O7' := hide (O7.out.keep K9.out)
                    have KF := hide (K7.out.trans (K9.out.mono K7.out.size))
                    clear o9 k9 k8 o8 K8 K9 O7 K7
                    go_wp2_with fail
                    go_roundw
                    case rel => exact ⟨q + 1, _, P ++ [l], by omega, by go_num, HHTK, by rw [List.length_append, hPl]; rfl, O9, hide ⟨_, O7'.out, by rw [List.map_append]; exact IV.out⟩, KF⟩
                    case measure => simp [intOf]; omega
              · have hqn' : (q : Int) < (np : Int) := by omega
                obtain ⟨bp, offp, rfl, cz⟩ := HPI.out hqn
                go_wp2_with (at_builtin; refine halt ?_)
                refine ⟨?_⟩
                obtain ⟨vs, ov, iv⟩ := hosq.out
                have ka := below_alloc wr (.cells #[.slice A3 a c3] 39)
                refine wpList_append_row rfl (.tmp 80) (.tmp 88) rfl W1.heap.size _ vs rfl (ov.keep ka) _ _ rfl (cell_newAt _ _ _ rfl) rfl (by rw [iv.1, List.length_map, hPl]; omega) (Nat.le_trans hbel.out.size ka.size) ?_
                intro v' w7 o7 k7 g7
                have IV := hide (iv.snoc HIR.out)
                have OL := ownsRow_apart (HOL.out.keep ka) (ov.keep ka) (by decide) g7
                have IL : IsI w7 (.slice (some ⟨gl, 0, none⟩) t cl) (ints lf) := OwnN.isI (B := 0) OL
                have HT1 := hide (IL.takeI j (by omega))
                obtain ⟨p, hp⟩ : ∃ p, p = j + 1 := ⟨_, rfl⟩
                have HT2 := hide (IL.dropI p (by omega))
                have O7 := hide o7
                have K7 := hide ((hbel.out.trans (ka.mono hbel.out.size)).trans k7)
                have L1 : Hid (([] : List Int).length + ((ints lf).take j).length ≤ 1099511627776) := by unfold Hid; rw [List.length_take]; simp <;> omega
                have L2 : Hid (((ints lf).take j).length + ((ints lf).drop p).length ≤ 1099511627776) := by unfold Hid; rw [List.length_take, List.length_drop, ints_len, ← HHT.out]; omega
                have HDR := ints_less lf j
                rw [← hp] at HDR
                have HDR := hide HDR
                have hwj : IntKind.i64.wrap ((j : Int) + 1) = (p : Int) := by rw [IntKind.wrap_i64]; omega
                have hp0 : 0 ≤ (p : Int) := by omega
                have hpt : (p : Int) ≤ (t : Int) := by omega
                have HHTK := HTK
                rw [← hp] at HHTK
                have hjcl : (((j : Nat) : Int)) ≤ (cl : Int) := by omega
                have hjt2 : (((j : Nat) : Int)) + 1 ≤ (t : Int) := by omega
                have htcl : (t : Int) ≤ (cl : Int) := by omega
                clear OL IL ov iv o7 k7 g7 ka hbel hosq HOL cj cr0 HPI
                have KA := below_alloc w7 (.cells #[] 3)
                by_cases hcc : cl = p
                · rw [if_pos hcc] at HT2
                  obtain rfl : t = cl := by omega
                  subst hcc
                  rw [Nat.sub_self] at HT2
                  clear hp
                  go_wp2_with fail
                  go_region_law (first
                    | (refine step_append_nums rfl (.tmp 90) (.tmp 93) rfl w7.heap.size _ [] rfl (own_emptyN (W := w7) _ rfl) _ ((ints lf).take j) rfl (HT1.out.keep ⟨KA.os, KA.tape, KA.output, KA.size, KA.block⟩) (fun _ _ e => (by cases e)) L1.out KA.size ?_; intro v8 w8 o8 k8; rw [List.nil_append] at o8; have K8 : Below w7.heap.size w7 w8 := (by refine Below.trans ?_ k8; exact ⟨KA.os, KA.tape, KA.output, KA.size, KA.block⟩))
                    | (refine step_append_nums rfl (.tmp 94) (.tmp 98) rfl w7.heap.size _ ((ints lf).take j) rfl o8 _ _ rfl (HT2.out.keep K8) (fun _ _ e => (by cases e)) L2.out K8.size ?_; intro v9 w9 o9 k9))
                  all_goals
                    rw [HDR.out] at o9
                    have K9 := hide (K8.trans (by exact ⟨k9.os, k9.tape, k9.output, k9.size, k9.block⟩))
                    have O9 := hide (o9.more (Nat.zero_le _))
                    have O7' := hide (O7.out.keep K9.out)
                    have KF := hide (K7.out.trans (K9.out.mono K7.out.size))
                    clear o9 k9 k8 o8 K8 K9 O7 K7
                    go_wp2_with fail
                    go_roundw
                    case rel => exact ⟨q + 1, _, P ++ [l], by omega, by go_num, HHTK, by rw [List.length_append, hPl]; rfl, O9, hide ⟨_, O7'.out, by rw [List.map_append]; exact IV.out⟩, KF⟩
                    case measure => simp [intOf]; omega
                · rw [if_neg hcc, Nat.zero_add] at HT2
                  clear hp
                  go_wp2_with fail
                  go_region_law (first
                    | (refine step_append_nums rfl (.tmp 90) (.tmp 93) rfl w7.heap.size _ [] rfl (own_emptyN (W := w7) _ rfl) _ ((ints lf).take j) rfl (HT1.out.keep ⟨KA.os, KA.tape, KA.output, KA.size, KA.block⟩) (fun _ _ e => (by cases e)) L1.out KA.size ?_; intro v8 w8 o8 k8; rw [List.nil_append] at o8; have K8 : Below w7.heap.size w7 w8 := (by refine Below.trans ?_ k8; exact ⟨KA.os, KA.tape, KA.output, KA.size, KA.block⟩))
                    | (refine step_append_nums rfl (.tmp 94) (.tmp 98) rfl w7.heap.size _ ((ints lf).take j) rfl o8 _ _ rfl (HT2.out.keep K8) (fun _ _ e => (by cases e)) L2.out K8.size ?_; intro v9 w9 o9 k9))
                  all_goals
                    rw [HDR.out] at o9
                    have K9 := hide (K8.trans (by exact ⟨k9.os, k9.tape, k9.output, k9.size, k9.block⟩))
                    have O9 := hide (o9.more (Nat.zero_le _))
                    have O7' := hide (O7.out.keep K9.out)
                    have KF := hide (K7.out.trans (K9.out.mono K7.out.size))
                    clear o9 k9 k8 o8 K8 K9 O7 K7
                    go_wp2_with fail
                    go_roundw
                    case rel => exact ⟨q + 1, _, P ++ [l], by omega, by go_num, HHTK, by rw [List.length_append, hPl]; rfl, O9, hide ⟨_, O7'.out, by rw [List.map_append]; exact IV.out⟩, KF⟩
                    case measure => simp [intOf]; omega
              · have hqn' : (q : Int) < (np : Int) := by omega
                obtain ⟨bp, offp, rfl, cz⟩ := HPI.out hqn
                go_wp2_with (at_builtin; refine halt ?_)
                refine ⟨?_⟩
                obtain ⟨vs, ov, iv⟩ := hosq.out
                have ka := below_alloc wr (.cells #[.slice A3 a c3] 39)
                refine wpList_append_row rfl (.tmp 80) (.tmp 88) rfl W1.heap.size _ vs rfl (ov.keep ka) _ _ rfl (cell_newAt _ _ _ rfl) rfl (by rw [iv.1, List.length_map, hPl]; omega) (Nat.le_trans hbel.out.size ka.size) ?_
                intro v' w7 o7 k7 g7
                have IV := hide (iv.snoc HIR.out)
                have OL := ownsRow_apart (HOL.out.keep ka) (ov.keep ka) (by decide) g7
                have IL : IsI w7 (.slice (some ⟨gl, 0, none⟩) t cl) (ints lf) := OwnN.isI (B := 0) OL
                have HT1 := hide (IL.takeI j (by omega))
                obtain ⟨p, hp⟩ : ∃ p, p = j + 1 := ⟨_, rfl⟩
                have HT2 := hide (IL.dropI p (by omega))
                have O7 := hide o7
                have K7 := hide ((hbel.out.trans (ka.mono hbel.out.size)).trans k7)
                have L1 : Hid (([] : List Int).length + ((ints lf).take j).length ≤ 1099511627776) := by unfold Hid; rw [List.length_take]; simp <;> omega
                have L2 : Hid (((ints lf).take j).length + ((ints lf).drop p).length ≤ 1099511627776) := by unfold Hid; rw [List.length_take, List.length_drop, ints_len, ← HHT.out]; omega
                have HDR := ints_less lf j
                rw [← hp] at HDR
                have HDR := hide HDR
                have hwj : IntKind.i64.wrap ((j : Int) + 1) = (p : Int) := by rw [IntKind.wrap_i64]; omega
                have hp0 : 0 ≤ (p : Int) := by omega
                have hpt : (p : Int) ≤ (t : Int) := by omega
                have HHTK := HTK
                rw [← hp] at HHTK
                have hjcl : (((j : Nat) : Int)) ≤ (cl : Int) := by omega
                have hjt2 : (((j : Nat) : Int)) + 1 ≤ (t : Int) := by omega
                have htcl : (t : Int) ≤ (cl : Int) := by omega
                clear OL IL ov iv o7 k7 g7 ka hbel hosq HOL cj cr0 HPI
                have KA := below_alloc w7 (.cells #[] 3)
                by_cases hcc : cl = p
                · rw [if_pos hcc] at HT2
                  obtain rfl : t = cl := by omega
                  subst hcc
                  rw [Nat.sub_self] at HT2
                  clear hp
                  go_wp2_with fail
                  go_region_law (first
                    | (refine step_append_nums rfl (.tmp 90) (.tmp 93) rfl w7.heap.size _ [] rfl (own_emptyN (W := w7) _ rfl) _ ((ints lf).take j) rfl (HT1.out.keep ⟨KA.os, KA.tape, KA.output, KA.size, KA.block⟩) (fun _ _ e => (by cases e)) L1.out KA.size ?_; intro v8 w8 o8 k8; rw [List.nil_append] at o8; have K8 : Below w7.heap.size w7 w8 := (by refine Below.trans ?_ k8; exact ⟨KA.os, KA.tape, KA.output, KA.size, KA.block⟩))
                    | (refine step_append_nums rfl (.tmp 94) (.tmp 98) rfl w7.heap.size _ ((ints lf).take j) rfl o8 _ _ rfl (HT2.out.keep K8) (fun _ _ e => (by cases e)) L2.out K8.size ?_; intro v9 w9 o9 k9))
                  all_goals
                    rw [HDR.out] at o9
                    have K9 := hide (K8.trans (by exact ⟨k9.os, k9.tape, k9.output, k9.size, k9.block⟩))
                    have O9 := hide (o9.more (Nat.zero_le _))
                    have O7' := hide (O7.out.keep K9.out)
                    have KF := hide (K7.out.trans (K9.out.mono K7.out.size))
                    clear o9 k9 k8 o8 K8 K9 O7 K7
                    go_wp2_with fail
                    go_roundw
                    case rel => exact ⟨q + 1, _, P ++ [l], by omega, by go_num, HHTK, by rw [List.length_append, hPl]; rfl, O9, hide ⟨_, O7'.out, by rw [List.map_append]; exact IV.out⟩, KF⟩
                    case measure => simp [intOf]; omega
                · rw [if_neg hcc, Nat.zero_add] at HT2
                  clear hp
                  go_wp2_with fail
                  go_region_law (first
                    | (refine step_append_nums rfl (.tmp 90) (.tmp 93) rfl w7.heap.size _ [] rfl (own_emptyN (W := w7) _ rfl) _ ((ints lf).take j) rfl (HT1.out.keep ⟨KA.os, KA.tape, KA.output, KA.size, KA.block⟩) (fun _ _ e => (by cases e)) L1.out KA.size ?_; intro v8 w8 o8 k8; rw [List.nil_append] at o8; have K8 : Below w7.heap.size w7 w8 := (by refine Below.trans ?_ k8; exact ⟨KA.os, KA.tape, KA.output, KA.size, KA.block⟩))
                    | (refine step_append_nums rfl (.tmp 94) (.tmp 98) rfl w7.heap.size _ ((ints lf).take j) rfl o8 _ _ rfl (HT2.out.keep K8) (fun _ _ e => (by cases e)) L2.out K8.size ?_; intro v9 w9 o9 k9))
                  all_goals
                    rw [HDR.out] at o9
                    have K9 := hide (K8.trans (by exact ⟨k9.os, k9.tape, k9.output, k9.size, k9.block⟩))
                    have O9 := hide (o9.more (Nat.zero_le _))
                    have O7' := hide (O7.out.keep K9.out)
                    have KF := hide (K7.out.trans (K9.out.mono K7.out.size))
                    clear o9 k9 k8 o8 K8 K9 O7 K7
                    go_wp2_with fail
                    go_roundw
                    case rel => exact ⟨q + 1, _, P ++ [l], by omega, by go_num, HHTK, by rw [List.length_append, hPl]; rfl, O9, hide ⟨_, O7'.out, by rw [List.map_append]; exact IV.out⟩, KF⟩
                    case measure => simp [intOf]; omega
            · obtain rfl : q = a := by omega
              obtain ⟨vs, ov, iv⟩ := hosq.out
              obtain ⟨Ar, cr, rfl, hrd, _⟩ := ov.form (n := q) (by rw [iv.1, List.length_map, hPl])
              have HI := hide (show IsM wr Ar (P.map fun l => (codeL q b).getD l []) from ⟨vs, hrd, iv.below hbel.out⟩)
              have SH : Shape (P.map fun l => (codeL q b).getD l []) q q := by
                refine ⟨by rw [List.length_map, hPl], fun r hr => ?_, fun r hr => ?_⟩
                · obtain ⟨l, hl, rfl⟩ := List.mem_map.1 hr
                  exact ((laid_shape (q + b) q (codeRow q)).row (hpk.out.low l hl)).1
                · obtain ⟨l, hl, rfl⟩ := List.mem_map.1 hr
                  exact ((laid_shape (q + b) q (codeRow q)).row (hpk.out.low l hl)).2
              have sh := picked_sharp hpk.out hPl (by omega)
              have HV := hide (inv_mat Ar q cr _ wr HI.out SH ha (by omega))
              have HZ := hide (show ∀ L e, invAns (P.map fun l => (codeL q b).getD l []) L e → e = 0 from fun L e h => by
                rcases h with ⟨_, _, h⟩ | ⟨_, _, ⟨_, _, h⟩ | ⟨h, _⟩⟩
                · exact absurd ⟨SH.isMt ha (by omega) ha (by omega), by rw [SH.len_at 0 (by omega), SH.high]⟩ h
                · rw [SH.high] at h; exact absurd sh h
                · exact h)
              have KE := hide (below_step KW.out hbel.out)
              clear ov iv hrd SH sh HI hosq hol hpk hbel
              go_wp2_with fail
              refine HV.out.mono ?_
              rintro e w5 ⟨v5, L5, e5, rfl, -, a5, k5⟩
              obtain rfl := HZ.out L5 e5 a5
              have K5 := hide (below_step KE.out k5)
              clear k5 a5
              go_wp2_with fail
              refine (known_any _).mono ?_
              rintro e w9 ⟨rfl, k9⟩
              have K9 := hide (below_step K5.out k9)
              clear k9
              go_wp2_with fail
              go_ret
              exact ⟨rfl, K9.out⟩
  · have hE0 : (E != 0) = true := by simp [hE]
    clear hE
    go_wp2_with fail
    refine (known_any _).mono ?_
    rintro e w9 ⟨rfl, k9⟩
    have K9 := hide (below_step (below_draw K2.out d) k9)
    clear k9
    go_wp2_with fail
    go_ret
    exact ⟨rfl, K9.out⟩
end Go.Proofs.Yteebdlliaipnlaa
