/- The contract of the document's Invert. No condition but the widths. -/
import Derived.Test.YteebdlliaipnlaaMRInv
import Derived.Test.YteebdlliaipnlaaLastOp
namespace Go.Proofs.Yteebdlliaipnlaa
open Go.RowKit
theorem OwnMt.block {w : World} {B n : Nat} {v : Value} {W : ML} (h : OwnMt w B v W) (hn : W.length = n) (h1 : 1 ≤ n) : ∃ g c, v = .slice (some ⟨g, 0, none⟩) n c := by
  obtain ⟨vs, o1, o2⟩ := h
  rcases o1.2 with ⟨q, q2⟩ | ⟨g, cap, cur, q, _⟩
  · have := o2.1
    omega
  · rw [o2.1, hn] at q
    exact ⟨g, cap, q⟩
theorem step_append_mrow {w : World} {ops : Array Oper} {o : Oper} {a : Act} {K : Act → World → Prop} {Q : Exit → Act → World → Prop} {E : Prop} (hgd : o.guard = none) (s x : Operand)
    (ho : o.op = .call { callee := .builtin .append, args := #[s, x], argTypes := #[22, 22] })
    (B : Nat) (v : Value) (xss : ML) (hs : a.eval s = v) (hown : OwnMt w B v xss)
    (b : Nat) (u : Value) (xs : List Nat) (hx : a.eval x = .slice (some ⟨b, 0, none⟩) 1 1) (hu : w.cell? ⟨b, 0, none⟩ = some u) (hr : Own w B u xs)
    (hlen : xss.length + 1 ≤ 1099511627776) (hbase : B ≤ w.heap.size)
    (h : ∀ v' w', OwnMt w' B v' (xss ++ [xs]) → Below B w w' → K (a.put o.dst v') w') : if Region.wanted o (yielded ops a.tmps) = true then Oper.wp Try.prog o a w K Q else E := by
  have hw : Region.wanted o (yielded ops a.tmps) = true := by simp [Region.wanted, hgd]
  rw [if_pos hw]
  obtain ⟨i0, hi, hz0, hz1, hz2⟩ := info_parts Try.info_rows
  obtain ⟨vs, h1, h2⟩ := hown
  obtain ⟨A, c, e, _⟩ := hr.form
  have h1' := h1
  unfold OwnV at h1
  refine wp_append_own w s x _ ho B 39 i0 (.slice none 0 0) 1 24 Try.underlying22 hi hz0 hz1 hz2 rfl (by decide) v _ _ hs h1 ⟨b, 0, none⟩ 1 1 [u] hx rfl ?_ ?_ (by rw [h2.1]; unfold maxLen; omega) (by rw [h2.1]; omega) hbase ?_
  · intro j z hj
    match j, hj with
    | 0, hj => simp at hj; subst hj; simpa [Addr.add] using hu
  · intro z hz; simp at hz; subst hz; rw [e]; rfl
  · intro v' w' k1 k2 _
    exact h v' w' (OwnMt.snoc h1' h2 hr (by unfold OwnV; simpa using k1) k2) ((Below.refl _ _).grown k2 hbase fun k hk => (h1.lt k hk).1)
theorem own_empty7 {W : World} {B : Nat} (hB : B ≤ W.heap.size) (b : Nat) (hb : b = W.heap.size) : Own (W.alloc (.cells #[] 5)) B (.slice (some ⟨b, 0, none⟩) 0 0) [] := by
  subst hb
  exact (own_lit W #[] [] rfl (by decide)).more hB
theorem IsBs.snoc {w : World} {vs : List Value} {xss : ML} {v : Value} {xs : List Nat} (h : IsBs w vs xss) (hv : IsB w v xs) : IsBs w (vs ++ [v]) (xss ++ [xs]) := by
  refine ⟨by rw [List.length_append, List.length_append, h.1]; rfl, fun i hi => ?_⟩
  rw [List.length_append] at hi
  simp only [List.getD_eq_getElem?_getD]
  by_cases hlt : i < vs.length
  · rw [List.getElem?_append_left hlt, List.getElem?_append_left (by rw [← h.1]; exact hlt), ← List.getD_eq_getElem?_getD, ← List.getD_eq_getElem?_getD]
    exact h.2 i hlt
  · have e : i = vs.length := by simp at hi; omega
    subst e
    rw [List.getElem?_append_right (Nat.le_refl _), List.getElem?_append_right (by rw [h.1]; exact Nat.le_refl _), h.1, Nat.sub_self]
    exact hv
theorem IsB.tailIs {w : World} {b off n c : Nat} {xs : List Nat} (h : IsB w (.slice (some ⟨b, off, none⟩) n c) xs) (k : Nat) (hk : k ≤ n) : IsB w (.slice (some ⟨b, off + k, none⟩) (n - k) (c - k)) (xs.drop k) := by
  have ht := h.tailAt k hk
  obtain ⟨A, c', e, r, _, l1, l2⟩ := h
  cases e
  exact ⟨_, _, by rw [List.length_drop], ht, (fun q => by cases q), by rw [List.length_drop]; omega, by omega⟩
/-- Rows beside One's, row by row. -/
theorem besides_row {A : ML} {n k : Nat} (hA : Shape A n n) (hk : k < n) : (laid n (n + n) (besides n (en A))).getD k [] = A.getD k [] ++ (oneL n).getD k [] := by
  have hrow := hA.row hk
  have ho := (laid_shape n n dl).row hk
  unfold oneL
  rw [laid_row _ hk, laid_row _ hk]
  apply List.ext_getElem
  · rw [List.length_map, List.length_range, List.length_append, hrow.1, List.length_map, List.length_range]
  · intro j h1 h2
    simp only [List.getElem_map, List.getElem_range]
    unfold besides
    by_cases e : j < n
    · rw [if_pos e, List.getElem_append_left (by rw [hrow.1]; exact e), ← hA.num k j hk]
      have : j < (A.getD k []).length := by rw [hrow.1]; exact e
      simp only [List.getD_eq_getElem?_getD] at this ⊢
      simp [this]
    · rw [if_neg e, List.getElem_append_right (by rw [hrow.1]; omega)]
      simp only [List.getElem_map, List.getElem_range, hrow.1]
theorem rinv_bad (A : Option Addr) (n c : Nat) (xss : ML) (w : World) (hA : IsM w A xss) (hn : xss.length = n) (h63 : n ≤ 9223372036854775807) (h : ¬ (isMt xss = true ∧ (xss.getD 0 []).length = xss.length)) :
    Calls Try.prog 14 #[.slice A n c] w fun e w' => e = .returned (.tuple #[.slice none 0 0, .int .i64 1]) ∧ Below w.heap.size w w' := by
  have HA := hide hA
  have H1 := hide (ris_any A n c xss w hA hn h63)
  have HN := hide hn
  clear hA hn
  rcases h1 : isMt xss with _ | _
  · rw [h1] at H1
    clear h h1
    go_enter Try.func14, Try.ntmps14
    go_wp2_with fail
    refine H1.out.mono ?_
    rintro e w1 ⟨rfl, d, rfl⟩
    go_wp2_with fail
    go_ret2
    exact ⟨rfl, below_draw (Below.refl _ _) _⟩
  · rw [h1] at H1
    have hne : (xss.getD 0 []).length ≠ n := fun e => h ⟨h1, by rw [e, HN.out]⟩
    have hd := of_decide_eq_true h1
    obtain ⟨b, off, A', c', rfl, ck, -, l1, m1⟩ := HA.out.at_ 0 (by omega)
    have ck0 : w.cell? ⟨b, off, none⟩ = some (.slice A' (xss.getD 0 []).length c') := ck
    obtain ⟨m, hm⟩ : ∃ m, m = (xss.getD 0 []).length := ⟨_, rfl⟩
    rw [← hm] at ck0 l1 hne
    have g1 : 0 < (n : Int) := by rw [← HN.out]; omega
    have hne0 : ((n : Int) != (m : Int)) = true := by simp; omega
    clear h h1 hd ck hne hm
    go_enter Try.func14, Try.ntmps14
    go_wp2_with fail
    refine H1.out.mono ?_
    rintro e w1 ⟨rfl, d, rfl⟩
    go_wp2_with fail
    go_ret2
    exact ⟨rfl, below_draw (Below.refl _ _) _⟩
set_option maxHeartbeats 12800000 in
set_option maxRecDepth 100000 in
theorem rinv_mat (A : Option Addr) (n c : Nat) (xss : ML) (w : World) (hA : IsM w A xss) (hs : Shape xss n n) (h1 : 1 ≤ n) (h2 : n ≤ 64) :
    Calls Try.prog 14 #[.slice A n c] w fun e w' => ∃ A2 L c2 k, e = .returned (.tuple #[.slice A2 L.length c2, .int .i64 k]) ∧ IsM w' A2 L ∧ L.length ≤ 64 ∧ invAns xss L k ∧ Below w.heap.size w w' := by
  have H1 := ris_any A n c xss w hA hs.high (by omega)
  have him := hs.isMt h1 h2 h1 h2
  rw [him] at H1
  have hl0 := hs.len_at 0 (by omega)
  have HSQ := hide (show isMt xss = true ∧ (xss.getD 0 []).length = xss.length from ⟨him, by rw [hl0, hs.high]⟩)
  have HLN := hide hs.high
  have HS := hide hs
  have HA := hide hA
  have H1 := hide H1
  obtain ⟨b, off, A', c', rfl, ck, -, l1, m1⟩ := hA.at_ 0 (by rw [hs.high]; omega)
  rw [hl0] at ck l1
  have ck0 : w.cell? ⟨b, off, none⟩ = some (.slice A' n c') := ck
  have g1 : 0 < (n : Int) := by omega
  have hne0 : ((n : Int) != (n : Int)) = false := by simp
  obtain ⟨L0, hL0⟩ : ∃ L0, L0 = laid n (n + n) (besides n (en xss)) := ⟨_, rfl⟩
  have HL0 : Hid (L0.length = n ∧ ∀ k, k < n → L0.getD k [] = xss.getD k [] ++ (oneL n).getD k []) := by
    rw [hL0]
    exact ⟨laid_len _ _ _, fun k hk => besides_row hs hk⟩
  have HH0 : Hid (Half n 0 (en xss) L0) := by rw [hL0]; exact besides_half
  obtain ⟨B, hB⟩ : ∃ B, B = w.heap.size := ⟨_, rfl⟩
  have HB := hide hB
  clear hA hs ck him hl0 hL0 hB
  go_enter Try.func14, Try.ntmps14
  go_wp2_with fail
  refine H1.out.mono ?_
  rintro e w1 ⟨rfl, d, rfl⟩
  go_wp2_with fail
  refine (rone_any n (w.drewN d) h1 h2).mono ?_
  rintro e w2 ⟨vo, rfl, o2, k2⟩
  obtain ⟨Ao, co, rfl, io, lo⟩ := o2.form (n := n) (laid_len _ _ _)
  have IO := hide io
  have K2 := hide (show Below w.heap.size w w2 from ⟨k2.os, k2.tape, k2.output, k2.size, k2.block⟩)
  have HB2 := hide (show B ≤ w2.heap.size by rw [HB.out]; exact K2.out.size)
  clear k2 o2 io H1
  go_wp2_with fail
  go_loopw [7, 8] (fun s i wr => ∃ k : Nat, k ≤ n ∧ i = .int .i64 (k : Int) ∧ Hid (OwnMt wr w2.heap.size s (L0.take k)) ∧ Hid (Below w2.heap.size w2 wr)) (fun _ i _ => n - (intOf i).toNat)
  case atStart => exact ⟨0, Nat.zero_le _, rfl, hide (OwnMt.nil _ _), hide (Below.refl _ _)⟩
  case round =>
    obtain ⟨k, hk, rfl, hown, hbel⟩ := hrel
    by_cases hlt : k < n
    · obtain ⟨b3, off3, A3, c3, e3, ca0, ia, l3, m3⟩ := HA.out.at_ k (by rw [HS.out.high]; exact hlt)
      cases e3
      have hrow := HS.out.row hlt
      rw [hrow.1] at ca0 l3 ia
      have kw := below_step K2.out hbel.out
      have ca := (kw.cell (cell_lt ca0)).trans ca0
      obtain ⟨b4, off4, A4, c4, rfl, co0, ib, l4, m4⟩ := (IO.out.below hbel.out).at_ k (by unfold oneL; rw [laid_len]; exact hlt)
      have ho := (laid_shape n n dl).row hlt
      rw [show ((oneL n).getD k []).length = n from ho.1] at co0 l4 ib
      have HIA := hide (ia.keep kw)
      have HIB := hide ib
      have HST := hide (take_snoc L0 k (by rw [HL0.out.1]; exact hlt))
      have HRO := hide (HL0.out.2 k hlt)
      have HLN1 := hide (show (xss.getD k []).length = n ∧ ((oneL n).getD k []).length = n from ⟨hrow.1, ho.1⟩)
      have HOW := hide hown.out
      have HBL := hide hbel.out
      clear kw ca0 ia ib hrow ho hown hbel
      have KA : Below wr.heap.size wr (wr.alloc (.cells #[] 5)) := below_alloc _ _
      have hbl : b < wr.heap.size := cell_lt ca
      have hbl4 : b4 < wr.heap.size := cell_lt co0
      have L1 : Hid (([] : List Nat).length + (xss.getD k []).length ≤ 140737488355328) := by unfold Hid; rw [HLN1.out.1]; simp; omega
      have L2 : Hid ((xss.getD k []).length + ((oneL n).getD k []).length ≤ 140737488355328) := by unfold Hid; rw [HLN1.out.1, HLN1.out.2]; omega
      have L3 : Hid ((L0.take k).length + 1 ≤ 1099511627776) := by unfold Hid; rw [List.length_take]; omega
      have L4 : Hid ((xss.getD k [] ++ (oneL n).getD k []).length = n + n) := by unfold Hid; rw [List.length_append, HLN1.out.1, HLN1.out.2]
      have HGW := hide HBL.out.size
      go_wp2_with fail
      go_region_law (first
        | (refine step_append_bytes rfl (.tmp 40) (.tmp 44) rfl wr.heap.size _ [] rfl (own_empty7 (W := wr) (Nat.le_refl _) _ rfl) _ (xss.getD k []) rfl (HIA.out.keep ⟨KA.os, KA.tape, KA.output, KA.size, KA.block⟩) L1.out KA.size ?_; intro v5 w5 o5 k5; rw [List.nil_append] at o5; have K5 : Below wr.heap.size wr w5 := (by refine Below.trans ?_ k5; exact ⟨KA.os, KA.tape, KA.output, KA.size, KA.block⟩); have ca5 : w5.cell? ⟨b, off + k, none⟩ = some (.slice A3 n c3) := (by rw [← ca]; exact K5.cell hbl); have co5 : w5.cell? ⟨b4, off4 + k, none⟩ = some (.slice A4 n c4) := (by rw [← co0]; exact K5.cell hbl4))
        | (refine step_append_bytes rfl (.tmp 45) (.tmp 49) rfl wr.heap.size _ (xss.getD k []) rfl o5 _ ((oneL n).getD k []) rfl (HIB.out.keep K5) L2.out K5.size ?_; intro v6 w6 o6 k6; have K6 : Below wr.heap.size wr w6 := (by exact K5.trans k6); obtain ⟨A6, c6, rfl, i6, _, _⟩ := o6.isB.form (n := n + n) L4.out; have KB := below_alloc w6 (.cells #[.slice A6 (n + n) c6] 39); have ca6 : w6.cell? ⟨b, off + k, none⟩ = some (.slice A3 n c3) := (by rw [← ca]; exact K6.cell hbl); have co6 : w6.cell? ⟨b4, off4 + k, none⟩ = some (.slice A4 n c4) := (by rw [← co0]; exact K6.cell hbl4))
        | (refine step_append_mrow rfl (.tmp 39) (.tmp 51) rfl w2.heap.size _ (L0.take k) rfl (HOW.out.keep (by refine below_step K6 ?_; exact ⟨KB.os, KB.tape, KB.output, KB.size, KB.block⟩)) _ _ (xss.getD k [] ++ (oneL n).getD k []) rfl (cell_newAt w6 _ _ rfl) ((o6.more HGW.out).keep ⟨KB.os, KB.tape, KB.output, KB.size, KB.block⟩) L3.out (Nat.le_trans HGW.out (Nat.le_trans K6.size KB.size)) ?_; intro v7 w7 o7 k7))
      all_goals
        rw [← HRO.out, ← HST.out] at o7
        have O7 := hide o7
        have K7 := hide (HBL.out.trans ((K6.mono HGW.out).trans ((KB.mono (Nat.le_trans HGW.out K6.size)).trans (by exact ⟨k7.os, k7.tape, k7.output, k7.size, k7.block⟩))))
        clear o7 k7 KB K6 K5 k5 k6 o5 o6
        go_wp2_with fail
        go_roundw
        case rel => exact ⟨k + 1, by omega, by go_num, O7, K7⟩
        case measure => simp [intOf]; omega
    · obtain rfl : k = n := by omega
      have ow := hown.out
      rw [List.take_of_length_le (by rw [HL0.out.1]; exact Nat.le_refl _)] at ow
      obtain ⟨g, cw, rfl⟩ := ow.block HL0.out.1 h1
      obtain ⟨B2, hB2⟩ : ∃ B2, B2 = w2.heap.size := ⟨_, rfl⟩
      rw [← hB2] at ow
      have HO2 := hide ow
      have KW2 := hide (show Below B w wr by rw [HB.out]; exact below_step K2.out hbel.out)
      have HB22 := hide (show B ≤ B2 by rw [hB2]; exact HB2.out)
      have HSB := hide (show B2 ≤ wr.heap.size by rw [hB2]; exact hbel.out.size)
      clear ow hown hbel hB2 IO HB2 K2
      go_wp2_with fail
      go_loopw [9] (fun i w3 => ∃ q : Nat, q ≤ k ∧ i = .int .i64 (q : Int) ∧ Hid (∃ W, OwnMt w3 B2 (.slice (some ⟨g, 0, none⟩) k cw) W ∧ Half k q (en xss) W) ∧ Hid (Below B w w3) ∧ Hid (B2 ≤ w3.heap.size)) (fun i _ => k - (intOf i).toNat)
      case atStart => exact ⟨0, Nat.zero_le _, rfl, hide ⟨_, HO2.out, HH0.out⟩, KW2, HSB⟩
      case round =>
        obtain ⟨q, hq, rfl, hv, hbel, hsb⟩ := hrel
        by_cases hltq : q < k
        · obtain ⟨W, ow, hw⟩ := hv.out
          have HO := hide ow
          have HW := hide hw
          have SW := hide hw.shape
          clear hv ow hw
          go_wp2_with fail
          go_loop [10] (fun i => ∃ p : Nat, q ≤ p ∧ p ≤ k ∧ i = .int .i64 (p : Int) ∧ Hid (∀ i, q ≤ i → i < p → en W i q = G.zero)) (fun i => k - (intOf i).toNat)
          case atStart => exact ⟨q, Nat.le_refl _, hq, rfl, hide (fun i h1 h2 => by omega)⟩
          case round =>
            obtain ⟨p, hqp, hp, rfl, hno⟩ := hrel
            by_cases hltp : p < k
            · obtain ⟨bp, cp, r1, r2, r3, r4, r5, r6⟩ := HO.out.rowAt SW.out (by omega) p hltp
              have hrow := SW.out.row hltp
              have qx := (r2.cells_ hrow.1 q).1 (by omega)
              rw [SW.out.num p q hltp] at qx
              have hqm : (q : Int) < ((k + k : Nat) : Int) := by omega
              by_cases hz : en W p q = G.zero
              · have hz0 : ((en W p q).n : Int) = 0 := by rw [hz]; rfl
                rw [hz0] at qx
                have HZ := hide hz
                clear hz hz0 r2 r4 hrow
                go_wp2_with fail
                go_round
                case rel =>
                  refine ⟨p + 1, by omega, by omega, by go_num, hide (fun i h0 h => ?_)⟩
                  by_cases e : i = p
                  · subst e; exact HZ.out
                  · exact hno.out i h0 (by omega)
                case measure => simp [intOf]; omega
              · obtain ⟨x, hxe⟩ : ∃ x, x = (en W p q).n := ⟨_, rfl⟩
                have hx8 : x < 256 := by rw [hxe]; exact (en W p q).lt
                have hx0 : x ≠ 0 := fun e => hz (G.ext (by rw [← hxe, e]; rfl))
                have hne : ((x : Int) == 0) = false := by simp; omega
                have hpk : ((p : Int) == (k : Int)) = false := by simp; omega
                have PV := HW.out.pivot hqp hltp hz
                rw [← hxe] at qx PV
                have hy8 : ginv x < 256 := ginv_lt hx8
                have HI := hide (fun w' => rinv_some x w' hx8 hx0)
                obtain ⟨y, hy⟩ : ∃ y, y = ginv x := ⟨_, rfl⟩
                rw [← hy] at hy8 HI PV
                obtain ⟨bq, cq, s1, s2, s3, s4, s5, s6⟩ := HO.out.rowAt SW.out (by omega) q hltq
                have hbg : ¬ bp = g := r4
                have hgb : ¬ g = bp := fun e => r4 e.symm
                have P5 := HO.out.put s2 p
                have S5 := SW.out.set p (SW.out.row hltq).1 (SW.out.row hltq).2
                obtain ⟨b5, c5, t1, -, t3, -, -, -⟩ := P5.rowAt S5 (by omega) q hltq
                have O5 := r2.putIn (k := p) (u := .slice (some ⟨bq, 0, none⟩) (k + k) cq) HO.out
                have KW5 := (HO.out.more HB22.out).below (k := p) (u := .slice (some ⟨bq, 0, none⟩) (k + k) cq) hbel.out
                have HSC := hide (rscale_any (some ⟨bp, 0, none⟩) (k + k) cp y (W.getD p []) (wr.setCell ⟨g, p, none⟩ (.slice (some ⟨bq, 0, none⟩) (k + k) cq)) O5.isB.rd hrow.1 hrow.2 hy8 (by omega))
                have HP5 := hide P5
                have HKW5 := hide KW5
                have HT := hide (And.intro t1 t3)
                have HPV := hide PV
                have HSL := hide (show (scaleR (W.getD p []) y).length = k + k by rw [scaleR_len]; exact hrow.1)
                have hsz5 : Hid (B2 ≤ (wr.setCell ⟨g, p, none⟩ (.slice (some ⟨bq, 0, none⟩) (k + k) cq)).heap.size) := by unfold Hid; rw [World.size_setCell]; exact hsb.out
                clear t1 t3 P5 S5 O5 KW5 PV s2 r2 hrow hz hxe hy hx8 hx0 hy8
                go_wp2_with fail
                refine (HI.out _).mono ?_
                rintro e w4 ⟨rfl, rfl⟩
                go_wp2_with fail
                refine HSC.out.mono ?_
                rintro e w6 ⟨v6, rfl, o6, k6⟩
                obtain ⟨A6, c6, rfl, _, _, _⟩ := o6.isB.form (n := k + k) HSL.out
                have u1 := (k6.cell (cell_lt HT.out.1)).trans HT.out.1
                have u3 := (k6.frozen (p := ⟨g, q, none⟩) (cell_lt HT.out.1)).trans HT.out.2
                have P6 := hide ((HP5.out.keep k6).put (o6.more hsz5.out) q)
                have K6 := hide (((HP5.out.keep k6).more HB22.out).below (k := q) (u := .slice A6 (k + k) c6) (HKW5.out.trans (k6.mono (Nat.le_trans HB22.out hsz5.out))))
                have HS6 := hide (show B2 ≤ (w6.setCell ⟨g, q, none⟩ (.slice A6 (k + k) c6)).heap.size by rw [World.size_setCell]; exact Nat.le_trans hsz5.out k6.size)
                clear o6 k6 r1 r3 s1 s3 hsz5 HSC
                go_wp2_with fail
                go_loopw [12] (fun i w8 => ∃ j : Nat, j ≤ k ∧ i = .int .i64 (j : Int) ∧ Hid (∃ V, OwnMt w8 B2 (.slice (some ⟨g, 0, none⟩) k cw) V ∧ Clear k q j (en xss) V) ∧ Hid (Below B w w8) ∧ Hid (B2 ≤ w8.heap.size)) (fun i _ => k - (intOf i).toNat)
                case atStart => exact ⟨0, Nat.zero_le _, rfl, hide ⟨_, P6.out, ⟨HPV.out.1, HPV.out.2, fun k0 hk0 => absurd hk0 (Nat.not_lt_zero k0)⟩⟩, K6, HS6⟩
                case round =>
                  obtain ⟨j, hj, rfl, hv, hbel8, hsb8⟩ := hrel
                  by_cases hltj : j < k
                  · by_cases ejq : j = q
                    · subst ejq
                      have hjj : ((j : Int) != (j : Int)) = false := by simp
                      go_wp2_with fail
                      go_roundw
                      case rel =>
                        obtain ⟨V, ov, cv⟩ := hv.out
                        exact ⟨j + 1, by omega, by go_num, hide ⟨V, ov, cv.none (.inl rfl)⟩, hbel8, hsb8⟩
                      case measure => simp [intOf]; omega
                    · have hjq : ((j : Int) != (q : Int)) = true := by simp; omega
                      obtain ⟨V, ov, cv⟩ := hv.out
                      have sv := cv.half.shape
                      obtain ⟨bj, cj, r1, r2, r3, r4, r5, r6⟩ := ov.rowAt sv (by omega) j hltj
                      obtain ⟨b2, c2, s1, s2, s3, s4, s5, s6⟩ := ov.rowAt sv (by omega) q hltq
                      have hrow := sv.row hltj
                      have hrc := sv.row hltq
                      have qx := (r2.cells_ hrow.1 q).1 (by omega)
                      rw [sv.num j q hltj] at qx
                      have NX := cv.next hltq hltj ejq
                      obtain ⟨t, ht⟩ : ∃ t, t = (en V j q).n := ⟨_, rfl⟩
                      have ht8 : t < 256 := by rw [ht]; exact (en V j q).lt
                      rw [← ht] at qx NX
                      have HSC := hide (fun W (r : Below wr.heap.size wr W) => rscale_any (some ⟨b2, 0, none⟩) (k + k) c2 t (V.getD q []) W (s2.isB.keep r).rd hrc.1 hrc.2 ht8 (by omega))
                      have HAD := hide (fun W A2 c3 (r : Below wr.heap.size wr W) (z : Rd W A2 (scaleR (V.getD q []) t)) => radd_any (some ⟨bj, 0, none⟩) A2 (k + k) cj c3 (V.getD j []) (scaleR (V.getD q []) t) W (r2.isB.keep r).rd z hrow.1 (by rw [scaleR_len]; exact hrc.1) hrow.2 (scaleR_byte hrc.2) (by omega))
                      have HLS := hide (show (scaleR (V.getD q []) t).length = k + k by rw [scaleR_len]; exact hrc.1)
                      have HLA := hide (show (addR (V.getD j []) (scaleR (V.getD q []) t)).length = k + k by rw [addR_len]; exact hrow.1)
                      have HOV := hide ov
                      have HNX := hide NX
                      have FR := hide r3
                      have hgj : ¬ g = bj := fun e => r4 e.symm
                      have hjg : ¬ bj = g := r4
                      have hqm : (q : Int) < (k : Int) + (k : Int) := by omega
                      have hltj' : (j : Int) < (k : Int) := by omega
                      clear r2 r4 s2 s3 s4 hrow hrc NX ht sv ov cv hv ht8
                      go_wp2_with fail
                      refine Ways.start (fun W' => W'.cell? ⟨g, q, none⟩ = some (.slice (some ⟨b2, 0, none⟩) (k + k) c2) ∧ W'.cell? ⟨g, j, none⟩ = some (.slice (some ⟨bj, 0, none⟩) (k + k) cj) ∧ W'.cell? ⟨bj, q, none⟩ = some (.int .u8 (t : Int))) 20 21 #[false, false, false, false, false, false, false, false, false, false, false, false, false, false, false, false, false, false, false, false, false] (by kernel_rfl) (by kernel_rfl) (by kernel_rfl) ?_
                      have hHeld : wr.drew.cell? ⟨g, q, none⟩ = some (.slice (some ⟨b2, 0, none⟩) (k + k) c2) ∧ wr.drew.cell? ⟨g, j, none⟩ = some (.slice (some ⟨bj, 0, none⟩) (k + k) cj) ∧ wr.drew.cell? ⟨bj, q, none⟩ = some (.int .u8 (t : Int)) := ⟨s1, r1, qx⟩
                      refine' Ways.take (i := 0) (oi := ⟨_, _, _, _, _, _⟩) (v := _) rfl (by kernel_rfl) (by kernel_rfl) (by kernel_rfl) (by kernel_rfl) (fun _ _ _ h => h) hHeld (Or.inl ⟨rfl, ?_⟩) ?_
                      rotate_left
                      · (intro W hW; (try dsimp only at hW); go_simp; (try with_reducible rfl))
                      try simp only [Act.put, List.setIfInBounds_toArray, List.set_cons_zero, List.set_cons_succ]
                      refine' Ways.take (i := 1) (oi := ⟨_, _, _, _, _, _⟩) (v := _) rfl (by kernel_rfl) (by kernel_rfl) (by kernel_rfl) (by kernel_rfl) (fun _ _ _ h => h) hHeld (Or.inl ⟨rfl, ?_⟩) ?_
                      rotate_left
                      · (intro W hW; (try dsimp only at hW); go_simp; (try with_reducible rfl))
                      try simp only [Act.put, List.setIfInBounds_toArray, List.set_cons_zero, List.set_cons_succ]
                      refine' Ways.take (i := 2) (oi := ⟨_, _, _, _, _, _⟩) (v := _) rfl (by kernel_rfl) (by kernel_rfl) (by kernel_rfl) (by kernel_rfl) (fun _ _ _ h => h) hHeld (Or.inl ⟨rfl, ?_⟩) ?_
                      rotate_left
                      · (intro W hW; (try dsimp only at hW); go_simp; (try with_reducible rfl))
                      try simp only [Act.put, List.setIfInBounds_toArray, List.set_cons_zero, List.set_cons_succ]
                      refine' Ways.take (i := 3) (oi := ⟨_, _, _, _, _, _⟩) (v := _) rfl (by kernel_rfl) (by kernel_rfl) (by kernel_rfl) (by kernel_rfl) (fun _ _ _ h => h) hHeld (Or.inl ⟨rfl, ?_⟩) ?_
                      rotate_left
                      · (intro W hW; (try dsimp only at hW); go_simp; (try with_reducible rfl))
                      try simp only [Act.put, List.setIfInBounds_toArray, List.set_cons_zero, List.set_cons_succ]
                      refine' Ways.take (i := 4) (oi := ⟨_, _, _, _, _, _⟩) (v := _) rfl (by kernel_rfl) (by kernel_rfl) (by kernel_rfl) (by kernel_rfl) (fun _ _ _ h => h) hHeld (Or.inl ⟨rfl, ?_⟩) ?_
                      rotate_left
                      · (intro W hW; (try dsimp only at hW); go_simp; (try with_reducible rfl))
                      try simp only [Act.put, List.setIfInBounds_toArray, List.set_cons_zero, List.set_cons_succ]
                      refine' Ways.take (i := 5) (oi := ⟨_, _, _, _, _, _⟩) (v := _) rfl (by kernel_rfl) (by kernel_rfl) (by kernel_rfl) (by kernel_rfl) (fun _ _ _ h => h) hHeld (Or.inl ⟨rfl, ?_⟩) ?_
                      rotate_left
                      · (intro W hW; (try dsimp only at hW); go_simp; (try with_reducible rfl))
                      try simp only [Act.put, List.setIfInBounds_toArray, List.set_cons_zero, List.set_cons_succ]
                      refine' Ways.take (i := 6) (oi := ⟨_, _, _, _, _, _⟩) (v := _) rfl (by kernel_rfl) (by kernel_rfl) (by kernel_rfl) (by kernel_rfl) (fun _ _ _ h => h) hHeld (Or.inl ⟨rfl, ?_⟩) ?_
                      rotate_left
                      · (intro W hW; (try dsimp only at hW); go_simp; (try with_reducible rfl))
                      try simp only [Act.put, List.setIfInBounds_toArray, List.set_cons_zero, List.set_cons_succ]
                      refine' Ways.take (i := 7) (oi := ⟨_, _, _, _, _, _⟩) (v := _) rfl (by kernel_rfl) (by kernel_rfl) (by kernel_rfl) (by kernel_rfl) (fun _ _ _ h => h) hHeld (Or.inl ⟨rfl, ?_⟩) ?_
                      rotate_left
                      · (intro W hW; (try dsimp only at hW); go_simp; (try with_reducible rfl))
                      try simp only [Act.put, List.setIfInBounds_toArray, List.set_cons_zero, List.set_cons_succ]
                      refine' Ways.take (i := 8) (oi := ⟨_, _, _, _, _, _⟩) (v := _) rfl (by kernel_rfl) (by kernel_rfl) (by kernel_rfl) (by kernel_rfl) (fun _ _ _ h => h) hHeld (Or.inl ⟨rfl, ?_⟩) ?_
                      rotate_left
                      · (intro W hW; (try dsimp only at hW); go_simp; (try with_reducible rfl))
                      try simp only [Act.put, List.setIfInBounds_toArray, List.set_cons_zero, List.set_cons_succ]
                      refine' Ways.take (i := 9) (oi := ⟨_, _, _, _, _, _⟩) (v := _) rfl (by kernel_rfl) (by kernel_rfl) (by kernel_rfl) (by kernel_rfl) (fun _ _ _ h => h) hHeld (Or.inl ⟨rfl, ?_⟩) ?_
                      rotate_left
                      · (intro W hW; (try dsimp only at hW); go_simp; (try with_reducible rfl))
                      try simp only [Act.put, List.setIfInBounds_toArray, List.set_cons_zero, List.set_cons_succ]
                      refine' Ways.take (i := 10) (oi := ⟨_, _, _, _, _, _⟩) (v := _) rfl (by kernel_rfl) (by kernel_rfl) (by kernel_rfl) (by kernel_rfl) (fun _ _ _ h => h) hHeld (Or.inl ⟨rfl, ?_⟩) ?_
                      rotate_left
                      · (intro W hW; (try dsimp only at hW); go_simp; (try with_reducible rfl))
                      try simp only [Act.put, List.setIfInBounds_toArray, List.set_cons_zero, List.set_cons_succ]
                      refine' Ways.take (i := 11) (oi := ⟨_, _, _, _, _, _⟩) (v := _) rfl (by kernel_rfl) (by kernel_rfl) (by kernel_rfl) (by kernel_rfl) (fun _ _ _ h => h) hHeld (Or.inl ⟨rfl, ?_⟩) ?_
                      rotate_left
                      · (intro W hW; (try dsimp only at hW); go_simp; (try with_reducible rfl))
                      try simp only [Act.put, List.setIfInBounds_toArray, List.set_cons_zero, List.set_cons_succ]
                      refine' Ways.take (i := 12) (oi := ⟨_, _, _, _, _, _⟩) (v := _) rfl (by kernel_rfl) (by kernel_rfl) (by kernel_rfl) (by kernel_rfl) (fun _ _ _ h => h) hHeld (Or.inl ⟨rfl, ?_⟩) ?_
                      rotate_left
                      · (intro W hW; (try dsimp only at hW); go_simp; (try with_reducible rfl))
                      try simp only [Act.put, List.setIfInBounds_toArray, List.set_cons_zero, List.set_cons_succ]
                      refine' Ways.take (i := 13) (oi := ⟨_, _, _, _, _, _⟩) (v := _) rfl (by kernel_rfl) (by kernel_rfl) (by kernel_rfl) (by kernel_rfl) (fun _ _ _ h => h) hHeld (Or.inl ⟨rfl, ?_⟩) ?_
                      rotate_left
                      · (intro W hW; (try dsimp only at hW); go_simp; (try with_reducible rfl))
                      try simp only [Act.put, List.setIfInBounds_toArray, List.set_cons_zero, List.set_cons_succ]
                      refine' Ways.take (i := 14) (oi := ⟨_, _, _, _, _, _⟩) (v := _) rfl (by kernel_rfl) (by kernel_rfl) (by kernel_rfl) (by kernel_rfl) (fun _ _ _ h => h) hHeld (Or.inl ⟨rfl, ?_⟩) ?_
                      rotate_left
                      · (intro W hW; (try dsimp only at hW); go_simp; (try with_reducible rfl))
                      try simp only [Act.put, List.setIfInBounds_toArray, List.set_cons_zero, List.set_cons_succ]
                      refine' Ways.take (i := 15) (oi := ⟨_, _, _, _, _, _⟩) (v := _) rfl (by kernel_rfl) (by kernel_rfl) (by kernel_rfl) (by kernel_rfl) (fun _ _ _ h => h) hHeld (Or.inl ⟨rfl, ?_⟩) ?_
                      rotate_left
                      · (intro W hW; (try dsimp only at hW); go_simp; (try with_reducible rfl))
                      try simp only [Act.put, List.setIfInBounds_toArray, List.set_cons_zero, List.set_cons_succ]
                      refine' Ways.take (i := 16) (oi := ⟨_, _, _, _, _, _⟩) (v := _) rfl (by kernel_rfl) (by kernel_rfl) (by kernel_rfl) (by kernel_rfl) (fun _ _ _ h => h) hHeld (Or.inl ⟨rfl, ?_⟩) ?_
                      rotate_left
                      · (intro W hW; (try dsimp only at hW); go_simp; (try with_reducible rfl))
                      try simp only [Act.put, List.setIfInBounds_toArray, List.set_cons_zero, List.set_cons_succ]
                      have KD := below_drewN (Below.refl wr.heap.size wr) 1
                      refine Ways.one (i := 17) (by kernel_rfl) rfl (fun K hK => ?_)
                      go_simp
                      go_at_call 33
                      refine (HSC.out wr.drew KD).mono ?_
                      rintro e w9 ⟨v9, rfl, o9, k9⟩
                      obtain ⟨A9, c9, rfl, i9, _, _⟩ := o9.isB.form (n := k + k) HLS.out
                      have K9 : Below wr.heap.size wr w9 := KD.trans (by exact ⟨k9.os, k9.tape, k9.output, k9.size, k9.block⟩)
                      have x1 := (K9.cell (cell_lt s1)).trans s1
                      have x2 := (K9.cell (cell_lt r1)).trans r1
                      have x3 := (K9.cell (cell_lt qx)).trans qx
                      refine hK.out _ _ ⟨x1, x2, x3⟩ ?_
                      clear hK hHeld o9 k9
                      try simp only [List.setIfInBounds_toArray, List.set_cons_zero, List.set_cons_succ]
                      refine Ways.one (i := 18) (by kernel_rfl) rfl (fun K hK => ?_)
                      go_simp
                      go_at_call 35
                      refine (HAD.out w9 A9 c9 K9 i9.rd).mono ?_
                      rintro e w10 ⟨v10, rfl, o10, k10⟩
                      obtain ⟨A10, c10, rfl, i10, _, _⟩ := o10.isB.form (n := k + k) HLA.out
                      have K10 : Below wr.heap.size wr w10 := K9.trans (k10.mono K9.size)
                      have y1 := (K10.cell (cell_lt s1)).trans s1
                      have y2 := (K10.cell (cell_lt r1)).trans r1
                      have y3 := (K10.cell (cell_lt qx)).trans qx
                      have y4 := (K10.frozen (p := ⟨g, j, none⟩) (cell_lt r1)).trans FR.out
                      refine hK.out _ _ ⟨y1, y2, y3⟩ ?_
                      have HSW := hide hsb8.out
                      have P10 := hide ((HOV.out.keep K10).put (o10.more (Nat.le_trans HSW.out K9.size)) j)
                      have K11 := hide (((HOV.out.keep K10).more HB22.out).below (k := j) (u := .slice A10 (k + k) c10) (hbel8.out.trans (K10.mono (Nat.le_trans HB22.out HSW.out))))
                      have HS11 := hide (show B2 ≤ (w10.setCell ⟨g, j, none⟩ (.slice A10 (k + k) c10)).heap.size by rw [World.size_setCell]; exact Nat.le_trans HSW.out K10.size)
                      clear hK x1 x2 x3 i9 i10 o10 k10 K10
                      try simp only [List.setIfInBounds_toArray, List.set_cons_zero, List.set_cons_succ]
                      have hHeld : w10.cell? ⟨g, q, none⟩ = some (.slice (some ⟨b2, 0, none⟩) (k + k) c2) ∧ w10.cell? ⟨g, j, none⟩ = some (.slice (some ⟨bj, 0, none⟩) (k + k) cj) ∧ w10.cell? ⟨bj, q, none⟩ = some (.int .u8 (t : Int)) := ⟨y1, y2, y3⟩
                      refine' Ways.take (i := 19) (oi := ⟨_, _, _, _, _, _⟩) (v := _) rfl (by kernel_rfl) (by kernel_rfl) (by kernel_rfl) (by kernel_rfl) (fun _ _ _ h => h) hHeld (Or.inl ⟨rfl, ?_⟩) ?_
                      rotate_left
                      · (intro W hW; (try dsimp only at hW); go_simp; (try with_reducible rfl))
                      try simp only [Act.put, List.setIfInBounds_toArray, List.set_cons_zero, List.set_cons_succ]
                      refine Ways.last (by kernel_rfl) rfl (by kernel_rfl) (fun K hK => ?_)
                      go_simp
                      refine hK.out _ _ ?_
                      clear hK hHeld
                      obtain ⟨w11, hw11⟩ : ∃ w11, w11 = w10.setCell ⟨g, j, none⟩ (.slice A10 (k + k) c10) := ⟨_, rfl⟩
                      rw [← hw11] at P10 K11 HS11
                      try rw [← hw11]
                      clear hw11 y1 y2 y3 y4
                      go_wp2_with fail
                      go_roundw
                      case rel => exact ⟨j + 1, by omega, by go_num, hide ⟨_, P10.out, HNX.out⟩, K11, HS11⟩
                      case measure => simp [intOf]; omega
                  · obtain rfl : j = k := by omega
                    go_wp2_with fail
                    go_roundw
                    case rel =>
                      obtain ⟨V, ov, cv⟩ := hv.out
                      exact ⟨q + 1, by omega, by go_num, hide ⟨V, ov, cv.done⟩, hbel8, hsb8⟩
                    case measure => simp [intOf]; omega
            · obtain rfl : p = k := by omega
              have hpp : ((p : Int) == (p : Int)) = true := by simp
              go_wp2_with fail
              go_ret2
              exact ⟨none, [], 0, _, rfl, ⟨[], (fun h => absurd rfl h), ⟨rfl, fun i hi => absurd hi (by simp)⟩⟩, by simp, .inr ⟨HSQ.out.1, HSQ.out.2, .inl ⟨rfl, rfl, by rw [HLN.out]; exact HW.out.flat hltq hno.out⟩⟩, by rw [← HB.out]; exact hbel.out⟩
        · obtain rfl : q = k := by omega
          obtain ⟨W, ow, hw⟩ := hv.out
          have HO := hide ow
          have HW := hide hw
          have SW := hide hw.shape
          have HBE := hide (show Below w.heap.size w wr by rw [← HB.out]; exact hbel.out)
          have HR := hide hw.right
          clear hv ow hw hbel hsb
          rename World => W1
          go_wp2_with fail
          go_loopw [13, 14] (fun s i w3 => ∃ j : Nat, j ≤ q ∧ i = .int .i64 (j : Int) ∧ Hid (∃ vs, OwnV w3 W1.heap.size s vs ∧ IsBs W1 vs ((rightL q W).take j)) ∧ Hid (Below W1.heap.size W1 w3)) (fun _ i _ => q - (intOf i).toNat)
          case atStart => exact ⟨0, Nat.zero_le _, rfl, hide ⟨[], OwnV.nil _ _, ⟨rfl, fun i hi => absurd hi (by simp)⟩⟩, hide (Below.refl _ _)⟩
          case round =>
            obtain ⟨j, hj, rfl, hv, hbel⟩ := hrel
            by_cases hltj : j < q
            · obtain ⟨bj, cj, r1, r2, r3, r4, r5, r6⟩ := HO.out.rowAt SW.out (by omega) j hltj
              have rr1 := (hbel.out.cell (cell_lt r1)).trans r1
              have rr2 := r2.isB.tailIs q (by omega)
              have hrt : (rightL q W).getD j [] = (W.getD j []).drop q := by
                have hl : j < W.length := by rw [SW.out.high]; exact hltj
                simp [rightL, hl]
              have HST := hide (take_snoc (rightL q W) j (by unfold rightL; rw [List.length_map, SW.out.high]; exact hltj))
              rw [← hrt] at rr2
              rw [show (0 : Nat) + q = q by omega, show q + q - q = q by omega] at rr2
              have HRT := hide rr2
              have hcn : ¬ cj = q := by omega
              have hq1 : (q : Int) ≤ (q : Int) + (q : Int) := by omega
              have hq2 : (q : Int) ≤ (cj : Int) := by omega
              have hq3 : q + q - q = q := by omega
              clear rr2 r1 r2 r3 r4 hrt
              go_wp2_with (at_builtin; refine halt ?_)
              refine ⟨?_⟩
              obtain ⟨vs, ov, iv⟩ := hv.out
              have ka := below_alloc wr (.cells #[.slice (some ⟨bj, q, none⟩) q (cj - q)] 39)
              refine wpList_append_row rfl (.tmp 131) (.tmp 138) rfl W1.heap.size _ vs rfl (ov.keep ka) _ _ rfl (cell_newAt _ _ _ rfl) rfl (by rw [iv.1, List.length_take]; omega) (Nat.le_trans hbel.out.size ka.size) ?_
              intro v' w7 o7 k7 _
              have IV := hide (iv.snoc HRT.out)
              rw [← HST.out] at IV
              have O7 := hide o7
              have K7 := hide ((hbel.out.trans (ka.mono hbel.out.size)).trans k7)
              clear o7 k7 ka ov iv hv hbel
              go_wp2_with fail
              go_roundw
              case rel => exact ⟨j + 1, by omega, by go_num, hide ⟨_, O7.out, IV.out⟩, K7⟩
              case measure => simp [intOf]; omega
            · obtain rfl : j = q := by omega
              obtain ⟨vs, ov, iv⟩ := hv.out
              have hrl : (rightL j W).length = j := by unfold rightL; rw [List.length_map, SW.out.high]
              rw [List.take_of_length_le (by rw [hrl]; exact Nat.le_refl _)] at iv
              obtain ⟨Ar, cr, rfl, hrd, _⟩ := ov.form (n := j) (by rw [iv.1, hrl])
              have KE := hide (below_step HBE.out hbel.out)
              have HI := hide (show IsM wr Ar (rightL j W) from ⟨vs, hrd, iv.below hbel.out⟩)
              clear ov iv hv hbel hrd
              go_wp2_with fail
              go_ret2
              exact ⟨Ar, rightL j W, cr, 0, by rw [hrl]; rfl, HI.out, by rw [hrl]; exact h2, .inr ⟨HSQ.out.1, HSQ.out.2, .inr ⟨rfl, by rw [HLN.out]; exact HR.out⟩⟩, KE.out⟩
end Go.Proofs.Yteebdlliaipnlaa
