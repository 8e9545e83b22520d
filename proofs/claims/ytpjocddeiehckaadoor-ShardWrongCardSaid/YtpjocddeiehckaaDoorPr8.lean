/- The contract of the document's Invert. No condition but the widths. The contract of the document's Mend. Condition: rows of at most 1000000 numbers. The contract of the document's alike: whether the rows that are there stand as Mend has them. Condition: rows of at most 1000000 numbers. The contract of the document's Right. Condition: rows of at most 1000000 numbers. The contract of the document's Wrong. Condition: rows of at most 1000000 numbers, at most 1000000 of them. What the project's Mend, Right and Wrong are to answer (to be shown of what lands). Condition: at most 1500 rows of at most 1500 numbers; the library's table of places lies as it was laid. The walks of the laws ShardMends and ShardRights: each returns true and writes nothing that was there, once the project's calls answer as ShardC and ShardD ask. Condition: the form's reach. Words of which some rows are lost: how many are there, what Mend answers of them; one row that is changed: what Right and Wrong answer. It names nothing of the program. The walk of the law ShardTooFew, once the project's calls answer as ShardC asks. Condition: the form's reach. The walk of the law ShardLost, once the project's calls answer as ShardC asks. Condition: the form's reach. Rows that are all there: when they fit one another, and when all but one do, in the words of Right and Wrong. It names nothing of the program. The walk of the law ShardWrong, once the project's calls answer as ShardC asks. Condition: the form's reach. -/
import Derived.Test.YtpjocddeiehckaaDoorPr6
import Derived.Test.YtpjocddeiehckaaDoorPr5
import Derived.Test.YtpjocddeiehckaaDoorPr2
import Derived.Deep.RegionLaw
import Derived.Test.YtpjocddeiehckaaDoorPr7
import Derived.Test.YtpjocddeiehckaaDoorPr4
import Derived.Test.YtpjocddeiehckaaDoorPr1
namespace Go.Proofs.YtpjocddeiehckaaDoor
open Go.RowKit
theorem rinv_bad (A : Option Addr) (n c : Nat) (xss : ML) (w : World) (hA : IsM w A xss) (hn : xss.length = n) (h63 : n ≤ 9223372036854775807) (h : ¬ (isMt xss = true ∧ (xss.getD 0 []).length = xss.length)) :
    Calls Tryd.prog 29 #[.slice A n c] w fun e w' => e = .returned (.tuple #[.slice none 0 0, .int .i64 1]) ∧ Below w.heap.size w w' := by
  have HA := hide hA
  have H1 := hide (ris_any A n c xss w hA hn h63)
  have HN := hide hn
  clear hA hn
  rcases h1 : isMt xss with _ | _
  · rw [h1] at H1
    clear h h1
    go_enter Tryd.func29, Tryd.ntmps29
    go_wp2_with fail
    refine H1.out.mono ?_
    rintro e w1 ⟨rfl, d, rfl⟩
    go_wp2_with fail
    go_ret2
    exact ⟨rfl, below_draw (Below.refl _ _) _⟩
  · rw [h1] at H1
    have hne : (xss.getD 0 []).length ≠ n := fun e => h ⟨h1, by rw [e, HN.out]⟩
    have hd := of_decide_eq_true h1
    obtain ⟨b, off, A', c', rfl, ck, -, l1, m1⟩ := HA.out.at_ 0 (by omega)
    have ck0 : w.cell? ⟨b, off, none⟩ = some (.slice A' (xss.getD 0 []).length c') := ck
    obtain ⟨m, hm⟩ : ∃ m, m = (xss.getD 0 []).length := ⟨_, rfl⟩
    rw [← hm] at ck0 l1 hne
    have g1 : 0 < (n : Int) := by rw [← HN.out]; omega
    have hne0 : ((n : Int) != (m : Int)) = true := by simp; omega
    clear h h1 hd ck hne hm
    go_enter Tryd.func29, Tryd.ntmps29
    go_wp2_with fail
    refine H1.out.mono ?_
    rintro e w1 ⟨rfl, d, rfl⟩
    go_wp2_with fail
    go_ret2
    exact ⟨rfl, below_draw (Below.refl _ _) _⟩
set_option maxHeartbeats 12800000 in
set_option maxRecDepth 100000 in
theorem rinv_mat (A : Option Addr) (n c : Nat) (xss : ML) (w : World) (hA : IsM w A xss) (hs : Shape xss n n) (h1 : 1 ≤ n) (h2 : n ≤ 64) :
    Calls Tryd.prog 29 #[.slice A n c] w fun e w' => ∃ A2 L c2 k, e = .returned (.tuple #[.slice A2 L.length c2, .int .i64 k]) ∧ IsM w' A2 L ∧ L.length ≤ 64 ∧ invAns xss L k ∧ Below w.heap.size w w' := by
  have H1 := ris_any A n c xss w hA hs.high (by omega)
  have him := hs.isMt h1 h2 h1 h2
  rw [him] at H1
  have hl0 := hs.len_at 0 (by omega)
  have HSQ := hide (show isMt xss = true ∧ (xss.getD 0 []).length = xss.length from ⟨him, by rw [hl0, hs.high]⟩)
  have HLN := hide hs.high
  have HS := hide hs
  have HA := hide hA
  have H1 := hide H1
  obtain ⟨b, off, A', c', rfl, ck, -, l1, m1⟩ := hA.at_ 0 (by rw [hs.high]; omega)
  rw [hl0] at ck l1
  have ck0 : w.cell? ⟨b, off, none⟩ = some (.slice A' n c') := ck
  have g1 : 0 < (n : Int) := by omega
  have hne0 : ((n : Int) != (n : Int)) = false := by simp
  obtain ⟨L0, hL0⟩ : ∃ L0, L0 = laid n (n + n) (besides n (en xss)) := ⟨_, rfl⟩
  have HL0 : Hid (L0.length = n ∧ ∀ k, k < n → L0.getD k [] = xss.getD k [] ++ (oneL n).getD k []) := by
    rw [hL0]
    exact ⟨laid_len _ _ _, fun k hk => besides_row hs hk⟩
  have HH0 : Hid (Half n 0 (en xss) L0) := by rw [hL0]; exact besides_half
  obtain ⟨B, hB⟩ : ∃ B, B = w.heap.size := ⟨_, rfl⟩
  have HB := hide hB
  clear hA hs ck him hl0 hL0 hB
  go_enter Tryd.func29, Tryd.ntmps29
  go_wp2_with fail
  refine H1.out.mono ?_
  rintro e w1 ⟨rfl, d, rfl⟩
  go_wp2_with fail
  refine (rone_any n (w.drewN d) h1 h2).mono ?_
  rintro e w2 ⟨vo, rfl, o2, k2⟩
  obtain ⟨Ao, co, rfl, io, lo⟩ := o2.form (n := n) (laid_len _ _ _)
  have IO := hide io
  have K2 := hide (show Below w.heap.size w w2 from ⟨k2.os, k2.tape, k2.output, k2.size, k2.block⟩)
  have HB2 := hide (show B ≤ w2.heap.size by rw [HB.out]; exact K2.out.size)
  clear k2 o2 io H1
  go_wp2_with fail
  go_loopw [7, 8] (fun s i wr => ∃ k : Nat, k ≤ n ∧ i = .int .i64 (k : Int) ∧ Hid (OwnMt wr w2.heap.size s (L0.take k)) ∧ Hid (Below w2.heap.size w2 wr)) (fun _ i _ => n - (intOf i).toNat)
  case atStart => exact ⟨0, Nat.zero_le _, rfl, hide (OwnMt.nil _ _), hide (Below.refl _ _)⟩
  case round =>
    obtain ⟨k, hk, rfl, hown, hbel⟩ := hrel
    by_cases hlt : k < n
    · obtain ⟨b3, off3, A3, c3, e3, ca0, ia, l3, m3⟩ := HA.out.at_ k (by rw [HS.out.high]; exact hlt)
      cases e3
      have hrow := HS.out.row hlt
      rw [hrow.1] at ca0 l3 ia
      have kw := below_step K2.out hbel.out
      have ca := (kw.cell (cell_lt ca0)).trans ca0
      obtain ⟨b4, off4, A4, c4, rfl, co0, ib, l4, m4⟩ := (IO.out.below hbel.out).at_ k (by unfold oneL; rw [laid_len]; exact hlt)
      have ho := (laid_shape n n dl).row hlt
      rw [show ((oneL n).getD k []).length = n from ho.1] at co0 l4 ib
      have HIA := hide (ia.keep kw)
      have HIB := hide ib
      have HST := hide (take_snoc L0 k (by rw [HL0.out.1]; exact hlt))
      have HRO := hide (HL0.out.2 k hlt)
      have HLN1 := hide (show (xss.getD k []).length = n ∧ ((oneL n).getD k []).length = n from ⟨hrow.1, ho.1⟩)
      have HOW := hide hown.out
      have HBL := hide hbel.out
      clear kw ca0 ia ib hrow ho hown hbel
      have KA : Below wr.heap.size wr (wr.alloc (.cells #[] 5)) := below_alloc _ _
      have hbl : b < wr.heap.size := cell_lt ca
      have hbl4 : b4 < wr.heap.size := cell_lt co0
      have L1 : Hid (([] : List Nat).length + (xss.getD k []).length ≤ 140737488355328) := by unfold Hid; rw [HLN1.out.1]; simp; omega
      have L2 : Hid ((xss.getD k []).length + ((oneL n).getD k []).length ≤ 140737488355328) := by unfold Hid; rw [HLN1.out.1, HLN1.out.2]; omega
      have L3 : Hid ((L0.take k).length + 1 ≤ 1099511627776) := by unfold Hid; rw [List.length_take]; omega
      have L4 : Hid ((xss.getD k [] ++ (oneL n).getD k []).length = n + n) := by unfold Hid; rw [List.length_append, HLN1.out.1, HLN1.out.2]
      have HGW := hide HBL.out.size
      go_wp2_with fail
      go_region_law (first
        | (refine step_append_bytes rfl (.tmp 40) (.tmp 44) rfl wr.heap.size _ [] rfl (own_empty7 (W := wr) (Nat.le_refl _) _ rfl) _ (xss.getD k []) rfl (HIA.out.keep ⟨KA.os, KA.tape, KA.output, KA.size, KA.block⟩) L1.out KA.size ?_; intro v5 w5 o5 k5; rw [List.nil_append] at o5; have K5 : Below wr.heap.size wr w5 := (by refine Below.trans ?_ k5; exact ⟨KA.os, KA.tape, KA.output, KA.size, KA.block⟩); have ca5 : w5.cell? ⟨b, off + k, none⟩ = some (.slice A3 n c3) := (by rw [← ca]; exact K5.cell hbl); have co5 : w5.cell? ⟨b4, off4 + k, none⟩ = some (.slice A4 n c4) := (by rw [← co0]; exact K5.cell hbl4))
        | (refine step_append_bytes rfl (.tmp 45) (.tmp 49) rfl wr.heap.size _ (xss.getD k []) rfl o5 _ ((oneL n).getD k []) rfl (HIB.out.keep K5) L2.out K5.size ?_; intro v6 w6 o6 k6; have K6 : Below wr.heap.size wr w6 := (by exact K5.trans k6); obtain ⟨A6, c6, rfl, i6, _, _⟩ := o6.isB.form (n := n + n) L4.out; have KB := below_alloc w6 (.cells #[.slice A6 (n + n) c6] 34); have ca6 : w6.cell? ⟨b, off + k, none⟩ = some (.slice A3 n c3) := (by rw [← ca]; exact K6.cell hbl); have co6 : w6.cell? ⟨b4, off4 + k, none⟩ = some (.slice A4 n c4) := (by rw [← co0]; exact K6.cell hbl4))
        | (refine step_append_mrow rfl (.tmp 39) (.tmp 51) rfl w2.heap.size _ (L0.take k) rfl (HOW.out.keep (by refine below_step K6 ?_; exact ⟨KB.os, KB.tape, KB.output, KB.size, KB.block⟩)) _ _ (xss.getD k [] ++ (oneL n).getD k []) rfl (cell_newAt w6 _ _ rfl) ((o6.more HGW.out).keep ⟨KB.os, KB.tape, KB.output, KB.size, KB.block⟩) L3.out (Nat.le_trans HGW.out (Nat.le_trans K6.size KB.size)) ?_; intro v7 w7 o7 k7))
      all_goals
        rw [← HRO.out, ← HST.out] at o7
        have O7 := hide o7
        have K7 := hide (HBL.out.trans ((K6.mono HGW.out).trans ((KB.mono (Nat.le_trans HGW.out K6.size)).trans (by exact ⟨k7.os, k7.tape, k7.output, k7.size, k7.block⟩))))
        clear o7 k7 KB K6 K5 k5 k6 o5 o6
        go_wp2_with fail
        go_roundw
        case rel => exact ⟨k + 1, by omega, by go_num, O7, K7⟩
        case measure => simp [intOf]; omega
    · obtain rfl : k = n := by omega
      have ow := hown.out
      rw [List.take_of_length_le (by rw [HL0.out.1]; exact Nat.le_refl _)] at ow
      obtain ⟨g, cw, rfl⟩ := ow.block HL0.out.1 h1
      obtain ⟨B2, hB2⟩ : ∃ B2, B2 = w2.heap.size := ⟨_, rfl⟩
      rw [← hB2] at ow
      have HO2 := hide ow
      have KW2 := hide (show Below B w wr by rw [HB.out]; exact below_step K2.out hbel.out)
      have HB22 := hide (show B ≤ B2 by rw [hB2]; exact HB2.out)
      have HSB := hide (show B2 ≤ wr.heap.size by rw [hB2]; exact hbel.out.size)
      clear ow hown hbel hB2 IO HB2 K2
      go_wp2_with fail
      go_loopw [9] (fun i w3 => ∃ q : Nat, q ≤ k ∧ i = .int .i64 (q : Int) ∧ Hid (∃ W, OwnMt w3 B2 (.slice (some ⟨g, 0, none⟩) k cw) W ∧ Half k q (en xss) W) ∧ Hid (Below B w w3) ∧ Hid (B2 ≤ w3.heap.size)) (fun i _ => k - (intOf i).toNat)
      case atStart => exact ⟨0, Nat.zero_le _, rfl, hide ⟨_, HO2.out, HH0.out⟩, KW2, HSB⟩
      case round =>
        obtain ⟨q, hq, rfl, hv, hbel, hsb⟩ := hrel
        by_cases hltq : q < k
        · obtain ⟨W, ow, hw⟩ := hv.out
          have HO := hide ow
          have HW := hide hw
          have SW := hide hw.shape
          clear hv ow hw
          go_wp2_with fail
          go_loop [10] (fun i => ∃ p : Nat, q ≤ p ∧ p ≤ k ∧ i = .int .i64 (p : Int) ∧ Hid (∀ i, q ≤ i → i < p → en W i q = G.zero)) (fun i => k - (intOf i).toNat)
          case atStart => exact ⟨q, Nat.le_refl _, hq, rfl, hide (fun i h1 h2 => by omega)⟩
          case round =>
            obtain ⟨p, hqp, hp, rfl, hno⟩ := hrel
            by_cases hltp : p < k
            · obtain ⟨bp, cp, r1, r2, r3, r4, r5, r6⟩ := HO.out.rowAt SW.out (by omega) p hltp
              have hrow := SW.out.row hltp
              have qx := (r2.cells_ hrow.1 q).1 (by omega)
              rw [SW.out.num p q hltp] at qx
              have hqm : (q : Int) < ((k + k : Nat) : Int) := by omega
              by_cases hz : en W p q = G.zero
              · have hz0 : ((en W p q).n : Int) = 0 := by rw [hz]; rfl
                rw [hz0] at qx
                have HZ := hide hz
                clear hz hz0 r2 r4 hrow
                go_wp2_with fail
                go_round
                case rel =>
                  refine ⟨p + 1, by omega, by omega, by go_num, hide (fun i h0 h => ?_)⟩
                  by_cases e : i = p
                  · subst e; exact HZ.out
                  · exact hno.out i h0 (by omega)
                case measure => simp [intOf]; omega
              · obtain ⟨x, hxe⟩ : ∃ x, x = (en W p q).n := ⟨_, rfl⟩
                have hx8 : x < 256 := by rw [hxe]; exact (en W p q).lt
                have hx0 : x ≠ 0 := fun e => hz (G.ext (by rw [← hxe, e]; rfl))
                have hne : ((x : Int) == 0) = false := by simp; omega
                have hpk : ((p : Int) == (k : Int)) = false := by simp; omega
                have PV := HW.out.pivot hqp hltp hz
                rw [← hxe] at qx PV
                have hy8 : ginv x < 256 := ginv_lt hx8
                have HI := hide (fun w' => rinv_some x w' hx8 hx0)
                obtain ⟨y, hy⟩ : ∃ y, y = ginv x := ⟨_, rfl⟩
                rw [← hy] at hy8 HI PV
                obtain ⟨bq, cq, s1, s2, s3, s4, s5, s6⟩ := HO.out.rowAt SW.out (by omega) q hltq
                have hbg : ¬ bp = g := r4
                have hgb : ¬ g = bp := fun e => r4 e.symm
                have P5 := HO.out.put s2 p
                have S5 := SW.out.set p (SW.out.row hltq).1 (SW.out.row hltq).2
                obtain ⟨b5, c5, t1, -, t3, -, -, -⟩ := P5.rowAt S5 (by omega) q hltq
                have O5 := r2.putIn (k := p) (u := .slice (some ⟨bq, 0, none⟩) (k + k) cq) HO.out
                have KW5 := (HO.out.more HB22.out).below (k := p) (u := .slice (some ⟨bq, 0, none⟩) (k + k) cq) hbel.out
                have HSC := hide (rscale_any (some ⟨bp, 0, none⟩) (k + k) cp y (W.getD p []) (wr.setCell ⟨g, p, none⟩ (.slice (some ⟨bq, 0, none⟩) (k + k) cq)) O5.isB.rd hrow.1 hrow.2 hy8 (by omega))
                have HP5 := hide P5
                have HKW5 := hide KW5
                have HT := hide (And.intro t1 t3)
                have HPV := hide PV
                have HSL := hide (show (scaleR (W.getD p []) y).length = k + k by rw [scaleR_len]; exact hrow.1)
                have hsz5 : Hid (B2 ≤ (wr.setCell ⟨g, p, none⟩ (.slice (some ⟨bq, 0, none⟩) (k + k) cq)).heap.size) := by unfold Hid; rw [World.size_setCell]; exact hsb.out
                clear t1 t3 P5 S5 O5 KW5 PV s2 r2 hrow hz hxe hy hx8 hx0 hy8
                go_wp2_with fail
                refine (HI.out _).mono ?_
                rintro e w4 ⟨rfl, rfl⟩
                go_wp2_with fail
                refine HSC.out.mono ?_
                rintro e w6 ⟨v6, rfl, o6, k6⟩
                obtain ⟨A6, c6, rfl, _, _, _⟩ := o6.isB.form (n := k + k) HSL.out
                have u1 := (k6.cell (cell_lt HT.out.1)).trans HT.out.1
                have u3 := (k6.frozen (p := ⟨g, q, none⟩) (cell_lt HT.out.1)).trans HT.out.2
                have P6 := hide ((HP5.out.keep k6).put (o6.more hsz5.out) q)
                have K6 := hide (((HP5.out.keep k6).more HB22.out).below (k := q) (u := .slice A6 (k + k) c6) (HKW5.out.trans (k6.mono (Nat.le_trans HB22.out hsz5.out))))
                have HS6 := hide (show B2 ≤ (w6.setCell ⟨g, q, none⟩ (.slice A6 (k + k) c6)).heap.size by rw [World.size_setCell]; exact Nat.le_trans hsz5.out k6.size)
                clear o6 k6 r1 r3 s1 s3 hsz5 HSC
                go_wp2_with fail
                go_loopw [12] (fun i w8 => ∃ j : Nat, j ≤ k ∧ i = .int .i64 (j : Int) ∧ Hid (∃ V, OwnMt w8 B2 (.slice (some ⟨g, 0, none⟩) k cw) V ∧ Clear k q j (en xss) V) ∧ Hid (Below B w w8) ∧ Hid (B2 ≤ w8.heap.size)) (fun i _ => k - (intOf i).toNat)
                case atStart => exact ⟨0, Nat.zero_le _, rfl, hide ⟨_, P6.out, ⟨HPV.out.1, HPV.out.2, fun k0 hk0 => absurd hk0 (Nat.not_lt_zero k0)⟩⟩, K6, HS6⟩
                case round =>
                  obtain ⟨j, hj, rfl, hv, hbel8, hsb8⟩ := hrel
                  by_cases hltj : j < k
                  · by_cases ejq : j = q
                    · subst ejq
                      have hjj : ((j : Int) != (j : Int)) = false := by simp
                      go_wp2_with fail
                      go_roundw
                      case rel =>
                        obtain ⟨V, ov, cv⟩ := hv.out
                        exact ⟨j + 1, by omega, by go_num, hide ⟨V, ov, cv.none (.inl rfl)⟩, hbel8, hsb8⟩
                      case measure => simp [intOf]; omega
                    · have hjq : ((j : Int) != (q : Int)) = true := by simp; omega
                      obtain ⟨V, ov, cv⟩ := hv.out
                      have sv := cv.half.shape
                      obtain ⟨bj, cj, r1, r2, r3, r4, r5, r6⟩ := ov.rowAt sv (by omega) j hltj
                      obtain ⟨b2, c2, s1, s2, s3, s4, s5, s6⟩ := ov.rowAt sv (by omega) q hltq
                      have hrow := sv.row hltj
                      have hrc := sv.row hltq
                      have qx := (r2.cells_ hrow.1 q).1 (by omega)
                      rw [sv.num j q hltj] at qx
                      have NX := cv.next hltq hltj ejq
                      obtain ⟨t, ht⟩ : ∃ t, t = (en V j q).n := ⟨_, rfl⟩
                      have ht8 : t < 256 := by rw [ht]; exact (en V j q).lt
                      rw [← ht] at qx NX
                      have HSC := hide (fun W (r : Below wr.heap.size wr W) => rscale_any (some ⟨b2, 0, none⟩) (k + k) c2 t (V.getD q []) W (s2.isB.keep r).rd hrc.1 hrc.2 ht8 (by omega))
                      have HAD := hide (fun W A2 c3 (r : Below wr.heap.size wr W) (z : Rd W A2 (scaleR (V.getD q []) t)) => radd_any (some ⟨bj, 0, none⟩) A2 (k + k) cj c3 (V.getD j []) (scaleR (V.getD q []) t) W (r2.isB.keep r).rd z hrow.1 (by rw [scaleR_len]; exact hrc.1) hrow.2 (scaleR_byte hrc.2) (by omega))
                      have HLS := hide (show (scaleR (V.getD q []) t).length = k + k by rw [scaleR_len]; exact hrc.1)
                      have HLA := hide (show (addR (V.getD j []) (scaleR (V.getD q []) t)).length = k + k by rw [addR_len]; exact hrow.1)
                      have HOV := hide ov
                      have HNX := hide NX
                      have FR := hide r3
                      have hgj : ¬ g = bj := fun e => r4 e.symm
                      have hjg : ¬ bj = g := r4
                      have hqm : (q : Int) < (k : Int) + (k : Int) := by omega
                      have hltj' : (j : Int) < (k : Int) := by omega
                      clear r2 r4 s2 s3 s4 hrow hrc NX ht sv ov cv hv ht8
                      go_wp2_with fail
                      refine Ways.start (fun W' => W'.cell? ⟨g, q, none⟩ = some (.slice (some ⟨b2, 0, none⟩) (k + k) c2) ∧ W'.cell? ⟨g, j, none⟩ = some (.slice (some ⟨bj, 0, none⟩) (k + k) cj) ∧ W'.cell? ⟨bj, q, none⟩ = some (.int .u8 (t : Int))) 20 21 #[false, false, false, false, false, false, false, false, false, false, false, false, false, false, false, false, false, false, false, false, false] (by kernel_rfl) (by kernel_rfl) (by kernel_rfl) ?_
                      have hHeld : wr.drew.cell? ⟨g, q, none⟩ = some (.slice (some ⟨b2, 0, none⟩) (k + k) c2) ∧ wr.drew.cell? ⟨g, j, none⟩ = some (.slice (some ⟨bj, 0, none⟩) (k + k) cj) ∧ wr.drew.cell? ⟨bj, q, none⟩ = some (.int .u8 (t : Int)) := ⟨s1, r1, qx⟩
                      refine' Ways.take (i := 0) (oi := ⟨_, _, _, _, _, _⟩) (v := _) rfl (by kernel_rfl) (by kernel_rfl) (by kernel_rfl) (by kernel_rfl) (fun _ _ _ h => h) hHeld (Or.inl ⟨rfl, ?_⟩) ?_
                      rotate_left
                      · (intro W hW; (try dsimp only at hW); go_simp; (try with_reducible rfl))
                      try simp only [Act.put, List.setIfInBounds_toArray, List.set_cons_zero, List.set_cons_succ]
                      refine' Ways.take (i := 1) (oi := ⟨_, _, _, _, _, _⟩) (v := _) rfl (by kernel_rfl) (by kernel_rfl) (by kernel_rfl) (by kernel_rfl) (fun _ _ _ h => h) hHeld (Or.inl ⟨rfl, ?_⟩) ?_
                      rotate_left
                      · (intro W hW; (try dsimp only at hW); go_simp; (try with_reducible rfl))
                      try simp only [Act.put, List.setIfInBounds_toArray, List.set_cons_zero, List.set_cons_succ]
                      refine' Ways.take (i := 2) (oi := ⟨_, _, _, _, _, _⟩) (v := _) rfl (by kernel_rfl) (by kernel_rfl) (by kernel_rfl) (by kernel_rfl) (fun _ _ _ h => h) hHeld (Or.inl ⟨rfl, ?_⟩) ?_
                      rotate_left
                      · (intro W hW; (try dsimp only at hW); go_simp; (try with_reducible rfl))
                      try simp only [Act.put, List.setIfInBounds_toArray, List.set_cons_zero, List.set_cons_succ]
                      refine' Ways.take (i := 3) (oi := ⟨_, _, _, _, _, _⟩) (v := _) rfl (by kernel_rfl) (by kernel_rfl) (by kernel_rfl) (by kernel_rfl) (fun _ _ _ h => h) hHeld (Or.inl ⟨rfl, ?_⟩) ?_
                      rotate_left
                      · (intro W hW; (try dsimp only at hW); go_simp; (try with_reducible rfl))
                      try simp only [Act.put, List.setIfInBounds_toArray, List.set_cons_zero, List.set_cons_succ]
                      refine' Ways.take (i := 4) (oi := ⟨_, _, _, _, _, _⟩) (v := _) rfl (by kernel_rfl) (by kernel_rfl) (by kernel_rfl) (by kernel_rfl) (fun _ _ _ h => h) hHeld (Or.inl ⟨rfl, ?_⟩) ?_
                      rotate_left
                      · (intro W hW; (try dsimp only at hW); go_simp; (try with_reducible rfl))
                      try simp only [Act.put, List.setIfInBounds_toArray, List.set_cons_zero, List.set_cons_succ]
                      refine' Ways.take (i := 5) (oi := ⟨_, _, _, _, _, _⟩) (v := _) rfl (by kernel_rfl) (by kernel_rfl) (by kernel_rfl) (by kernel_rfl) (fun _ _ _ h => h) hHeld (Or.inl ⟨rfl, ?_⟩) ?_
                      rotate_left
                      · (intro W hW; (try dsimp only at hW); go_simp; (try with_reducible rfl))
                      try simp only [Act.put, List.setIfInBounds_toArray, List.set_cons_zero, List.set_cons_succ]
                      refine' Ways.take (i := 6) (oi := ⟨_, _, _, _, _, _⟩) (v := _) rfl (by kernel_rfl) (by kernel_rfl) (by kernel_rfl) (by kernel_rfl) (fun _ _ _ h => h) hHeld (Or.inl ⟨rfl, ?_⟩) ?_
                      rotate_left
                      · (intro W hW; (try dsimp only at hW); go_simp; (try with_reducible rfl))
                      try simp only [Act.put, List.setIfInBounds_toArray, List.set_cons_zero, List.set_cons_succ]
                      refine' Ways.take (i := 7) (oi := ⟨_, _, _, _, _, _⟩) (v := _) rfl (by kernel_rfl) (by kernel_rfl) (by kernel_rfl) (by kernel_rfl) (fun _ _ _ h => h) hHeld (Or.inl ⟨rfl, ?_⟩) ?_
                      rotate_left
                      · (intro W hW; (try dsimp only at hW); go_simp; (try with_reducible rfl))
                      try simp only [Act.put, List.setIfInBounds_toArray, List.set_cons_zero, List.set_cons_succ]
                      refine' Ways.take (i := 8) (oi := ⟨_, _, _, _, _, _⟩) (v := _) rfl (by kernel_rfl) (by kernel_rfl) (by kernel_rfl) (by kernel_rfl) (fun _ _ _ h => h) hHeld (Or.inl ⟨rfl, ?_⟩) ?_
                      rotate_left
                      · (intro W hW; (try dsimp only at hW); go_simp; (try with_reducible rfl))
                      try simp only [Act.put, List.setIfInBounds_toArray, List.set_cons_zero, List.set_cons_succ]
                      refine' Ways.take (i := 9) (oi := ⟨_, _, _, _, _, _⟩) (v := _) rfl (by kernel_rfl) (by kernel_rfl) (by kernel_rfl) (by kernel_rfl) (fun _ _ _ h => h) hHeld (Or.inl ⟨rfl, ?_⟩) ?_
                      rotate_left
                      · (intro W hW; (try dsimp only at hW); go_simp; (try with_reducible rfl))
                      try simp only [Act.put, List.setIfInBounds_toArray, List.set_cons_zero, List.set_cons_succ]
                      refine' Ways.take (i := 10) (oi := ⟨_, _, _, _, _, _⟩) (v := _) rfl (by kernel_rfl) (by kernel_rfl) (by kernel_rfl) (by kernel_rfl) (fun _ _ _ h => h) hHeld (Or.inl ⟨rfl, ?_⟩) ?_
                      rotate_left
                      · (intro W hW; (try dsimp only at hW); go_simp; (try with_reducible rfl))
                      try simp only [Act.put, List.setIfInBounds_toArray, List.set_cons_zero, List.set_cons_succ]
                      refine' Ways.take (i := 11) (oi := ⟨_, _, _, _, _, _⟩) (v := _) rfl (by kernel_rfl) (by kernel_rfl) (by kernel_rfl) (by kernel_rfl) (fun _ _ _ h => h) hHeld (Or.inl ⟨rfl, ?_⟩) ?_
                      rotate_left
                      · (intro W hW; (try dsimp only at hW); go_simp; (try with_reducible rfl))
                      try simp only [Act.put, List.setIfInBounds_toArray, List.set_cons_zero, List.set_cons_succ]
                      refine' Ways.take (i := 12) (oi := ⟨_, _, _, _, _, _⟩) (v := _) rfl (by kernel_rfl) (by kernel_rfl) (by kernel_rfl) (by kernel_rfl) (fun _ _ _ h => h) hHeld (Or.inl ⟨rfl, ?_⟩) ?_
                      rotate_left
                      · (intro W hW; (try dsimp only at hW); go_simp; (try with_reducible rfl))
                      try simp only [Act.put, List.setIfInBounds_toArray, List.set_cons_zero, List.set_cons_succ]
                      refine' Ways.take (i := 13) (oi := ⟨_, _, _, _, _, _⟩) (v := _) rfl (by kernel_rfl) (by kernel_rfl) (by kernel_rfl) (by kernel_rfl) (fun _ _ _ h => h) hHeld (Or.inl ⟨rfl, ?_⟩) ?_
                      rotate_left
                      · (intro W hW; (try dsimp only at hW); go_simp; (try with_reducible rfl))
                      try simp only [Act.put, List.setIfInBounds_toArray, List.set_cons_zero, List.set_cons_succ]
                      refine' Ways.take (i := 14) (oi := ⟨_, _, _, _, _, _⟩) (v := _) rfl (by kernel_rfl) (by kernel_rfl) (by kernel_rfl) (by kernel_rfl) (fun _ _ _ h => h) hHeld (Or.inl ⟨rfl, ?_⟩) ?_
                      rotate_left
                      · (intro W hW; (try dsimp only at hW); go_simp; (try with_reducible rfl))
                      try simp only [Act.put, List.setIfInBounds_toArray, List.set_cons_zero, List.set_cons_succ]
                      refine' Ways.take (i := 15) (oi := ⟨_, _, _, _, _, _⟩) (v := _) rfl (by kernel_rfl) (by kernel_rfl) (by kernel_rfl) (by kernel_rfl) (fun _ _ _ h => h) hHeld (Or.inl ⟨rfl, ?_⟩) ?_
                      rotate_left
                      · (intro W hW; (try dsimp only at hW); go_simp; (try with_reducible rfl))
                      try simp only [Act.put, List.setIfInBounds_toArray, List.set_cons_zero, List.set_cons_succ]
                      refine' Ways.take (i := 16) (oi := ⟨_, _, _, _, _, _⟩) (v := _) rfl (by kernel_rfl) (by kernel_rfl) (by kernel_rfl) (by kernel_rfl) (fun _ _ _ h => h) hHeld (Or.inl ⟨rfl, ?_⟩) ?_
                      rotate_left
                      · (intro W hW; (try dsimp only at hW); go_simp; (try with_reducible rfl))
                      try simp only [Act.put, List.setIfInBounds_toArray, List.set_cons_zero, List.set_cons_succ]
                      have KD := below_drewN (Below.refl wr.heap.size wr) 1
                      refine Ways.one (i := 17) (by kernel_rfl) rfl (fun K hK => ?_)
                      go_simp
                      go_at_call 48
                      refine (HSC.out wr.drew KD).mono ?_
                      rintro e w9 ⟨v9, rfl, o9, k9⟩
                      obtain ⟨A9, c9, rfl, i9, _, _⟩ := o9.isB.form (n := k + k) HLS.out
                      have K9 : Below wr.heap.size wr w9 := KD.trans (by exact ⟨k9.os, k9.tape, k9.output, k9.size, k9.block⟩)
                      have x1 := (K9.cell (cell_lt s1)).trans s1
                      have x2 := (K9.cell (cell_lt r1)).trans r1
                      have x3 := (K9.cell (cell_lt qx)).trans qx
                      refine hK.out _ _ ⟨x1, x2, x3⟩ ?_
                      clear hK hHeld o9 k9
                      try simp only [List.setIfInBounds_toArray, List.set_cons_zero, List.set_cons_succ]
                      refine Ways.one (i := 18) (by kernel_rfl) rfl (fun K hK => ?_)
                      go_simp
                      go_at_call 49
                      refine (HAD.out w9 A9 c9 K9 i9.rd).mono ?_
                      rintro e w10 ⟨v10, rfl, o10, k10⟩
                      obtain ⟨A10, c10, rfl, i10, _, _⟩ := o10.isB.form (n := k + k) HLA.out
                      have K10 : Below wr.heap.size wr w10 := K9.trans (k10.mono K9.size)
                      have y1 := (K10.cell (cell_lt s1)).trans s1
                      have y2 := (K10.cell (cell_lt r1)).trans r1
                      have y3 := (K10.cell (cell_lt qx)).trans qx
                      have y4 := (K10.frozen (p := ⟨g, j, none⟩) (cell_lt r1)).trans FR.out
                      refine hK.out _ _ ⟨y1, y2, y3⟩ ?_
                      have HSW := hide hsb8.out
                      have P10 := hide ((HOV.out.keep K10).put (o10.more (Nat.le_trans HSW.out K9.size)) j)
                      have K11 := hide (((HOV.out.keep K10).more HB22.out).below (k := j) (u := .slice A10 (k + k) c10) (hbel8.out.trans (K10.mono (Nat.le_trans HB22.out HSW.out))))
                      have HS11 := hide (show B2 ≤ (w10.setCell ⟨g, j, none⟩ (.slice A10 (k + k) c10)).heap.size by rw [World.size_setCell]; exact Nat.le_trans HSW.out K10.size)
                      clear hK x1 x2 x3 i9 i10 o10 k10 K10
                      try simp only [List.setIfInBounds_toArray, List.set_cons_zero, List.set_cons_succ]
                      have hHeld : w10.cell? ⟨g, q, none⟩ = some (.slice (some ⟨b2, 0, none⟩) (k + k) c2) ∧ w10.cell? ⟨g, j, none⟩ = some (.slice (some ⟨bj, 0, none⟩) (k + k) cj) ∧ w10.cell? ⟨bj, q, none⟩ = some (.int .u8 (t : Int)) := ⟨y1, y2, y3⟩
                      refine' Ways.take (i := 19) (oi := ⟨_, _, _, _, _, _⟩) (v := _) rfl (by kernel_rfl) (by kernel_rfl) (by kernel_rfl) (by kernel_rfl) (fun _ _ _ h => h) hHeld (Or.inl ⟨rfl, ?_⟩) ?_
                      rotate_left
                      · (intro W hW; (try dsimp only at hW); go_simp; (try with_reducible rfl))
                      try simp only [Act.put, List.setIfInBounds_toArray, List.set_cons_zero, List.set_cons_succ]
                      refine Ways.last (by kernel_rfl) rfl (by kernel_rfl) (fun K hK => ?_)
                      go_simp
                      refine hK.out _ _ ?_
                      clear hK hHeld
                      obtain ⟨w11, hw11⟩ : ∃ w11, w11 = w10.setCell ⟨g, j, none⟩ (.slice A10 (k + k) c10) := ⟨_, rfl⟩
                      rw [← hw11] at P10 K11 HS11
                      try rw [← hw11]
                      clear hw11 y1 y2 y3 y4
                      go_wp2_with fail
                      go_roundw
                      case rel => exact ⟨j + 1, by omega, by go_num, hide ⟨_, P10.out, HNX.out⟩, K11, HS11⟩
                      case measure => simp [intOf]; omega
                  · obtain rfl : j = k := by omega
                    go_wp2_with fail
                    go_roundw
                    case rel =>
                      obtain ⟨V, ov, cv⟩ := hv.out
                      exact ⟨q + 1, by omega, by go_num, hide ⟨V, ov, cv.done⟩, hbel8, hsb8⟩
                    case measure => simp [intOf]; omega
            · obtain rfl : p = k := by omega
              have hpp : ((p : Int) == (p : Int)) = true := by simp
              go_wp2_with fail
              go_ret2
              exact ⟨none, [], 0, _, rfl, ⟨[], (fun h => absurd rfl h), ⟨rfl, fun i hi => absurd hi (by simp)⟩⟩, by simp, .inr ⟨HSQ.out.1, HSQ.out.2, .inl ⟨rfl, rfl, by rw [HLN.out]; exact HW.out.flat hltq hno.out⟩⟩, by rw [← HB.out]; exact hbel.out⟩
        · obtain rfl : q = k := by omega
          obtain ⟨W, ow, hw⟩ := hv.out
          have HO := hide ow
          have HW := hide hw
          have SW := hide hw.shape
          have HBE := hide (show Below w.heap.size w wr by rw [← HB.out]; exact hbel.out)
          have HR := hide hw.right
          clear hv ow hw hbel hsb
          rename World => W1
          go_wp2_with fail
          go_loopw [13, 14] (fun s i w3 => ∃ j : Nat, j ≤ q ∧ i = .int .i64 (j : Int) ∧ Hid (∃ vs, OwnV w3 W1.heap.size s vs ∧ IsBs W1 vs ((rightL q W).take j)) ∧ Hid (Below W1.heap.size W1 w3)) (fun _ i _ => q - (intOf i).toNat)
          case atStart => exact ⟨0, Nat.zero_le _, rfl, hide ⟨[], OwnV.nil _ _, ⟨rfl, fun i hi => absurd hi (by simp)⟩⟩, hide (Below.refl _ _)⟩
          case round =>
            obtain ⟨j, hj, rfl, hv, hbel⟩ := hrel
            by_cases hltj : j < q
            · obtain ⟨bj, cj, r1, r2, r3, r4, r5, r6⟩ := HO.out.rowAt SW.out (by omega) j hltj
              have rr1 := (hbel.out.cell (cell_lt r1)).trans r1
              have rr2 := r2.isB.tailIs q (by omega)
              have hrt : (rightL q W).getD j [] = (W.getD j []).drop q := by
                have hl : j < W.length := by rw [SW.out.high]; exact hltj
                simp [rightL, hl]
              have HST := hide (take_snoc (rightL q W) j (by unfold rightL; rw [List.length_map, SW.out.high]; exact hltj))
              rw [← hrt] at rr2
              rw [show (0 : Nat) + q = q by omega, show q + q - q = q by omega] at rr2
              have HRT := hide rr2
              have hcn : ¬ cj = q := by omega
              have hq1 : (q : Int) ≤ (q : Int) + (q : Int) := by omega
              have hq2 : (q : Int) ≤ (cj : Int) := by omega
              have hq3 : q + q - q = q := by omega
              clear rr2 r1 r2 r3 r4 hrt
              go_wp2_with (at_builtin; refine halt ?_)
              refine ⟨?_⟩
              obtain ⟨vs, ov, iv⟩ := hv.out
              have ka := below_alloc wr (.cells #[.slice (some ⟨bj, q, none⟩) q (cj - q)] 34)
              refine wpList_append_row rfl (.tmp 131) (.tmp 138) rfl W1.heap.size _ vs rfl (ov.keep ka) _ _ rfl (cell_newAt _ _ _ rfl) rfl (by rw [iv.1, List.length_take]; omega) (Nat.le_trans hbel.out.size ka.size) ?_
              intro v' w7 o7 k7 _
              have IV := hide (iv.snoc HRT.out)
              rw [← HST.out] at IV
              have O7 := hide o7
              have K7 := hide ((hbel.out.trans (ka.mono hbel.out.size)).trans k7)
              clear o7 k7 ka ov iv hv hbel
              go_wp2_with fail
              go_roundw
              case rel => exact ⟨j + 1, by omega, by go_num, hide ⟨_, O7.out, IV.out⟩, K7⟩
              case measure => simp [intOf]; omega
            · obtain rfl : j = q := by omega
              obtain ⟨vs, ov, iv⟩ := hv.out
              have hrl : (rightL j W).length = j := by unfold rightL; rw [List.length_map, SW.out.high]
              rw [List.take_of_length_le (by rw [hrl]; exact Nat.le_refl _)] at iv
              obtain ⟨Ar, cr, rfl, hrd, _⟩ := ov.form (n := j) (by rw [iv.1, hrl])
              have KE := hide (below_step HBE.out hbel.out)
              have HI := hide (show IsM wr Ar (rightL j W) from ⟨vs, hrd, iv.below hbel.out⟩)
              clear ov iv hv hbel hrd
              go_wp2_with fail
              go_ret2
              exact ⟨Ar, rightL j W, cr, 0, by rw [hrl]; rfl, HI.out, by rw [hrl]; exact h2, .inr ⟨HSQ.out.1, HSQ.out.2, .inr ⟨rfl, by rw [HLN.out]; exact HR.out⟩⟩, KE.out⟩
theorem rinv_all (A : Option Addr) (n c : Nat) (xss : ML) (w : World) (hA : IsM w A xss) (hn : xss.length = n) (h63 : n ≤ 9223372036854775807) (bA : ∀ r ∈ xss, ∀ x ∈ r, x < 256) :
    Calls Tryd.prog 29 #[.slice A n c] w fun e w' => ∃ A2 L c2 k, e = .returned (.tuple #[.slice A2 L.length c2, .int .i64 k]) ∧ IsM w' A2 L ∧ L.length ≤ 64 ∧ invAns xss L k ∧ Below w.heap.size w w' := by
  by_cases h : isMt xss = true ∧ (xss.getD 0 []).length = xss.length
  · have d := of_decide_eq_true h.1
    have hs : Shape xss n n := ⟨hn, fun r hr => by rw [d.2.2.2.2 r hr, h.2, hn], bA⟩
    exact rinv_mat A n c xss w hA hs (by rw [← hn]; exact d.1) (by rw [← hn]; exact d.2.1)
  · refine (rinv_bad A n c xss w hA hn h63 h).mono ?_
    rintro e w' ⟨rfl, hb⟩
    exact ⟨none, [], 0, 1, rfl, ⟨[], (fun h => absurd rfl h), ⟨rfl, fun i hi => absurd hi (by simp)⟩⟩, by simp, .inl ⟨rfl, rfl, h⟩, hb⟩
end Go.Proofs.YtpjocddeiehckaaDoor
namespace Go.Proofs.YtpjocddeiehckaaDoor
open Go.RowKit
/-- What Mend answers. -/
def mendAns (W : ML) (k m : Int) (L : ML) (e : Int) : Prop :=
  (e = 1 ∧ L = [] ∧ ¬ fitsOk W k m) ∨
  (fitsOk W k m ∧ ((e = 15 ∧ L = [] ∧ ((present W).length : Int) < k) ∨ (e = 0 ∧ k ≤ ((present W).length : Int) ∧ ∃ n, (∀ r ∈ W, r ≠ [] → r.length = n) ∧ mended W k.toNat m.toNat n L)))
theorem present_in {W : ML} {l : Nat} (h : l ∈ present W) : W.getD l [] ∈ W ∧ W.getD l [] ≠ [] := ⟨mem_getD (present_mem.1 h).1, (present_mem.1 h).2⟩
theorem mend_once {W : ML} {k m : Int} {L L' : ML} {e e' : Int} (h : mendAns W k m L e) (h' : mendAns W k m L' e') : L = L' ∧ e = e' := by
  rcases h with ⟨rfl, rfl, h⟩ | ⟨hf, h⟩
  · rcases h' with ⟨rfl, rfl, _⟩ | ⟨hf, _⟩
    · exact ⟨rfl, rfl⟩
    · exact absurd hf h
  · rcases h' with ⟨_, _, q⟩ | ⟨_, h'⟩
    · exact absurd hf q
    · rcases h with ⟨rfl, rfl, h⟩ | ⟨rfl, h, n, hn, hm⟩
      · rcases h' with ⟨rfl, rfl, _⟩ | ⟨_, q, _⟩
        · exact ⟨rfl, rfl⟩
        · omega
      · rcases h' with ⟨_, _, q⟩ | ⟨rfl, _, n', hn', hm'⟩
        · omega
        · obtain ⟨hc, hl, _⟩ := hf
          obtain ⟨g1, g2, g3⟩ := codeE_fits hc
          have hp : 0 < (present W).length := by omega
          obtain ⟨a, b⟩ := present_in (List.getElem_mem hp)
          have e1 := hn _ a b
          have e2 := hn' _ a b
          obtain rfl : n = n' := by rw [← e1, e2]
          exact ⟨mended_once (by omega) (by omega) (by omega) hm hm', rfl⟩
/-- The rows of a list at these places. -/
def rowsAt (W : ML) (P : List Nat) : ML := P.map fun t => W.getD t []
theorem rowsAt_len (W : ML) (P : List Nat) : (rowsAt W P).length = P.length := by simp [rowsAt]
theorem rowsAt_snoc (W : ML) (P : List Nat) (t : Nat) : rowsAt W (P ++ [t]) = rowsAt W P ++ [W.getD t []] := by simp [rowsAt]
theorem rowsAt_get (W : ML) {P : List Nat} {i : Nat} (h : i < P.length) : (rowsAt W P).getD i [] = W.getD (P.getD i 0) [] := by simp [rowsAt, h]
theorem rowsAt_en (W : ML) {P : List Nat} {i : Nat} (h : i < P.length) (x : Nat) : en (rowsAt W P) i x = en W (P.getD i 0) x := by
  unfold en
  rw [rowsAt_get W h]
theorem getD_mem0 {P : List Nat} {i : Nat} (h : i < P.length) : P.getD i 0 ∈ P := by
  have : P.getD i 0 = P[i] := by simp [h]
  rw [this]; exact List.getElem_mem h
/-- What Mend's rows and square are. -/
theorem mend_parts {W : ML} {a b N : Nat} (hW : W.length = a + b) (h14 : a + b ≤ 14) (hs : ∀ r ∈ W, r ≠ [] → r.length = N) (hb : ∀ r ∈ W, ∀ x ∈ r, x < 256) (hp : a ≤ (present W).length) :
    Shape (rowsAt W (firstP W a)) a N ∧ Shape (rowsAt (codeL a b) (firstP W a)) a a ∧ Sharp a (en (rowsAt (codeL a b) (firstP W a))) ∧
    (∀ inv : Mat, (∀ i, i < a → ∀ j, j < a → mm a (en (rowsAt (codeL a b) (firstP W a))) inv i j = dl i j) → mended W a b N (wordL a b N (mm a inv (en (rowsAt W (firstP W a)))))) := by
  have hlen := firstP_len hp
  have hc := laid_shape (a + b) a (codeRow a)
  have hin : ∀ i, i < a → (firstP W a).getD i 0 < a + b ∧ W.getD ((firstP W a).getD i 0) [] ≠ [] := fun i hi => by
    have := firstP_mem (getD_mem0 (P := firstP W a) (i := i) (by omega))
    rw [hW] at this
    exact this
  have hcode : ∀ i, i < a → ∀ j, j < a → en (rowsAt (codeL a b) (firstP W a)) i j = codeRow a ((firstP W a).getD i 0) j := fun i hi j hj => by
    rw [rowsAt_en _ (by omega)]
    exact laid_at _ (hin i hi).1 hj
  refine ⟨⟨by rw [rowsAt_len, hlen], fun r hr => ?_, fun r hr => ?_⟩, ⟨by rw [rowsAt_len, hlen], fun r hr => ?_, fun r hr => ?_⟩, ?_, fun inv hi => ?_⟩
  · obtain ⟨t, ht, rfl⟩ := List.mem_map.1 hr
    have := firstP_mem ht
    exact hs _ (mem_getD this.1) this.2
  · obtain ⟨t, ht, rfl⟩ := List.mem_map.1 hr
    exact hb _ (mem_getD (firstP_mem ht).1)
  · obtain ⟨t, ht, rfl⟩ := List.mem_map.1 hr
    exact (hc.row (by rw [← hW]; exact (firstP_mem ht).1)).1
  · obtain ⟨t, ht, rfl⟩ := List.mem_map.1 hr
    exact (hc.row (by rw [← hW]; exact (firstP_mem ht).1)).2
  · have h := code_sharp a (firstP W a) hlen (firstP_nodup W a) (fun l hl => by have := (firstP_mem hl).1; omega) (by omega)
    intro v hv
    refine h v (fun r hr => ?_)
    have := hv r hr
    rw [← this]
    exact gs_congr (fun j hj => by rw [hcode r hr j hj])
  · refine mended_by hW hs hb hp (fun i hi1 j hj => ?_) (fun i hi1 x _ => rowsAt_en _ (by omega) x)
    rw [← hi i hi1 j hj]
    exact gs_congr (fun t ht => by rw [hcode i hi1 t ht])
theorem mend_inv {S L : ML} {a : Nat} {e : Int} (h : invAns S L e) (s : Shape S a a) (h1 : 1 ≤ a) (h2 : a ≤ 64) (hs : Sharp a (en S)) : e = 0 ∧ Shape L a a ∧ ∀ i, i < a → ∀ j, j < a → mm a (en S) (en L) i j = dl i j := by
  unfold invAns at h
  rw [s.high] at h
  rcases h with ⟨_, _, q⟩ | ⟨_, _, ⟨_, _, q⟩ | ⟨e, q1, _, q3⟩⟩
  · exact absurd ⟨s.isMt h1 h2 h1 h2, s.len_at 0 (by omega)⟩ q
  · exact absurd hs q
  · exact ⟨e, q1, q3⟩
/-- Two slices in unlike blocks. -/
def Apart2 (v u : Value) : Prop := ∀ g, v.ownBlock = some g → u.ownBlock ≠ some g
theorem Apart2.symm {v u : Value} (h : Apart2 v u) : Apart2 u v := fun g a b => h g b a
theorem Apart2.or {v u : Value} (h : Apart2 v u) : v.ownBlock = none ∨ v.ownBlock ≠ u.ownBlock := by
  cases e : v.ownBlock with
  | none => exact .inl rfl
  | some g => exact .inr (fun q => h g e q.symm)
theorem Apart2.moved {v u v' : Value} {s : Nat} (h : Apart2 v u) (q : v'.ownBlock = v.ownBlock ∨ v'.ownBlock = some s) (hu : ∀ g, u.ownBlock = some g → g < s) : Apart2 v' u := by
  intro g e c
  rcases q with q | q
  · exact h g (q ▸ e) c
  · rw [q] at e
    cases e
    exact absurd (hu _ c) (Nat.lt_irrefl _)
set_option maxHeartbeats 12800000 in
set_option maxRecDepth 100000 in
theorem rmend_any (A : Option Addr) (n c : Nat) (k m : Int) (W : ML) (w : World) (hA : IsM w A W) (hn : W.length = n) (h63 : n ≤ 9223372036854775807) (bW : ∀ r ∈ W, ∀ x ∈ r, x < 256) (h47 : ∀ r ∈ W, r.length ≤ 1000000) (k1 : -9223372036854775808 ≤ k) (k2 : k ≤ 9223372036854775807) (m1 : -9223372036854775808 ≤ m) (m2 : m ≤ 9223372036854775807) :
    Calls Tryd.prog 10 #[.slice A n c, .int .i64 k, .int .i64 m] w fun e w' => ∃ v L E, e = .returned (.tuple #[v, .int .i64 E]) ∧ OwnMt w' w.heap.size v L ∧ mendAns W k m L E ∧ Below w.heap.size w w' := by
  have HA := hide hA
  have HN := hide hn
  have BW := hide (And.intro bW h47)
  have M0 := hide (rfits_any A n c k m W w hA hn h63 k1 k2 m1 m2)
  have M1 := hide (fun w' => rcode_all k m w' k1 k2 m1 m2)
  clear hA hn bW h47
  go_enter Tryd.func10, Tryd.ntmps10
  go_wp2_with fail
  refine M0.out.mono ?_
  rintro e w1 ⟨v, rfl, hf, kb1⟩
  have K1 := hide kb1
  clear kb1 M0
  rcases hf with ⟨N, rfl, hc, hl, hN⟩ | ⟨rfl, hno⟩
  · obtain ⟨g1, g2, g3⟩ := codeE_fits hc
    obtain ⟨a, rfl⟩ : ∃ a : Nat, k = (a : Int) := ⟨k.toNat, by omega⟩
    obtain ⟨b, rfl⟩ : ∃ b : Nat, m = (b : Int) := ⟨m.toNat, by omega⟩
    have HF := hide (show fitsOk W (a : Int) (b : Int) from ⟨hc, hl, N, hN⟩)
    have HNN := hide hN
    have ha1 : 1 ≤ a := by omega
    have hab : a + b ≤ 14 := by omega
    have hWl : W.length = a + b := by omega
    have hnab : n = a + b := by rw [← HN.out]; exact hWl
    have HWL := hide hWl
    have HR : Hid (codeR (a : Int) (b : Int) = codeL a b) := by
      unfold Hid codeR
      rw [if_neg (by omega), Int.toNat_natCast, Int.toNat_natCast]
    rw [hc, HR.out] at M1
    subst hnab
    have hsum0 : (a : Int) + (b : Int) ≤ 14 := by omega
    have hsum1 : 0 ≤ (a : Int) + (b : Int) := by omega
    clear hc hl hN hWl k1 k2 m1 m2 g1 g2 g3 HR
    go_wp2_with fail
    refine (M1.out w1).mono ?_
    rintro e w2 ⟨v2, rfl, o2, kb2⟩
    have K2 := hide (below_step K1.out kb2)
    obtain ⟨A2, c2, rfl, i2, l2⟩ := o2.form (n := a + b) (by unfold codeL; rw [laid_len])
    have I2 := hide i2
    have IA := hide (HA.out.below K2.out)
    clear o2 i2 kb2 M1 HA K1
    go_wp2_with fail
    go_loopw [12, 13, 14] (fun hv sv i wr => ∃ y : Nat, y ≤ a + b ∧ i = .int .i64 (y : Int) ∧ (filt W y).length ≤ a ∧ Hid (Held wr w2.heap.size hv (rowsAt W (filt W y))) ∧ Hid (Held wr w2.heap.size sv (rowsAt (codeL a b) (filt W y))) ∧ Hid (Apart2 hv sv) ∧ Hid (Below w2.heap.size w2 wr)) (fun _ _ i _ => a + b - (intOf i).toNat)
    case atStart => exact ⟨0, Nat.zero_le _, rfl, Nat.zero_le _, hide (Held.nil _ _), hide (Held.nil _ _), hide (fun g e => by cases e), hide (Below.refl _ _)⟩
    case round =>
      obtain ⟨y, hy, rfl, hfl, hhv, hsv, hap, hbel⟩ := hrel
      obtain ⟨fl, hfl'⟩ : ∃ fl, fl = (filt W y).length := ⟨_, rfl⟩
      rw [← hfl'] at hfl
      have HFL := hide hfl'
      clear hfl'
      obtain ⟨Ah, ch, rfl, hro, -⟩ := hhv.out.form (n := fl) (by rw [rowsAt_len]; exact HFL.out.symm)
      obtain ⟨As, cs, rfl, sro, -⟩ := hsv.out.form (n := fl) (by rw [rowsAt_len]; exact HFL.out.symm)
      by_cases hgo : y < a + b ∧ fl < a
      · obtain ⟨hlt, hfa⟩ := hgo
        obtain ⟨b3, off3, A3, c3, e3, cy0, iy, l3, m3⟩ := IA.out.at_ y (by rw [HN.out]; exact hlt)
        cases e3
        obtain ⟨b4, off4, A4, c4, e4, cc0, ic, l4, m4⟩ := I2.out.at_ y (by unfold codeL; rw [laid_len]; exact hlt)
        cases e4
        obtain ⟨ly, hly⟩ : ∃ ly, ly = (W.getD y []).length := ⟨_, rfl⟩
        obtain ⟨lc, hlc⟩ : ∃ lc, lc = ((codeL a b).getD y []).length := ⟨_, rfl⟩
        rw [← hly] at cy0 l3 iy
        rw [← hlc] at cc0 l4 ic
        have HLY := hide hly
        have cy := (hbel.out.cell (cell_lt cy0)).trans cy0
        have cc := (hbel.out.cell (cell_lt cc0)).trans cc0
        have HCC := hide cc0
        have RY := hide ((iy.off (B := w2.heap.size) (Nat.le_refl _)).keep hbel.out)
        have RC := hide (ic.off (B := w2.heap.size) (Nat.le_refl _))
        have h1y : (y : Int) < (a : Int) + (b : Int) := by omega
        have h2y : (fl : Int) < (a : Int) := by omega
        clear hly hlc cy0 cc0 iy ic hro sro
        by_cases hz : ly = 0
        · have hz0 : ¬ 0 < (ly : Int) := by omega
          have HZ := hide hz
          clear hz
          go_wp2_with fail
          go_roundw
          case rel =>
            have he : W.getD y [] = [] := List.eq_nil_of_length_eq_zero (by rw [← HLY.out]; exact HZ.out)
            refine ⟨y + 1, by omega, by go_num, ?_, ?_, ?_, hap, hbel⟩
            · rw [filt_no he, ← HFL.out]; exact hfl
            · rw [filt_no he]; exact hhv
            · rw [filt_no he]; exact hsv
          case measure => simp [intOf]; omega
        · have hz0 : 0 < (ly : Int) := by omega
          have hz1 := hide hz
          clear hz
          have HGS := hide hbel.out.size
          have HB := hide hbel.out
          have HHV := hide hhv.out
          have HSV := hide hsv.out
          have HAP := hide hap.out
          clear hhv hsv hap hbel
          go_wp2_with (at_builtin; refine halt ?_)
          refine ⟨?_⟩
          have ka := below_alloc wr (.cells #[.slice A3 ly c3] 34)
          have lS : ∀ g, (Value.slice As fl cs).ownBlock = some g → g < (wr.alloc (.cells #[.slice A3 ly c3] 34)).heap.size := fun g e => Nat.lt_of_lt_of_le (HSV.out.lt g e).2 ka.size
          refine wpList_append_held_at rfl (.tmp 55) (.tmp 60) rfl w2.heap.size (.slice Ah fl ch) _ rfl (HHV.out.keep ka) _ _ _ rfl (cell_newAt _ _ _ rfl) (RY.out.keep ka) (by rw [rowsAt_len, ← HFL.out]; omega) (Nat.le_trans HGS.out ka.size) ?_
          intro hv5 w5 h5 k5 g5 q5
          have H5 := hide h5
          have S5 := hide ((HSV.out.keep ka).kept (HHV.out.keep ka) g5 HAP.out.symm.or)
          have AP5 := hide (HAP.out.moved q5 lS)
          have K5 := hide ((HB.out.trans (ka.mono HGS.out)).trans k5)
          have R5 := hide (RC.out.keep K5.out)
          have c5' := (K5.out.cell (cell_lt HCC.out)).trans HCC.out
          have HG5 := hide K5.out.size
          have e5 : w5.heap.size = w5.heap.size := rfl
          clear ka lS h5 k5 g5 q5 HHV HSV HAP HB HGS RC RY e5
          obtain ⟨A5, c5, rfl, -, -⟩ := H5.out.form (n := fl + 1) (by rw [List.length_append, rowsAt_len, ← HFL.out]; rfl)
          go_wp2_with (at_builtin; refine halt ?_)
          refine ⟨?_⟩
          have ka := below_alloc w5 (.cells #[.slice A4 lc c4] 34)
          have lH : ∀ g, (Value.slice A5 (fl + 1) c5).ownBlock = some g → g < (w5.alloc (.cells #[.slice A4 lc c4] 34)).heap.size := fun g e => Nat.lt_of_lt_of_le (H5.out.lt g e).2 ka.size
          refine wpList_append_held_at rfl (.tmp 62) (.tmp 67) rfl w2.heap.size (.slice As fl cs) _ rfl (S5.out.keep ka) _ _ _ rfl (cell_newAt _ _ _ rfl) (R5.out.keep ka) (by rw [rowsAt_len, ← HFL.out]; omega) (Nat.le_trans HG5.out ka.size) ?_
          intro sv6 w6 h6 k6 g6 q6
          have H6 := hide ((H5.out.keep ka).kept (S5.out.keep ka) g6 AP5.out.or)
          have AP6 := hide (AP5.out.symm.moved q6 lH).symm
          have S6 := hide h6
          have K6 := hide ((K5.out.trans (ka.mono HG5.out)).trans k6)
          have HYN : Hid (W.getD y [] ≠ []) := hide (fun q => hz1.out (by rw [HLY.out, q]; rfl))
          clear ka lH h6 k6 g6 q6 H5 S5 AP5 R5 K5 HG5 c5'
          go_wp2_with fail
          go_roundw
          case rel =>
            refine ⟨y + 1, by omega, by go_num, ?_, ?_, ?_, hide AP6.out.symm.symm, K6⟩
            · rw [filt_yes HYN.out, List.length_append, ← HFL.out]; exact hfa
            · rw [filt_yes HYN.out, rowsAt_snoc]; exact H6
            · rw [filt_yes HYN.out, rowsAt_snoc]; exact S6
          case measure => simp [intOf]; omega
      · by_cases hfa : fl < a
        · have hya : y = a + b := by omega
          have h1y : ¬ (y : Int) < (a : Int) + (b : Int) := by omega
          have h2y : (fl : Int) < (a : Int) := by omega
          have HPL : Hid (((present W).length : Int) < (a : Int)) := by
            unfold Hid
            have := HFL.out
            rw [hya, ← HWL.out, filt_all] at this
            omega
          have KF := hide (below_step K2.out hbel.out)
          clear hhv hsv hap hbel hro sro hgo
          go_wp2_with fail
          go_ret2
          exact ⟨_, [], _, rfl, OwnMt.nil _ _, .inr ⟨HF.out, .inl ⟨rfl, rfl, HPL.out⟩⟩, KF.out⟩
        · have hfa' : a = fl := by omega
          subst hfa'
          obtain ⟨hpe, hpp⟩ := filt_first (W := W) (i := y) (k := a) (by rw [HWL.out]; exact hy) HFL.out.symm
          rw [← hpe] at hhv hsv hro sro
          obtain ⟨p1, p2, p3, p4⟩ := mend_parts HWL.out (by omega) HNN.out BW.out.1 hpp
          have hN : N ≤ 1000000 := by
            have hm := firstP_mem (getD_mem0 (P := firstP W a) (i := 0) (by rw [firstP_len hpp]; omega))
            have := HNN.out _ (mem_getD hm.1) hm.2
            have h2 := BW.out.2 _ (mem_getD hm.1)
            omega
          have HPP := hide hpp
          obtain ⟨P, hP⟩ : ∃ P, P = firstP W a := ⟨_, rfl⟩
          rw [← hP] at hhv hsv hro sro p1 p2 p3 p4
          obtain ⟨V, hV⟩ : ∃ V, V = rowsAt W P := ⟨_, rfl⟩
          obtain ⟨S, hS⟩ : ∃ S, S = rowsAt (codeL a b) P := ⟨_, rfl⟩
          rw [← hV] at hhv hro p1 p4
          rw [← hS] at hsv sro p2 p3 p4
          have P1 := hide p1
          have P2 := hide p2
          have P3 := hide p3
          have P4 := hide p4
          have HV := hide hro.isM
          have HIN := hide (rinv_mat As a cs S wr sro.isM p2 ha1 (by omega))
          have KB := hide hbel.out
          have HGB := hide hbel.out.size
          have h2y : ¬ (a : Int) < (a : Int) := by omega
          clear hhv hsv hap hbel hro sro hgo hpe hpp p1 p2 p3 p4 hP hV hS hfl HFL
          by_cases h1y : (y : Int) < (a : Int) + (b : Int)
          all_goals
            go_wp2_with fail
            refine HIN.out.mono ?_
            rintro e w7 ⟨A7, L7, c7, kk, rfl, i7, l7, h7, k7⟩
            obtain ⟨e0, s7, r7⟩ := mend_inv h7 P2.out ha1 (by omega) P3.out
            subst e0
            rw [s7.high]
            have PM := hide (P4.out _ r7)
            have S7 := hide s7
            have I7 := hide i7
            have K7 := hide (below_step KB.out k7)
            have V7 := hide (HV.out.below k7)
            clear h7 r7 s7 i7 l7 k7 KB HV HIN P2 P3 P4
            obtain ⟨D, hD⟩ : ∃ D, D = laid a N (mm a (en L7) (en V)) := ⟨_, rfl⟩
            have HD := hide hD
            have DS := hide (show Shape D a N by rw [hD]; exact laid_shape _ _ _)
            have hDr : ∀ q, q < a → rowG (blendG (L7.getD q []) V a) N = D.getD q [] := fun q hq => by
              rw [hD, laid_row _ hq]
              rfl
            have HDR := hide hDr
            clear hD hDr
            go_wp2_with fail
            go_loopw [17, 18] (fun s i wr => ∃ q : Nat, q ≤ a ∧ i = .int .i64 (q : Int) ∧ Hid (OwnMt wr w7.heap.size s (D.take q)) ∧ Hid (Below w7.heap.size w7 wr)) (fun _ i _ => a - (intOf i).toNat)
            case atStart => exact ⟨0, Nat.zero_le _, rfl, hide (OwnMt.nil _ _), hide (Below.refl _ _)⟩
            case round =>
              obtain ⟨q, hq, rfl, hown, hbel⟩ := hrel
              by_cases hltq : q < a
              · obtain ⟨b5, off5, A5, c5, e5, cc0, ic, l5, m5⟩ := (I7.out.below hbel.out).at_ q (by rw [S7.out.high]; exact hltq)
                cases e5
                have hrowc := S7.out.row hltq
                rw [hrowc.1] at cc0 l5 ic
                have HBL := rblend_any A5 Ah a c5 a N ch (L7.getD q []) V wr ic.rd hrowc.1 hrowc.2 (V7.out.below hbel.out) P1.out ha1 (Nat.le_refl _) hN (by omega) (by omega)
                rw [HDR.out q hltq] at HBL
                have HBL := hide HBL
                have HST := hide (take_snoc D q (by rw [DS.out.high]; exact hltq))
                have HGS := hide hbel.out.size
                have HBE := hide hbel.out
                have HOW := hide hown.out
                have hqi : (q : Int) < (a : Int) := by omega
                clear ic hrowc hown hbel
                go_wp2_with fail
                refine HBL.out.mono ?_
                rintro e w8 ⟨g8, rfl, o8, k8⟩
                have K8 := hide (HBE.out.trans (k8.mono HGS.out))
                have O8 := hide (o8.more HGS.out)
                have OM := hide (HOW.out.keep k8)
                have HG8 := hide (Nat.le_trans HGS.out k8.size)
                clear o8 k8
                go_wp2_with (at_builtin; refine halt ?_)
                refine ⟨?_⟩
                have ka := below_alloc w8 (.cells #[.slice (some ⟨g8, 0, none⟩) N N] 34)
                refine wpList_append_mrow rfl (.tmp 83) (.tmp 90) rfl w7.heap.size _ _ rfl (OM.out.keep ka) _ _ _ rfl (cell_newAt _ _ _ rfl) (O8.out.keep ka) (by rw [List.length_take]; omega) (Nat.le_trans HG8.out ka.size) ?_
                intro v' w9 o9 k9
                rw [← HST.out] at o9
                have O9 := hide o9
                have K9 := hide ((K8.out.trans (ka.mono HG8.out)).trans k9)
                clear o9 k9 ka OM O8 K8 HG8
                go_wp2_with fail
                go_roundw
                case rel => exact ⟨q + 1, by omega, by go_num, O9, K9⟩
                case measure => simp [intOf]; omega
              · obtain rfl : a = q := by omega
                obtain ⟨W9, hW9⟩ : ∃ Z, Z = wr := ⟨_, rfl⟩
                subst hW9
                have hown := hown.out
                rw [List.take_of_length_le (by rw [DS.out.high]; exact Nat.le_refl _)] at hown
                obtain ⟨A9, c9, rfl, i9, -⟩ := hown.form (n := a) DS.out.high
                have I9 := hide i9
                have K9 := hide (below_step K7.out hbel.out)
                obtain ⟨R, hR⟩ : ∃ R, R = wordL a b N (mm a (en L7) (en V)) := ⟨_, rfl⟩
                have HRL := hide (show R.length = a + b by rw [hR]; exact wordL_len _ _ _ _)
                have PM := PM.out
                rw [← hR] at PM
                have PM := hide PM
                have HRR : Hid (∀ q, q < a + b → rowG (blendG ((codeL a b).getD q []) D a) N = R.getD q []) := hide (fun q hq => by
                  rw [hR]
                  exact word_row _ hq (fun t ht y hy => by rw [HD.out]; exact laid_at _ ht hy))
                have HCS := hide (show Shape (codeL a b) (a + b) a from laid_shape (a + b) a (codeRow a))
                clear hown hbel i9 K7 V7 I7 S7 HDR HD hR hltq hq P1
                go_wp2_with fail
                go_loopw [19, 20] (fun s i w' => ∃ q : Nat, q ≤ a + b ∧ i = .int .i64 (q : Int) ∧ Hid (OwnMt w' W9.heap.size s (R.take q)) ∧ Hid (Below W9.heap.size W9 w')) (fun _ i _ => a + b - (intOf i).toNat)
                case atStart => exact ⟨0, Nat.zero_le _, rfl, hide (OwnMt.nil _ _), hide (Below.refl _ _)⟩
                case round =>
                  obtain ⟨q, hq, rfl, hown, hbel⟩ := hrel
                  by_cases hltq : q < a + b
                  · obtain ⟨b5, off5, A5, c5, e5, cc0, ic, l5, m5⟩ := (I2.out.below (below_step K9.out hbel.out)).at_ q (by rw [HCS.out.high]; exact hltq)
                    cases e5
                    have hrowc := HCS.out.row hltq
                    rw [show ((codeL a b).getD q []).length = a from hrowc.1] at cc0 l5 ic
                    have HBL := rblend_any A5 A9 a c5 a N c9 ((codeL a b).getD q []) D _ ic.rd hrowc.1 hrowc.2 (I9.out.below hbel.out) DS.out ha1 (Nat.le_refl _) hN (by omega) (by omega)
                    rw [HRR.out q hltq] at HBL
                    have HBL := hide HBL
                    have HST := hide (take_snoc R q (by rw [HRL.out]; exact hltq))
                    have HGS := hide hbel.out.size
                    have HBE := hide hbel.out
                    have HOW := hide hown.out
                    have hqi : (q : Int) < (a : Int) + (b : Int) := by omega
                    clear ic hrowc hown hbel
                    go_wp2_with fail
                    refine HBL.out.mono ?_
                    rintro e w8 ⟨g8, rfl, o8, k8⟩
                    have K8 := hide (HBE.out.trans (k8.mono HGS.out))
                    have O8 := hide (o8.more HGS.out)
                    have OM := hide (HOW.out.keep k8)
                    have HG8 := hide (Nat.le_trans HGS.out k8.size)
                    clear o8 k8
                    go_wp2_with (at_builtin; refine halt ?_)
                    refine ⟨?_⟩
                    have ka := below_alloc w8 (.cells #[.slice (some ⟨g8, 0, none⟩) N N] 34)
                    refine wpList_append_mrow rfl (.tmp 99) (.tmp 106) rfl W9.heap.size _ _ rfl (OM.out.keep ka) _ _ _ rfl (cell_newAt _ _ _ rfl) (O8.out.keep ka) (by rw [List.length_take]; omega) (Nat.le_trans HG8.out ka.size) ?_
                    intro v' w9 o9 k9
                    rw [← HST.out] at o9
                    have O9 := hide o9
                    have K10 := hide ((K8.out.trans (ka.mono HG8.out)).trans k9)
                    clear o9 k9 ka OM O8 K8 HG8
                    go_wp2_with fail
                    go_roundw
                    case rel => exact ⟨q + 1, by omega, by go_num, O9, K10⟩
                    case measure => simp [intOf]; omega
                  · have hqi : ¬ (q : Int) < (a : Int) + (b : Int) := by omega
                    have hqe : q = a + b := by omega
                    have KL := hide (below_step K2.out (below_step K9.out hbel.out))
                    have OR := hown.out
                    rw [hqe, List.take_of_length_le (by rw [HRL.out]; exact Nat.le_refl _)] at OR
                    have OR := hide (OR.more (B' := w.heap.size) (Nat.le_trans K2.out.size K9.out.size))
                    clear hown hbel
                    go_wp2_with fail
                    go_ret2
                    exact ⟨_, R, _, rfl, OR.out, .inr ⟨HF.out, .inr ⟨rfl, by have := HPP.out; omega, N, HNN.out, by rw [Int.toNat_natCast, Int.toNat_natCast]; exact PM.out⟩⟩, KL.out⟩
  · have HX := hide hno
    clear hno
    go_wp2_with fail
    go_ret2
    exact ⟨_, [], _, rfl, OwnMt.nil _ _, .inl ⟨rfl, rfl, HX.out⟩, K1.out⟩
end Go.Proofs.YtpjocddeiehckaaDoor
namespace Go.Proofs.YtpjocddeiehckaaDoor
open Go.RowKit
/-- Rows that stand as Mend has them. -/
def alikeP (W : ML) (k m : Int) : Prop := ∃ L, mendAns W k m L 0 ∧ ∀ l, l < W.length → W.getD l [] ≠ [] → W.getD l [] = L.getD l []
theorem alike_of {W : ML} {k m : Int} {L : ML} (h : mendAns W k m L 0) : alikeP W k m ↔ ∀ l, l < W.length → W.getD l [] ≠ [] → W.getD l [] = L.getD l [] := by
  constructor
  · rintro ⟨L', h', q⟩
    obtain ⟨rfl, _⟩ := mend_once h h'
    exact q
  · exact fun q => ⟨L, h, q⟩
theorem alike_not {W : ML} {k m e : Int} {L : ML} (h : mendAns W k m L e) (he : e ≠ 0) : ¬ alikeP W k m := by
  rintro ⟨L', h', _⟩
  exact he (mend_once h h').2
theorem mend_len {W : ML} {k m : Int} {L : ML} (h : mendAns W k m L 0) : L.length = W.length := by
  rcases h with ⟨h, _⟩ | ⟨⟨hc, hl, _⟩, ⟨h, _⟩ | ⟨_, _, n, _, X, rfl, _⟩⟩
  · cases h
  · cases h
  · obtain ⟨g1, g2, g3⟩ := codeE_fits hc
    rw [wordL_len]
    omega
set_option maxHeartbeats 3200000 in
theorem ralike_any (A : Option Addr) (n c : Nat) (k m : Int) (W : ML) (w : World) (hA : IsM w A W) (hn : W.length = n) (h63 : n ≤ 9223372036854775807) (bW : ∀ r ∈ W, ∀ x ∈ r, x < 256) (h47 : ∀ r ∈ W, r.length ≤ 1000000) (k1 : -9223372036854775808 ≤ k) (k2 : k ≤ 9223372036854775807) (m1 : -9223372036854775808 ≤ m) (m2 : m ≤ 9223372036854775807) :
    Calls Tryd.prog 36 #[.slice A n c, .int .i64 k, .int .i64 m] w fun e w' => ∃ t : Bool, e = .returned (.bool t) ∧ (t = true ↔ alikeP W k m) ∧ Below w.heap.size w w' := by
  have HA := hide hA
  have HN := hide hn
  have M0 := hide (rmend_any A n c k m W w hA hn h63 bW h47 k1 k2 m1 m2)
  clear hA hn bW h47 k1 k2 m1 m2
  go_enter Tryd.func36, Tryd.ntmps36
  go_wp2_with fail
  refine M0.out.mono ?_
  rintro e w1 ⟨v, L, E, rfl, o1, ha, kb1⟩
  have K1 := hide kb1
  clear kb1 M0
  by_cases e0 : E = 0
  · subst e0
    have he0 : ((0 : Int) != 0) = false := rfl
    have HL := hide (mend_len ha)
    obtain ⟨A2, c2, rfl, i2, -⟩ := o1.form (n := n) (by rw [HL.out, HN.out])
    have I2 := hide i2
    have IA := hide (HA.out.below K1.out)
    have HAL := hide (alike_of ha)
    clear o1 i2 ha HA he0
    go_wp2_with fail
    go_loopw [9] (fun i wr => ∃ y d : Nat, y ≤ n ∧ i = .int .i64 (y : Int) ∧ Hid (∀ l, l < y → W.getD l [] ≠ [] → W.getD l [] = L.getD l []) ∧ wr = w1.drewN d) (fun i _ => n - (intOf i).toNat)
    case atStart => exact ⟨0, 0, Nat.zero_le _, rfl, hide (fun t ht => absurd ht (Nat.not_lt_zero t)), rfl⟩
    case round =>
      obtain ⟨y, d, hy, rfl, hall, rfl⟩ := hrel
      by_cases hlt : y < n
      · obtain ⟨b3, off3, A3, c3, rfl, cy, iy, l3, m3⟩ := (IA.out.drewN d).at_ y (by rw [HN.out]; exact hlt)
        obtain ⟨b4, off4, A4, c4, rfl, cl, il, l4, m4⟩ := (I2.out.drewN d).at_ y (by rw [HL.out, HN.out]; exact hlt)
        obtain ⟨ly, hly⟩ : ∃ ly, ly = (W.getD y []).length := ⟨_, rfl⟩
        obtain ⟨ll, hll⟩ : ∃ ll, ll = (L.getD y []).length := ⟨_, rfl⟩
        have RY := hide iy.rd
        have RL := hide il.rd
        rw [← hly] at cy l3
        rw [← hll] at cl l4
        have HLY := hide hly
        have HLL := hide hll
        obtain ⟨Z, hZ⟩ : ∃ Z, Z = w1.drewN d := ⟨_, rfl⟩
        rw [← hZ] at cy cl RY RL ⊢
        have HZ := hide hZ
        clear hly hll iy il hZ
        by_cases hz : ly = 0
        · have hz0 : decide (0 < ly) = false := by simp; omega
          have hz2 : ¬ 0 < ly := by omega
          have HZ0 := hide hz
          clear hz
          go_wp2_with fail
          go_quiet (fail)
          go_wp2_with fail
          go_roundw
          case rel =>
            have he : W.getD y [] = [] := List.eq_nil_of_length_eq_zero (by rw [← HLY.out]; exact HZ0.out)
            refine ⟨y + 1, d + _, by omega, by go_num, hide (fun t ht hne => ?_), by rw [HZ.out, World.drewN_drewN]⟩
            by_cases e : t = y
            · subst e; exact absurd he hne
            · exact hall.out t (by omega) hne
          case measure => simp [intOf]; omega
        · have hz0 : decide (0 < ly) = true := by simp; omega
          have hz2 : 0 < ly := by omega
          have HZ0 := hide hz
          obtain ⟨t, ht⟩ : ∃ t, t = decide (W.getD y [] = L.getD y []) := ⟨_, rfl⟩
          have HT := hide ht
          clear hz ht
          go_wp2_with fail
          go_quiet ((go_at_call 53; refine Calls.quiet_of (v := .bool t) ?_; refine (rsame_any A3 A4 ly ll c3 c4 _ _ _ (RY.out.drewN _) (RL.out.drewN _) HLY.out HLL.out (by omega) (by omega)).mono ?_; rintro e w' ⟨rfl, m, rfl⟩; exact ⟨by rw [HT.out], m, rfl⟩))
          cases t
          all_goals go_wp2_with fail
          · go_ret
            refine ⟨false, rfl, ⟨fun q => (by cases q), fun q => ?_⟩, by rw [HZ.out, World.drewN_drewN]; exact below_drewN K1.out _⟩
            have := (HAL.out.1 q) y (by rw [HN.out]; exact hlt) (fun q2 => HZ0.out (by rw [HLY.out, q2]; rfl))
            exact absurd this (of_decide_eq_false HT.out.symm)
          · go_roundw
            case rel =>
              refine ⟨y + 1, d + _, by omega, by go_num, hide (fun t ht hne => ?_), by rw [HZ.out, World.drewN_drewN]⟩
              by_cases e : t = y
              · subst e; exact of_decide_eq_true HT.out.symm
              · exact hall.out t (by omega) hne
            case measure => simp [intOf]; omega
      · obtain rfl : y = n := by omega
        go_wp2_with fail
        go_ret
        refine ⟨true, rfl, ⟨fun _ => HAL.out.2 (fun l hl hne => hall.out l (by rw [← HN.out]; exact hl) hne), fun _ => rfl⟩, below_drewN K1.out _⟩
  · have he : (E != 0) = true := by simp [e0]
    have HX := hide (alike_not ha e0)
    clear ha e0 o1
    go_wp2_with fail
    go_ret
    exact ⟨false, rfl, ⟨fun q => (by cases q), fun q => absurd q HX.out⟩, K1.out⟩
end Go.Proofs.YtpjocddeiehckaaDoor
namespace Go.Proofs.YtpjocddeiehckaaDoor
open Go.RowKit
/-- What Right answers. -/
def rightAns (W : ML) (k m : Int) (t : Bool) (e : Int) : Prop :=
  (e = 1 ∧ t = false ∧ ¬ fitsOk W k m) ∨ (fitsOk W k m ∧ ((e = 15 ∧ t = false ∧ ∃ r ∈ W, r = []) ∨ (e = 0 ∧ (∀ r ∈ W, r ≠ []) ∧ (t = true ↔ alikeP W k m))))
theorem right_once {W : ML} {k m : Int} {t t' : Bool} {e e' : Int} (h : rightAns W k m t e) (h' : rightAns W k m t' e') : t = t' ∧ e = e' := by
  rcases h with ⟨rfl, rfl, h⟩ | ⟨hf, h⟩
  · rcases h' with ⟨rfl, rfl, _⟩ | ⟨hf, _⟩
    · exact ⟨rfl, rfl⟩
    · exact absurd hf h
  · rcases h' with ⟨_, _, q⟩ | ⟨_, h'⟩
    · exact absurd hf q
    · rcases h with ⟨rfl, rfl, r, hr, hr0⟩ | ⟨rfl, h1, h2⟩
      · rcases h' with ⟨rfl, rfl, _⟩ | ⟨_, q, _⟩
        · exact ⟨rfl, rfl⟩
        · exact absurd hr0 (q r hr)
      · rcases h' with ⟨_, _, r, hr, hr0⟩ | ⟨rfl, _, h3⟩
        · exact absurd hr0 (h1 r hr)
        · refine ⟨?_, rfl⟩
          cases t
          · cases t'
            · rfl
            · exact absurd (h2.2 (h3.1 rfl)) (by simp)
          · exact (h3.2 (h2.1 rfl)).symm
set_option maxHeartbeats 3200000 in
theorem rright_any (A : Option Addr) (n c : Nat) (k m : Int) (W : ML) (w : World) (hA : IsM w A W) (hn : W.length = n) (h63 : n ≤ 9223372036854775807) (bW : ∀ r ∈ W, ∀ x ∈ r, x < 256) (h47 : ∀ r ∈ W, r.length ≤ 1000000) (k1 : -9223372036854775808 ≤ k) (k2 : k ≤ 9223372036854775807) (m1 : -9223372036854775808 ≤ m) (m2 : m ≤ 9223372036854775807) :
    Calls Tryd.prog 15 #[.slice A n c, .int .i64 k, .int .i64 m] w fun e w' => ∃ (t : Bool) (E : Int), e = .returned (.tuple #[.bool t, .int .i64 E]) ∧ rightAns W k m t E ∧ Below w.heap.size w w' := by
  have HA := hide hA
  have HN := hide hn
  have M0 := hide (rfits_any A n c k m W w hA hn h63 k1 k2 m1 m2)
  have M1 := hide (fun (w' : World) (h : IsM w' A W) => ralike_any A n c k m W w' h hn h63 bW h47 k1 k2 m1 m2)
  clear hA hn bW h47 k1 k2 m1 m2
  go_enter Tryd.func15, Tryd.ntmps15
  go_wp2_with fail
  refine M0.out.mono ?_
  rintro e w1 ⟨v, rfl, hf, kb1⟩
  have K1 := hide kb1
  clear kb1 M0
  rcases hf with ⟨N, rfl, hc, hl, hN⟩ | ⟨rfl, hno⟩
  · have HF := hide (show fitsOk W k m from ⟨hc, hl, N, hN⟩)
    have IA := hide (HA.out.below K1.out)
    clear hc hl hN HA
    go_wp2_with fail
    go_loopw [10] (fun i wr => ∃ y d : Nat, y ≤ n ∧ i = .int .i64 (y : Int) ∧ Hid (∀ l, l < y → W.getD l [] ≠ []) ∧ wr = w1.drewN d) (fun i _ => n - (intOf i).toNat)
    case atStart => exact ⟨0, 0, Nat.zero_le _, rfl, hide (fun t ht => absurd ht (Nat.not_lt_zero t)), rfl⟩
    case round =>
      obtain ⟨y, d, hy, rfl, hall, rfl⟩ := hrel
      by_cases hlt : y < n
      · obtain ⟨b3, off3, A3, c3, rfl, cy, iy, l3, m3⟩ := (IA.out.drewN d).at_ y (by rw [HN.out]; exact hlt)
        obtain ⟨ly, hly⟩ : ∃ ly, ly = (W.getD y []).length := ⟨_, rfl⟩
        rw [← hly] at cy l3
        have HLY := hide hly
        have HMEM := hide (show W.getD y [] ∈ W from mem_getD (by rw [HN.out]; exact hlt))
        clear hly iy
        by_cases hz : ly = 0
        · have hz0 : ((ly : Int) == 0) = true := by simp [hz]
          have HZ0 := hide hz
          clear hz
          go_wp2_with fail
          go_ret2
          exact ⟨false, _, rfl, .inr ⟨HF.out, .inl ⟨rfl, rfl, _, HMEM.out, List.eq_nil_of_length_eq_zero (by rw [← HLY.out]; exact HZ0.out)⟩⟩, below_drewN K1.out _⟩
        · have hz0 : ((ly : Int) == 0) = false := by simp; omega
          have HZ0 := hide hz
          clear hz
          go_wp2_with fail
          go_roundw
          case rel =>
            refine ⟨y + 1, d, by omega, by go_num, hide (fun t ht => ?_), rfl⟩
            by_cases e : t = y
            · subst e; exact fun q => HZ0.out (by rw [HLY.out, q]; rfl)
            · exact hall.out t (by omega)
          case measure => simp [intOf]; omega
      · obtain rfl : y = n := by omega
        have M2 := hide (M1.out _ (IA.out.drewN d))
        clear M1
        go_wp2_with fail
        refine M2.out.mono ?_
        rintro e w2 ⟨t, rfl, ht, k2⟩
        go_wp2_with fail
        go_ret2
        refine ⟨t, _, rfl, .inr ⟨HF.out, .inr ⟨rfl, fun r hr => ?_, ht⟩⟩, below_step (below_drewN K1.out _) k2⟩
        obtain ⟨i, hi, rfl⟩ := List.getElem_of_mem hr
        have := hall.out i (by rw [← HN.out]; exact hi)
        simpa [hi] using this
  · have HX := hide hno
    clear hno
    go_wp2_with fail
    go_ret2
    exact ⟨false, _, rfl, .inl ⟨rfl, rfl, HX.out⟩, K1.out⟩
end Go.Proofs.YtpjocddeiehckaaDoor
namespace Go.Proofs.YtpjocddeiehckaaDoor
open Go.RowKit
/-- What Wrong answers. -/
def wrongAns (W : ML) (k m : Int) (i : Int) (e : Int) : Prop :=
  ∃ (t : Bool) (F : Int), rightAns W k m t F ∧ ((F ≠ 0 ∧ i = 0 ∧ e = F) ∨ (F = 0 ∧ t = true ∧ i = -1 ∧ e = 0) ∨
    (F = 0 ∧ t = false ∧ ((∃ q : Nat, q < W.length ∧ i = (q : Int) ∧ e = 0 ∧ alikeP (W.set q []) k m ∧ ∀ p, p < q → ¬ alikeP (W.set p []) k m) ∨ (i = 0 ∧ e = 15 ∧ ∀ p, p < W.length → ¬ alikeP (W.set p []) k m))))
theorem wrong_once {W : ML} {k m i i' e e' : Int} (h : wrongAns W k m i e) (h' : wrongAns W k m i' e') : i = i' ∧ e = e' := by
  obtain ⟨t, F, h1, h⟩ := h
  obtain ⟨t', F', h1', h'⟩ := h'
  obtain ⟨rfl, rfl⟩ := right_once h1 h1'
  rcases h with ⟨hF, rfl, rfl⟩ | ⟨rfl, rfl, rfl, rfl⟩ | ⟨rfl, rfl, h⟩
  · rcases h' with ⟨_, rfl, rfl⟩ | ⟨q, _⟩ | ⟨q, _⟩
    · exact ⟨rfl, rfl⟩
    · exact absurd q hF
    · exact absurd q hF
  · rcases h' with ⟨q, _⟩ | ⟨_, _, rfl, rfl⟩ | ⟨_, q, _⟩
    · exact absurd rfl q
    · exact ⟨rfl, rfl⟩
    · cases q
  · rcases h' with ⟨q, _⟩ | ⟨_, q, _⟩ | ⟨_, _, h'⟩
    · exact absurd rfl q
    · cases q
    · rcases h with ⟨q, hq, rfl, rfl, ha, hp⟩ | ⟨rfl, rfl, hp⟩
      · rcases h' with ⟨q', hq', rfl, rfl, ha', hp'⟩ | ⟨_, _, hp'⟩
        · rcases Nat.lt_trichotomy q q' with l | l | l
          · exact absurd ha (hp' q l)
          · exact ⟨by rw [l], rfl⟩
          · exact absurd ha' (hp q' l)
        · exact absurd ha (hp' q hq)
      · rcases h' with ⟨q', hq', rfl, rfl, ha', hp'⟩ | ⟨rfl, rfl, _⟩
        · exact absurd ha' (hp q' hq')
        · exact ⟨rfl, rfl⟩
theorem set_rows {W : ML} {i : Nat} {p : List Nat → Prop} (h : ∀ r ∈ W, p r) (h0 : p []) : ∀ r ∈ W.set i [], p r := fun r hr => by
  rcases List.mem_or_eq_of_mem_set hr with hr | rfl
  · exact h r hr
  · exact h0
set_option maxHeartbeats 3200000 in
theorem rwrong_any (A : Option Addr) (n c : Nat) (k m : Int) (W : ML) (w : World) (hA : IsM w A W) (hn : W.length = n) (h63 : n ≤ 1000000) (bW : ∀ r ∈ W, ∀ x ∈ r, x < 256) (h47 : ∀ r ∈ W, r.length ≤ 1000000) (k1 : -9223372036854775808 ≤ k) (k2 : k ≤ 9223372036854775807) (m1 : -9223372036854775808 ≤ m) (m2 : m ≤ 9223372036854775807) :
    Calls Tryd.prog 17 #[.slice A n c, .int .i64 k, .int .i64 m] w fun e w' => ∃ (i E : Int), e = .returned (.tuple #[.int .i64 i, .int .i64 E]) ∧ wrongAns W k m i E ∧ Below w.heap.size w w' := by
  have HA := hide hA
  have HN := hide hn
  have M0 := hide (rright_any A n c k m W w hA hn (by omega) bW h47 k1 k2 m1 m2)
  have M1 := hide (fun (B : Option Addr) (cb y : Nat) (w' : World) (h : IsM w' B (W.set y [])) => ralike_any B n cb k m (W.set y []) w' h (by rw [List.length_set, hn]) (by omega) (set_rows bW (fun x hx => absurd hx (by simp))) (set_rows h47 (by simp)) k1 k2 m1 m2)
  clear hA hn bW h47 k1 k2 m1 m2
  go_enter Tryd.func17, Tryd.ntmps17
  go_wp2_with fail
  refine M0.out.mono ?_
  rintro e w1 ⟨t, F, rfl, hr, kb1⟩
  have K1 := hide kb1
  have HR := hide hr
  clear kb1 M0 hr
  by_cases e0 : F = 0
  · subst e0
    have he0 : ((0 : Int) != 0) = false := rfl
    have IA := hide (HA.out.below K1.out)
    clear HA
    cases t
    · go_wp2_with fail
      go_loopw [10] (fun i wr => ∃ y : Nat, y ≤ n ∧ i = .int .i64 (y : Int) ∧ Hid (∀ p, p < y → ¬ alikeP (W.set p []) k m) ∧ Hid (Below w1.heap.size w1 wr)) (fun i _ => n - (intOf i).toNat)
      case atStart => exact ⟨0, Nat.zero_le _, rfl, hide (fun t ht => absurd ht (Nat.not_lt_zero t)), hide (Below.refl _ _)⟩
      case round =>
        obtain ⟨y, hy, rfl, hall, hbel⟩ := hrel
        by_cases hlt : y < n
        · obtain ⟨b3, off3, A3, c3, rfl, -⟩ := IA.out.at_ y (by rw [HN.out]; exact hlt)
          have IR := hide (IA.out.below hbel.out)
          have HBE := hide hbel.out
          clear hbel
          go_wp2_with (at_builtin; refine halt ?_)
          refine ⟨?_⟩
          have ka := below_alloc wr (.cells #[] 34)
          have HE := Held.emptyAt (w := wr) (B := wr.heap.size) (b := wr.heap.size) (Nat.le_refl _) rfl
          have hro := (IR.out.off (B := wr.heap.size) (Nat.le_refl _)).keep ka
          refine wpList_append_helds rfl (.tmp 29) (.tmp 30) rfl wr.heap.size _ _ rfl HE _ n c W rfl hro HN.out (fun q => by cases q) (by simp; omega) ka.size ?_
          intro v5 w5 h5 k5
          obtain ⟨g5, c5, rfl⟩ := h5.block (n := n) (by rw [List.nil_append, HN.out]) (by omega)
          obtain ⟨A6, d6, cy, -, fy, -, -⟩ := h5.row y hlt
          have hp := h5.put (u := .slice none 0 0) (xs := []) (RowOff.nil _ _) y
          rw [List.nil_append] at hp
          have kp := h5.below (k := y) (u := .slice none 0 0) (ka.trans k5)
          obtain ⟨A7, c7, e7, r7, -⟩ := hp.form (n := n) (by rw [List.length_set, HN.out])
          cases e7
          have M2 := hide (M1.out _ c5 y _ r7.isM)
          have KP := hide (HBE.out.trans (kp.mono HBE.out.size))
          have hyc : (y : Int) < (n : Int) := by omega
          clear ka HE hro h5 k5 hp kp r7
          go_wp2_with fail
          refine M2.out.mono ?_
          rintro e w6 ⟨t, rfl, ht, k6⟩
          have K6 := hide (below_step KP.out k6)
          have HT := hide ht
          clear k6 ht M2
          cases t
          · go_wp2_with fail
            go_roundw
            case rel =>
              refine ⟨y + 1, by omega, by go_num, hide (fun p hp => ?_), K6⟩
              by_cases e : p = y
              · subst e; exact fun q => absurd (HT.out.2 q) (by simp)
              · exact hall.out p (by omega)
            case measure => simp [intOf]; omega
          · go_wp2_with fail
            go_ret2
            exact ⟨_, _, rfl, ⟨false, 0, HR.out, .inr (.inr ⟨rfl, rfl, .inl ⟨y, by rw [HN.out]; exact hlt, rfl, rfl, HT.out.1 (by simp), hall.out⟩⟩)⟩, below_step K1.out K6.out⟩
        · obtain rfl : y = n := by omega
          go_wp2_with fail
          go_ret2
          exact ⟨_, _, rfl, ⟨false, 0, HR.out, .inr (.inr ⟨rfl, rfl, .inr ⟨rfl, rfl, fun p hp => hall.out p (by rw [← HN.out]; exact hp)⟩⟩)⟩, below_step K1.out hbel.out⟩
    · go_wp2_with fail
      go_ret2
      exact ⟨_, _, rfl, ⟨true, 0, HR.out, .inr (.inl ⟨rfl, rfl, rfl, rfl⟩)⟩, K1.out⟩
  · have he : (F != 0) = true := by simp [e0]
    have HX := hide e0
    clear e0
    go_wp2_with fail
    go_ret2
    exact ⟨_, _, rfl, ⟨t, F, HR.out, .inl ⟨HX.out, rfl, rfl⟩⟩, K1.out⟩
end Go.Proofs.YtpjocddeiehckaaDoor
namespace Go.Proofs.YtpjocddeiehckaaDoor
open Go.RowKit
def MendC : Prop := ∀ (A : Option Addr) (n c : Nat) (k m : Int) (W : ML) (w : World), SmallM w A n W → I64 k → I64 m → TabW w →
  Calls Tryd.prog 9 #[.slice A n c, .int .i64 k, .int .i64 m] w fun e w' => ∃ v L E, e = .returned (.tuple #[v, .int .i64 E]) ∧ OutM w' v L ∧ mendAns W k m L E ∧ Below w.heap.size w w'
def RightC : Prop := ∀ (A : Option Addr) (n c : Nat) (k m : Int) (W : ML) (w : World), SmallM w A n W → I64 k → I64 m → TabW w →
  Calls Tryd.prog 14 #[.slice A n c, .int .i64 k, .int .i64 m] w fun e w' => ∃ (t : Bool) (E : Int), e = .returned (.tuple #[.bool t, .int .i64 E]) ∧ rightAns W k m t E ∧ Below w.heap.size w w'
def WrongC : Prop := ∀ (A : Option Addr) (n c : Nat) (k m : Int) (W : ML) (w : World), SmallM w A n W → I64 k → I64 m → TabW w →
  Calls Tryd.prog 16 #[.slice A n c, .int .i64 k, .int .i64 m] w fun e w' => ∃ (i E : Int), e = .returned (.tuple #[.int .i64 i, .int .i64 E]) ∧ wrongAns W k m i E ∧ Below w.heap.size w w'
end Go.Proofs.YtpjocddeiehckaaDoor
namespace Go.Proofs.YtpjocddeiehckaaDoor
open Go.RowKit
set_option maxHeartbeats 1600000 in
theorem shardMends_by (hS : SumsC) (hM : MendC) (A : Option Addr) (n c : Nat) (k m : Int) (D : ML) (w : World) (hA : IsM w A D) (hn : D.length = n) (h47 : n ≤ 140737488351232) (bD : ∀ r ∈ D, ∀ x ∈ r, x < 256) (rD : ∀ r ∈ D, r.length ≤ 140737488351232) (k1 : I64 k) (m1 : I64 m) (hT : TabW w) :
    Calls Tryd.prog 3 #[.slice A n c, .int .i64 k, .int .i64 m] w fun e w' => e = .returned (.bool true) ∧ Below w.heap.size w w' := by
  have G1 := hide (great_sized A n c D w hA hn (by omega) rD)
  have HK := hide (fun w' => known8_any hS w')
  have M1 := hide (fun (h : SmallM w A n D) => hM A n c k m D w h k1 m1 hT)
  have M2 := hide (fun (w' : World) (h : SmallM w' A n D) => rmend_any A n c k m D w' h.1 h.2.1 (by omega) h.2.2.2.1 h.million k1.1 k1.2 m1.1 m1.2)
  have SM := hide (show n ≤ 1500 ∧ (∀ r ∈ D, r.length ≤ 1500) → SmallM w A n D from fun q => ⟨hA, hn, q.1, bD, q.2⟩)
  clear hS hM hA hn bD rD k1 m1 hT
  go_enter Tryd.func3, Tryd.ntmps3
  go_wp2_with fail
  refine G1.out.mono ?_
  rintro e w1 ⟨t, rfl, ht, rfl⟩
  cases t
  · have S := SM.out (ht rfl)
    have hSm := hide S
    have M1 := hide (M1.out S)
    clear ht S
    go_wp2_with fail
    refine M1.out.mono ?_
    rintro e w2 ⟨v, L, E, rfl, ⟨A2, n2, c2, rfl, hn2, i2, -, hn63⟩, ha2, k2⟩
    have K2 := hide k2
    have I2 := hide i2
    have M2 := hide (M2.out w2 (hSm.out.below k2))
    have HA2 := hide ha2
    have HN2 := hide hn2
    clear k2 i2 ha2 M1 hn2
    go_wp2_with fail
    refine M2.out.mono ?_
    rintro e w3 ⟨v, L', E', rfl, o3, ha3, k3⟩
    obtain ⟨rfl, rfl⟩ := mend_once HA2.out ha3
    obtain ⟨A3, c3, rfl, i3, -⟩ := o3.form (n := n2) HN2.out
    have hee : (E == E) = true := by simp
    have HR := hide (rows_same A2 A3 n2 c2 c3 L w3 (I2.out.below k3) i3 HN2.out)
    have hl := i3
    have K3 := hide (below_step K2.out k3)
    clear k3 i3 o3 ha3 HA2 I2 M2 hl
    go_wp2_with fail
    refine (HR.out hn63).mono ?_
    rintro e w4 ⟨rfl, d, rfl⟩
    go_wp2_with fail
    refine (HK.out _).mono ?_
    rintro e w5 ⟨rfl, k5⟩
    have K5 := hide (below_step (below_draw K3.out d) k5)
    clear k5
    go_wp2_with fail
    go_ret
    exact ⟨rfl, K5.out⟩
  · go_wp2_with fail
    go_ret
    exact ⟨rfl, Below.refl _ _⟩
set_option maxHeartbeats 1600000 in
theorem shardRights_by (hS : SumsC) (hR : RightC) (hW : WrongC) (A : Option Addr) (n c : Nat) (k m : Int) (D : ML) (w : World) (hA : IsM w A D) (hn : D.length = n) (h47 : n ≤ 140737488351232) (bD : ∀ r ∈ D, ∀ x ∈ r, x < 256) (rD : ∀ r ∈ D, r.length ≤ 140737488351232) (k1 : I64 k) (m1 : I64 m) (hT : TabW w) :
    Calls Tryd.prog 5 #[.slice A n c, .int .i64 k, .int .i64 m] w fun e w' => e = .returned (.bool true) ∧ Below w.heap.size w w' := by
  have G1 := hide (great_sized A n c D w hA hn (by omega) rD)
  have HK := hide (fun w' => known8_any hS w')
  have M1 := hide (fun (w' : World) (h : SmallM w' A n D) (t : TabW w') => hR A n c k m D w' h k1 m1 t)
  have M2 := hide (fun (w' : World) (h : SmallM w' A n D) => rright_any A n c k m D w' h.1 h.2.1 (by omega) h.2.2.2.1 h.million k1.1 k1.2 m1.1 m1.2)
  have M3 := hide (fun (w' : World) (h : SmallM w' A n D) (t : TabW w') => hW A n c k m D w' h k1 m1 t)
  have M4 := hide (fun (w' : World) (h : SmallM w' A n D) => rwrong_any A n c k m D w' h.1 h.2.1 (by have := h.2.2.1; omega) h.2.2.2.1 h.million k1.1 k1.2 m1.1 m1.2)
  have SM := hide (show n ≤ 1500 ∧ (∀ r ∈ D, r.length ≤ 1500) → SmallM w A n D from fun q => ⟨hA, hn, q.1, bD, q.2⟩)
  have HTT := hide hT
  clear hS hR hW hA hn bD rD k1 m1 hT
  go_enter Tryd.func5, Tryd.ntmps5
  go_wp2_with fail
  refine G1.out.mono ?_
  rintro e w1 ⟨t, rfl, ht, rfl⟩
  cases t
  · have hSm := hide (SM.out (ht rfl))
    have M1 := hide (M1.out _ hSm.out HTT.out)
    clear ht
    go_wp2_with fail
    refine M1.out.mono ?_
    rintro e w2 ⟨t, E, rfl, ha2, k2⟩
    have K2 := hide k2
    have M2 := hide (M2.out w2 (hSm.out.below k2))
    have HA2 := hide ha2
    clear k2 ha2 M1
    go_wp2_with fail
    refine M2.out.mono ?_
    rintro e w3 ⟨t', E', rfl, ha3, k3⟩
    obtain ⟨rfl, rfl⟩ := right_once HA2.out ha3
    have K3 := hide (below_step K2.out k3)
    have M3 := hide (M3.out w3 (hSm.out.below K3.out) (HTT.out.below K3.out))
    clear k3 ha3 HA2 M2 K2
    go_wp2_with fail
    refine M3.out.mono ?_
    rintro e w4 ⟨i, F, rfl, ha4, k4⟩
    have K4 := hide (below_step K3.out k4)
    have M4 := hide (M4.out w4 (hSm.out.below K4.out))
    have HA4 := hide ha4
    clear k4 ha4 M3 K3
    go_wp2_with fail
    refine M4.out.mono ?_
    rintro e w5 ⟨i', F', rfl, ha5, k5⟩
    obtain ⟨rfl, rfl⟩ := wrong_once HA4.out ha5
    have K5 := hide (below_step K4.out k5)
    have htt : (t == t) = true := by simp
    have hee : (E == E) = true := by simp
    have hii : (i == i) = true := by simp
    have hff : (F == F) = true := by simp
    clear k5 ha5 HA4 M4 K4
    go_wp2_with fail
    refine (HK.out _).mono ?_
    rintro e w6 ⟨rfl, k6⟩
    have K6 := hide (below_step K5.out k6)
    clear k6
    go_wp2_with fail
    go_ret
    exact ⟨rfl, K6.out⟩
  · go_wp2_with fail
    go_ret
    exact ⟨rfl, Below.refl _ _⟩
end Go.Proofs.YtpjocddeiehckaaDoor
namespace Go.Proofs.YtpjocddeiehckaaDoor
/-- Rows of which those at f 0 .. f (i - 1) are lost. -/
def nilAt (W : ML) (f : Nat → Nat) : Nat → ML
  | 0 => W
  | i + 1 => (nilAt W f i).set (f i) []
theorem nilAt_len (W : ML) (f : Nat → Nat) : ∀ i, (nilAt W f i).length = W.length
  | 0 => rfl
  | i + 1 => by
    show ((nilAt W f i).set (f i) []).length = _
    rw [List.length_set, nilAt_len W f i]
theorem nilAt_mem {W : ML} {f : Nat → Nat} {p : List Nat → Prop} (h : ∀ r ∈ W, p r) (h0 : p []) : ∀ i, ∀ r ∈ nilAt W f i, p r
  | 0 => h
  | i + 1 => set_rows (nilAt_mem h h0 i) h0
theorem getD_set {W : ML} {i l : Nat} {r : List Nat} (hl : l < W.length) : (W.set i r).getD l [] = if i = l then r else W.getD l [] := by
  rw [List.getD_eq_getElem?_getD, List.getD_eq_getElem?_getD, List.getElem?_set]
  by_cases e : i = l
  · subst e
    rw [if_pos rfl, if_pos rfl, if_pos hl]; rfl
  · rw [if_neg e, if_neg e]
theorem nilAt_hit {W : ML} {f : Nat → Nat} {l : Nat} (hl : l < W.length) : ∀ i j, j < i → f j = l → (nilAt W f i).getD l [] = []
  | 0, _, h, _ => absurd h (Nat.not_lt_zero _)
  | i + 1, j, h, e => by
    show ((nilAt W f i).set (f i) []).getD l [] = []
    rw [getD_set (by rw [nilAt_len]; exact hl)]
    by_cases q : f i = l
    · rw [if_pos q]
    · rw [if_neg q]
      refine nilAt_hit hl i j ?_ e
      rcases Nat.lt_or_ge j i with a | a
      · exact a
      · have : j = i := by omega
        exact absurd (this ▸ e) q
theorem nilAt_miss {W : ML} {f : Nat → Nat} {l : Nat} (hl : l < W.length) : ∀ i, (∀ j, j < i → f j ≠ l) → (nilAt W f i).getD l [] = W.getD l []
  | 0, _ => rfl
  | i + 1, h => by
    show ((nilAt W f i).set (f i) []).getD l [] = _
    rw [getD_set (by rw [nilAt_len]; exact hl), if_neg (h i (Nat.lt_succ_self i))]
    exact nilAt_miss hl i (fun j hj => h j (Nat.lt_succ_of_lt hj))
/-- What is there was not lost. -/
theorem nilAt_there {W : ML} {f : Nat → Nat} {i l : Nat} (hl : l < W.length) (h : (nilAt W f i).getD l [] ≠ []) : (nilAt W f i).getD l [] = W.getD l [] :=
  nilAt_miss hl i (fun j hj e => h (nilAt_hit hl i j hj e))
theorem lost_most {W : ML} {f : Nat → Nat} {i : Nat} (hf : ∀ j, j < i → f j < W.length) (hj : ∀ j k, j < i → k < i → f j = f k → j = k) : (present (nilAt W f i)).length + i ≤ W.length := by
  have hnd : (present (nilAt W f i) ++ (List.range i).map f).Nodup := by
    refine List.nodup_append.2 ⟨present_nodup _, ?_, ?_⟩
    · rw [List.nodup_iff_pairwise_ne, List.pairwise_map]
      refine List.Pairwise.imp_of_mem ?_ (List.nodup_iff_pairwise_ne.1 List.nodup_range)
      intro a b ha hb hab e
      exact hab (hj a b (List.mem_range.1 ha) (List.mem_range.1 hb) e)
    · rintro a ha b hb rfl
      obtain ⟨j, hj1, rfl⟩ := List.mem_map.1 hb
      have h1 := present_mem.1 ha
      rw [nilAt_len] at h1
      exact h1.2 (nilAt_hit h1.1 i j (List.mem_range.1 hj1) rfl)
  have := nodup_len (m := List.range W.length) hnd (fun x hx => by
    rcases List.mem_append.1 hx with h | h
    · have := (present_mem.1 h).1
      rw [nilAt_len] at this
      exact List.mem_range.2 this
    · obtain ⟨j, hj1, rfl⟩ := List.mem_map.1 h
      exact List.mem_range.2 (hf j (List.mem_range.1 hj1)))
  rw [List.length_append, List.length_map, List.length_range, List.length_range] at this
  exact this
theorem lost_least {W : ML} {f : Nat → Nat} {i : Nat} (hW : ∀ r ∈ W, r ≠ []) : W.length ≤ (present (nilAt W f i)).length + i := by
  have := nodup_len (l := List.range W.length) (m := present (nilAt W f i) ++ (List.range i).map f) List.nodup_range (fun x hx => by
    have hx1 := List.mem_range.1 hx
    by_cases h : ∃ j, j < i ∧ f j = x
    · obtain ⟨j, hj, e⟩ := h
      exact List.mem_append.2 (.inr (List.mem_map.2 ⟨j, List.mem_range.2 hj, e⟩))
    · refine List.mem_append.2 (.inl (present_mem.2 ⟨by rw [nilAt_len]; exact hx1, ?_⟩))
      rw [nilAt_miss hx1 i (fun j hj e => h ⟨j, hj, e⟩)]
      have e : W.getD x [] = W[x] := by simp [hx1]
      rw [e]
      exact hW _ (List.getElem_mem hx1))
  rw [List.length_append, List.length_map, List.length_range, List.length_range] at this
  exact this
theorem codeE_ok {k b : Nat} (h1 : 1 ≤ k) (h2 : k + b ≤ 14) : codeE (k : Int) (b : Int) = 0 := by
  unfold codeE
  rw [if_neg (by omega)]
theorem lost_fits {k b n : Nat} {X : Mat} {f : Nat → Nat} {i : Nat} (h1 : 1 ≤ k) (h2 : k + b ≤ 14) : fitsOk (nilAt (wordL k b n X) f i) (k : Int) (b : Int) := by
  refine ⟨codeE_ok h1 h2, by rw [nilAt_len, wordL_len]; omega, n, ?_⟩
  exact nilAt_mem (p := fun r => r ≠ [] → r.length = n) (fun r hr _ => (wordL_shape k b n X).wide r hr) (fun q => absurd rfl q) i
/-- Too few. -/
theorem mend_few {k b n : Nat} {X : Mat} {f : Nat → Nat} {i : Nat} {L : ML} {e : Int} (h1 : 1 ≤ k) (h2 : k + b ≤ 14) (hp : (present (nilAt (wordL k b n X) f i)).length < k) (h : mendAns (nilAt (wordL k b n X) f i) (k : Int) (b : Int) L e) : L = [] ∧ e = 15 := by
  rcases h with ⟨_, _, q⟩ | ⟨_, ⟨he, hl, _⟩ | ⟨_, q, _⟩⟩
  · exact absurd (lost_fits h1 h2) q
  · exact ⟨hl, he⟩
  · omega
/-- Enough. -/
theorem mend_back {k b n : Nat} {X : Mat} {f : Nat → Nat} {i : Nat} {L : ML} {e : Int} (h1 : 1 ≤ k) (h2 : k + b ≤ 14) (hp : k ≤ (present (nilAt (wordL k b n X) f i)).length) (h : mendAns (nilAt (wordL k b n X) f i) (k : Int) (b : Int) L e) : L = wordL k b n X ∧ e = 0 := by
  refine mend_once h (.inr ⟨lost_fits h1 h2, .inr ⟨rfl, by omega, n, ?_, ?_⟩⟩)
  · exact nilAt_mem (p := fun r => r ≠ [] → r.length = n) (fun r hr _ => (wordL_shape k b n X).wide r hr) (fun q => absurd rfl q) i
  · rw [Int.toNat_natCast, Int.toNat_natCast]
    refine ⟨X, rfl, fun l hl => ?_⟩
    have := firstP_mem hl
    rw [nilAt_len] at this
    exact (nilAt_there this.1 this.2).symm
end Go.Proofs.YtpjocddeiehckaaDoor
namespace Go.Proofs.YtpjocddeiehckaaDoor
open Go.RowKit
/-- Places that go round. -/
def turnF (k N : Nat) (j : Nat) : Nat := (k + j) % N
theorem turnF_lt {k N : Nat} (h : 1 ≤ N) (j : Nat) : turnF k N j < N := Nat.mod_lt _ h
theorem turnF_inj {k N i j : Nat} (hi : i < N) (hj : j < N) (h : turnF k N i = turnF k N j) : i = j := by
  unfold turnF at h
  have a := Nat.div_add_mod (k + i) N
  have b := Nat.div_add_mod (k + j) N
  rw [h] at a
  have e : N * ((k + i) / N) + (k + j) = N * ((k + j) / N) + (k + i) := by omega
  rcases Nat.lt_trichotomy ((k + i) / N) ((k + j) / N) with l | l | l
  · have := Nat.mul_le_mul_left N l
    rw [Nat.mul_succ] at this
    omega
  · rw [l] at e
    omega
  · have := Nat.mul_le_mul_left N l
    rw [Nat.mul_succ] at this
    omega
set_option maxHeartbeats 3200000 in
theorem shardTooFew_by (hS : SumsC) (hM : MendC) (A : Option Addr) (n c : Nat) (m z : Int) (D : ML) (w : World) (hA : IsM w A D) (hn : D.length = n) (h47 : n ≤ 140737488351232) (bD : ∀ r ∈ D, ∀ x ∈ r, x < 256) (rD : ∀ r ∈ D, r.length ≤ 140737488351232) (m1 : I64 m) (z1 : I64 z) (hT : TabW w) :
    Calls Tryd.prog 7 #[.slice A n c, .int .i64 m, .int .i64 z] w fun e w' => e = .returned (.bool true) ∧ Below w.heap.size w w' := by
  have G1 := hide (great_sized A n c D w hA hn (by omega) rD)
  have HK := hide (fun w' => known8_any hS w')
  have M1 := hide (fun (h : SmallM w A n D) => hS A n c m D w h m1)
  have M2 := hide (fun (A : Option Addr) (n c : Nat) (k m : Int) (W : ML) (w : World) (h : SmallM w A n W) (h1 : I64 k) (h2 : I64 m) (t : TabW w) => hM A n c k m W w h h1 h2 t)
  have SM := hide (show n ≤ 1500 ∧ (∀ r ∈ D, r.length ≤ 1500) → SmallM w A n D from fun q => ⟨hA, hn, q.1, bD, q.2⟩)
  have Z1 := hide z1
  have HTT := hide hT
  clear hT hS hM hA hn bD rD m1 z1
  go_enter Tryd.func7, Tryd.ntmps7
  go_wp2_with fail
  refine G1.out.mono ?_
  rintro e w1 ⟨t, rfl, ht, rfl⟩
  cases t
  · have hSm := hide (SM.out (ht rfl))
    have M1 := hide (M1.out hSm.out)
    clear ht SM G1
    go_wp2_with fail
    refine M1.out.mono ?_
    rintro e w2 ⟨v, L, E, rfl, ⟨A2, n2, c2, rfl, hn2, i2, nc2, hn63⟩, ha2, k2⟩
    have K2 := hide k2
    by_cases e0 : E = 0
    · subst e0
      obtain ⟨b, len0, rfl, h1, h14, hl1, hl0, hLb, hall⟩ := sums_all ha2 hSm.out.2.2.2.1
      obtain rfl : b = n2 := by rw [← hLb, hn2]
      have hDn := hSm.out.2.1
      rw [hDn] at h1 h14 hall
      have I2 := hide i2
      have HD := hide (hSm.out.1.below k2)
      have hl15 : len0 ≤ 1500 := by
        rw [hl0]
        exact hSm.out.2.2.2.2 _ (mem_getD (by rw [hDn]; omega))
      obtain ⟨bq, oq, Aq, cq, rfl, -⟩ := HD.out.at_ 0 (by rw [hDn]; omega)
      have HAL := hide hall
      have HDN := hide hDn
      have HLB := hide hn2
      have NC := hide nc2
      clear i2 k2 ha2 hall hDn hn2 hLb nc2 M1 hl0
      go_wp2_with (at_builtin; refine halt ?_)
      refine ⟨?_⟩
      have ka := below_alloc w2 (.cells #[] 34)
      have HE := Held.emptyAt (w := w2) (B := w2.heap.size) (b := w2.heap.size) (Nat.le_refl _) rfl
      refine wpList_append_helds rfl (.tmp 25) (.tmp 26) rfl w2.heap.size _ _ rfl HE _ n c D rfl ((HD.out.off (B := w2.heap.size) (Nat.le_refl _)).keep ka) HDN.out (fun q => by cases q) (by simp; omega) ka.size ?_
      intro v5 w5 h5 k5
      have K5 := ka.trans k5
      have H5 := hide h5
      have HB5 := hide K5.size
      have HS5 := hide ((I2.out.off (B := w2.heap.size) (Nat.le_refl _)).keep K5)
      have K5 := hide K5
      clear h5 k5 ka HE
      go_wp2_with (at_builtin; refine halt ?_)
      refine ⟨?_⟩
      refine wpList_append_helds rfl (.tmp 27) (.tmp 28) rfl w2.heap.size v5 _ rfl H5.out A2 b c2 L rfl HS5.out HLB.out NC.out (by rw [List.nil_append, HDN.out]; omega) HB5.out ?_
      intro v6 w6 h6 k6
      rw [List.nil_append, HAL.out] at h6
      obtain ⟨N, hN⟩ : ∃ N, N = n + b := ⟨_, rfl⟩
      have hN1 : 1 ≤ N := by omega
      have hN14 : N ≤ 14 := by omega
      obtain ⟨g6, c6, rfl⟩ := h6.block (n := N) (by rw [wordL_len, hN]) hN1
      have H6 := hide h6
      have K6 := hide (K5.out.trans k6)
      clear h6 k6 H5 HS5 HB5 K5
      obtain ⟨kk, hkk, hrem⟩ := rem_place z N hN1
      have HNE := hide hN
      have hW0 : (wordL n b len0 (en D)).length = N := by rw [wordL_len, hN]
      have HWS := hide (wordL_shape n b len0 (en D))
      have HLW := hide hW0
      clear hN hW0
      have hN0 : ¬ (N : Int) = 0 := by omega
      have hz1 := Z1.out.1
      have hz2 := Z1.out.2
      unfold I64 at Z1
      rcases hrem with ⟨hneg, hrm⟩ | ⟨hneg, hrm⟩
      all_goals
        rw [hrm] at hneg
        have hadd : (kk : Int) - (N : Int) + (N : Int) = (kk : Int) := by omega
        go_wp2_with fail
        go_loopw [11] (fun i wr => ∃ q : Nat, q ≤ b + 1 ∧ i = .int .i64 (q : Int) ∧ Hid (Held wr w2.heap.size (.slice (some ⟨g6, 0, none⟩) N c6) (nilAt (wordL n b len0 (en D)) (turnF kk N) q)) ∧ Hid (Below w2.heap.size w2 wr)) (fun i _ => b + 1 - (intOf i).toNat)
        case atStart => exact ⟨0, Nat.zero_le _, rfl, H6, K6⟩
        case round =>
          obtain ⟨q, hq, rfl, hh, hbel⟩ := hrel
          by_cases hlt : q ≤ b
          · have hqi : (q : Int) ≤ (b : Int) := by omega
            obtain ⟨f, hf⟩ : ∃ f, f = turnF kk N q := ⟨_, rfl⟩
            have hrq : ((kk : Int) + (q : Int)).tmod (N : Int) = (f : Int) := by
              rw [hf, show (kk : Int) + (q : Int) = ((kk + q : Nat) : Int) by omega, rem_nat]
              rfl
            have hfN : f < N := by rw [hf]; exact turnF_lt hN1 q
            obtain ⟨Ar, cr, cy, -, fy, -, -⟩ := hh.out.row f hfN
            have hst : (nilAt (wordL n b len0 (en D)) (turnF kk N) q).set f [] = nilAt (wordL n b len0 (en D)) (turnF kk N) (q + 1) := by rw [hf]; rfl
            have HP := hh.out.put (u := .slice none 0 0) (xs := []) (RowOff.nil _ _) f
            rw [hst] at HP
            have HP := hide HP
            have KP := hide (hh.out.below (k := f) (u := .slice none 0 0) hbel.out)
            clear hh hbel hf hst
            go_wp2_with fail
            go_roundw
            case rel =>
              exact ⟨q + 1, by omega, by go_num, HP, KP⟩
            case measure => simp [intOf]; omega
          · obtain rfl : q = b + 1 := by omega
            have hqi : ¬ ((b + 1 : Nat) : Int) ≤ (b : Int) := by omega
            obtain ⟨A7, c7, e7, r7, -⟩ := hh.out.form (n := N) (by rw [nilAt_len, HLW.out])
            cases e7
            have hfew := lost_most (W := wordL n b len0 (en D)) (f := turnF kk N) (i := b + 1) (fun j hj => by rw [HLW.out]; exact turnF_lt hN1 j) (fun i j hi hj e => turnF_inj (by have := HNE.out; omega) (by have := HNE.out; omega) e)
            have hlw := HLW.out
            rw [hlw] at hfew
            have hne := HNE.out
            have HFEW := hide (show (present (nilAt (wordL n b len0 (en D)) (turnF kk N) (b + 1))).length < n by omega)
            have HSM := hide (show SmallM wr (some ⟨g6, 0, none⟩) N (nilAt (wordL n b len0 (en D)) (turnF kk N) (b + 1)) from ⟨r7.isM, by rw [nilAt_len, hlw], by omega, nilAt_mem HWS.out.byte (by simp) _, nilAt_mem (fun r hr => by rw [HWS.out.wide r hr]; exact hl15) (by simp) _⟩)
            have M3 := hide (M2.out _ N c6 (n : Int) (b : Int) _ wr HSM.out ⟨by omega, by omega⟩ ⟨by omega, by omega⟩ (HTT.out.below (below_step K2.out hbel.out)))
            have KB := hide (below_step K2.out hbel.out)
            clear hh hbel r7 hfew hlw hne M2
            go_wp2_with fail
            refine M3.out.mono ?_
            rintro e w8 ⟨v, L8, E8, rfl, ⟨A8, n8, c8, rfl, hn8, -, -, -⟩, ha8, k8⟩
            obtain ⟨rfl, rfl⟩ := mend_few h1 h14 HFEW.out ha8
            obtain rfl : 0 = n8 := hn8
            have K8 := hide (below_step KB.out k8)
            clear ha8 k8
            go_wp2_with fail
            refine (HK.out _).mono ?_
            rintro e w9 ⟨rfl, k9⟩
            have K9 := hide (below_step K8.out k9)
            clear k9
            go_wp2_with fail
            go_ret
            exact ⟨rfl, K9.out⟩
    · have he : (E != 0) = true := by simp [e0]
      clear ha2 e0 nc2
      go_wp2_with fail
      refine (HK.out _).mono ?_
      rintro e w5 ⟨rfl, k5⟩
      have K5 := hide (below_step K2.out k5)
      clear k5
      go_wp2_with fail
      go_ret
      exact ⟨rfl, K5.out⟩
  · go_wp2_with fail
    go_ret
    exact ⟨rfl, Below.refl _ _⟩
end Go.Proofs.YtpjocddeiehckaaDoor
namespace Go.Proofs.YtpjocddeiehckaaDoor
open Go.RowKit
set_option maxHeartbeats 6400000 in
theorem shardLost_by (hS : SumsC) (hM : MendC) (A : Option Addr) (n c : Nat) (m : Int) (Q : Option Addr) (nq cq : Nat) (zs0 : List Int) (D : ML) (w : World) (hA : IsM w A D) (hn : D.length = n) (h47 : n ≤ 140737488351232) (bD : ∀ r ∈ D, ∀ x ∈ r, x < 256) (rD : ∀ r ∈ D, r.length ≤ 140737488351232) (m1 : I64 m) (hQ : IsRow .i64 w Q nq cq zs0) (hT : TabW w) :
    Calls Tryd.prog 4 #[.slice A n c, .int .i64 m, .slice Q nq cq] w fun e w' => e = .returned (.bool true) ∧ Below w.heap.size w w' := by
  have G1 := hide (great_sized A n c D w hA hn (by omega) rD)
  have HK := hide (fun w' => known8_any hS w')
  have M1 := hide (fun (h : SmallM w A n D) => hS A n c m D w h m1)
  have M2 := hide (fun (A : Option Addr) (n c : Nat) (k m : Int) (W : ML) (w : World) (h : SmallM w A n W) (h1 : I64 k) (h2 : I64 m) (t : TabW w) => hM A n c k m W w h h1 h2 t)
  have SM := hide (show n ≤ 1500 ∧ (∀ r ∈ D, r.length ≤ 1500) → SmallM w A n D from fun q => ⟨hA, hn, q.1, bD, q.2⟩)
  obtain ⟨zs, hzl, hzb, iz, nq63⟩ := hQ.isI
  have IZ := hide iz
  have HZB := hide hzb
  have HZL := hide hzl
  have HTT := hide hT
  clear hT hS hM hA hn bD rD m1 hQ hzl hzb iz
  go_enter Tryd.func4, Tryd.ntmps4
  go_wp2_with fail
  refine G1.out.mono ?_
  rintro e w1 ⟨t, rfl, ht, rfl⟩
  cases t
  · have hSm := hide (SM.out (ht rfl))
    have M1 := hide (M1.out hSm.out)
    clear ht SM G1
    by_cases h100 : 100 < nq
    · have h100' : decide (100 < nq) = true := by simp [h100]
      go_wp2_with fail
      go_ret
      exact ⟨rfl, Below.refl _ _⟩
    have h100' : decide (100 < nq) = false := by simp; omega
    go_wp2_with fail
    refine M1.out.mono ?_
    rintro e w2 ⟨v, L, E, rfl, ⟨A2, n2, c2, rfl, hn2, i2, nc2, hn63⟩, ha2, k2⟩
    have K2 := hide k2
    by_cases e0 : E = 0
    · subst e0
      obtain ⟨b, len0, rfl, h1, h14, hl1, hl0, hLb, hall⟩ := sums_all ha2 hSm.out.2.2.2.1
      obtain rfl : b = n2 := by rw [← hLb, hn2]
      have hDn := hSm.out.2.1
      rw [hDn] at h1 h14 hall
      have I2 := hide i2
      have HD := hide (hSm.out.1.below k2)
      have hl15 : len0 ≤ 1500 := by
        rw [hl0]
        exact hSm.out.2.2.2.2 _ (mem_getD (by rw [hDn]; omega))
      obtain ⟨bq, oq, Aq, cD, rfl, -⟩ := HD.out.at_ 0 (by rw [hDn]; omega)
      have HAL := hide hall
      have HDN := hide hDn
      have HLB := hide hn2
      have NC := hide nc2
      clear i2 k2 ha2 hall hDn hn2 hLb nc2 M1 hl0
      go_wp2_with (at_builtin; refine halt ?_)
      refine ⟨?_⟩
      have ka := below_alloc w2 (.cells #[] 34)
      have HE := Held.emptyAt (w := w2) (B := w2.heap.size) (b := w2.heap.size) (Nat.le_refl _) rfl
      refine wpList_append_helds rfl (.tmp 31) (.tmp 32) rfl w2.heap.size _ _ rfl HE _ n c D rfl ((HD.out.off (B := w2.heap.size) (Nat.le_refl _)).keep ka) HDN.out (fun q => by cases q) (by simp; omega) ka.size ?_
      intro v5 w5 h5 k5
      have K5 := ka.trans k5
      have H5 := hide h5
      have HB5 := hide K5.size
      have HS5 := hide ((I2.out.off (B := w2.heap.size) (Nat.le_refl _)).keep K5)
      have K5 := hide K5
      clear h5 k5 ka HE
      go_wp2_with (at_builtin; refine halt ?_)
      refine ⟨?_⟩
      refine wpList_append_helds rfl (.tmp 33) (.tmp 34) rfl w2.heap.size v5 _ rfl H5.out A2 b c2 L rfl HS5.out HLB.out NC.out (by rw [List.nil_append, HDN.out]; omega) HB5.out ?_
      intro v6 w6 h6 k6
      rw [List.nil_append, HAL.out] at h6
      obtain ⟨N, hN⟩ : ∃ N, N = n + b := ⟨_, rfl⟩
      have hN1 : 1 ≤ N := by omega
      have hN14 : N ≤ 14 := by omega
      obtain ⟨g6, c6, rfl⟩ := h6.block (n := N) (by rw [wordL_len, hN]) hN1
      obtain ⟨A7, c7, e7, r7, -⟩ := h6.form (n := N) (by rw [wordL_len, hN])
      cases e7
      have I6 := hide r7.isM
      have K6 := hide (below_step K2.out (K5.out.trans k6))
      have HNE := hide hN
      have hW0 : (wordL n b len0 (en D)).length = N := by rw [wordL_len, hN]
      have HWS := hide (wordL_shape n b len0 (en D))
      have HLW := hide hW0
      clear hN hW0 h6 k6 r7 H5 HS5 HB5 K5
      go_wp2_with (at_builtin; refine halt ?_)
      refine ⟨?_⟩
      have ka := below_alloc w6 (.cells #[] 34)
      have HE := Held.emptyAt (w := w6) (B := w6.heap.size) (b := w6.heap.size) (Nat.le_refl _) rfl
      refine wpList_append_helds rfl (.tmp 36) (.tmp 37) rfl w6.heap.size _ _ rfl HE _ N c6 (wordL n b len0 (en D)) rfl ((I6.out.off (B := w6.heap.size) (Nat.le_refl _)).keep ka) HLW.out (fun q => by cases q) (by simp; omega) ka.size ?_
      intro v8 w8 h8 k8
      rw [List.nil_append] at h8
      obtain ⟨g8, c8, rfl⟩ := h8.block (n := N) HLW.out hN1
      have H8 := hide h8
      have K8 := hide (ka.trans k8)
      clear h8 k8 ka HE
      obtain ⟨f, hfs⟩ : ∃ f : Nat → Nat, ∀ j, f j < N ∧ ((¬ (zs.getD j 0).tmod (N : Int) < 0 ∧ (zs.getD j 0).tmod (N : Int) = (f j : Int)) ∨ ((zs.getD j 0).tmod (N : Int) < 0 ∧ (zs.getD j 0).tmod (N : Int) = (f j : Int) - (N : Int))) :=
        ⟨fun j => Classical.choose (rem_place (zs.getD j 0) N hN1), fun j => Classical.choose_spec (rem_place (zs.getD j 0) N hN1)⟩
      have HFS := hide hfs
      have hN0 : ¬ (N : Int) = 0 := by omega
      clear hfs
      go_wp2_with fail
      go_loopw [11, 12] (fun i k wr => ∃ q : Nat, q ≤ b ∧ i = .int .i64 (q : Int) ∧ q ≤ nq ∧ Hid (Held wr w6.heap.size (.slice (some ⟨g8, 0, none⟩) N c8) (nilAt (wordL n b len0 (en D)) f q)) ∧ Hid (Below w6.heap.size w6 wr)) (fun i _ _ => b - (intOf i).toNat)
      case atStart => exact ⟨0, Nat.zero_le _, rfl, Nat.zero_le _, H8, K8⟩
      case round =>
        obtain ⟨q, hq, rfl, hqn, hh, hbel⟩ := hrel
        by_cases hgo : q < b ∧ q < nq
        · obtain ⟨hqb, hqn2⟩ := hgo
          obtain ⟨bz, oz, rfl, cz⟩ := (IZ.out.keep (below_step K6.out hbel.out)).rd (by intro e; have := HZL.out; rw [e] at this; simp at this; omega)
          have cz := cz q (by rw [HZL.out]; exact hqn2)
          have hzb := HZB.out (zs.getD q 0) (by
            have hq2 : q < zs.length := by rw [HZL.out]; exact hqn2
            have e : zs.getD q 0 = zs[q] := by simp [hq2]
            rw [e]; exact List.getElem_mem hq2)
          have hf := HFS.out q
          obtain ⟨zq, hzq⟩ : ∃ zq, zq = zs.getD q 0 := ⟨_, rfl⟩
          obtain ⟨fq, hfq⟩ : ∃ fq, fq = f q := ⟨_, rfl⟩
          rw [← hzq] at cz hzb hf
          rw [← hfq] at hf
          obtain ⟨hfN, hrem⟩ := hf
          have hst : (nilAt (wordL n b len0 (en D)) f q).set fq [] = nilAt (wordL n b len0 (en D)) f (q + 1) := by rw [hfq]; rfl
          obtain ⟨Ar, cr, cy, -, fy, -, -⟩ := hh.out.row fq hfN
          have HP := hh.out.put (u := .slice none 0 0) (xs := []) (RowOff.nil _ _) fq
          rw [hst] at HP
          have HP := hide HP
          have KP := hide (hh.out.below (k := fq) (u := .slice none 0 0) hbel.out)
          have hadd : (fq : Int) - (N : Int) + (N : Int) = (fq : Int) := by omega
          have hqi : (q : Int) < (b : Int) := by omega
          have hqi2 : (q : Int) < (nq : Int) := by omega
          have hz1 := hzb.1
          have hz2 : zq ≤ 9223372036854775807 := by omega
          clear hh hbel hst hzq hfq hzb
          rcases hrem with ⟨hneg, hrm⟩ | ⟨hneg, hrm⟩
          all_goals
            rw [hrm] at hneg
            go_wp2_with fail
            go_roundw
            case rel => exact ⟨q + 1, by omega, by go_num, by omega, HP, KP⟩
            case measure => simp [intOf]; omega
        · obtain ⟨A9, c9, e9, r9, -⟩ := hh.out.form (n := N) (by rw [nilAt_len, HLW.out])
          cases e9
          have hleast := lost_least (W := wordL n b len0 (en D)) (f := f) (i := q) (fun r hr e => by have := HWS.out.wide r hr; rw [e] at this; simp at this; omega)
          have hlw := HLW.out
          rw [hlw] at hleast
          have hne := HNE.out
          have HLST := hide (show n ≤ (present (nilAt (wordL n b len0 (en D)) f q)).length by omega)
          have HSM := hide (show SmallM wr (some ⟨g8, 0, none⟩) N (nilAt (wordL n b len0 (en D)) f q) from ⟨r9.isM, by rw [nilAt_len, hlw], by omega, nilAt_mem HWS.out.byte (by simp) _, nilAt_mem (fun r hr => by rw [HWS.out.wide r hr]; exact hl15) (by simp) _⟩)
          have M3 := hide (M2.out _ N c8 (n : Int) (b : Int) _ wr HSM.out ⟨by omega, by omega⟩ ⟨by omega, by omega⟩ (HTT.out.below (below_step K6.out hbel.out)))
          have KB := hide (below_step K6.out hbel.out)
          have I9 := hide (I6.out.below hbel.out)
          have HGO := hide hgo
          clear hh hbel r9 hleast hlw hne M2
          by_cases hqi : (q : Int) < (b : Int)
          all_goals
            have hqi2 : (q : Int) < (b : Int) → ¬ (q : Int) < (nq : Int) := fun _ _ => HGO.out ⟨by omega, by omega⟩
            try have hqi3 := hqi2 hqi
            clear hqi2 hgo
            go_wp2_with fail
            refine M3.out.mono ?_
            rintro e w9 ⟨v, L9, E9, rfl, ⟨A10, n10, c10, rfl, hn10, i10, -, -⟩, ha9, k9⟩
            obtain ⟨rfl, rfl⟩ := mend_back h1 h14 HLST.out ha9
            obtain rfl : N = n10 := by rw [← HLW.out]; exact hn10
            have K9 := hide (below_step KB.out k9)
            have HRS := hide (rows_same A10 (some ⟨g6, 0, none⟩) N c10 c6 (wordL n b len0 (en D)) w9 i10 (I9.out.below k9) HLW.out (by omega))
            clear ha9 k9 i10 hn10
            go_wp2_with fail
            refine HRS.out.mono ?_
            rintro e w10 ⟨rfl, d10, rfl⟩
            go_wp2_with fail
            refine (HK.out _).mono ?_
            rintro e w11 ⟨rfl, k11⟩
            have K11 := hide (below_step (below_draw K9.out d10) k11)
            clear k11
            go_wp2_with fail
            go_ret
            exact ⟨rfl, K11.out⟩
    · have he : (E != 0) = true := by simp [e0]
      clear ha2 e0 nc2
      go_wp2_with fail
      refine (HK.out _).mono ?_
      rintro e w5 ⟨rfl, k5⟩
      have K5 := hide (below_step K2.out k5)
      clear k5
      go_wp2_with fail
      go_ret
      exact ⟨rfl, K5.out⟩
  · go_wp2_with fail
    go_ret
    exact ⟨rfl, Below.refl _ _⟩
end Go.Proofs.YtpjocddeiehckaaDoor
namespace Go.Proofs.YtpjocddeiehckaaDoor
theorem mem_of_at {W : ML} {l : Nat} (h : W.getD l [] ≠ []) : W.getD l [] ∈ W := by
  rcases Nat.lt_or_ge l W.length with hl | hl
  · exact mem_getD hl
  · exact absurd (by simp [hl]) h
/-- Full rows. -/
structure Full (W : ML) (k b n : Nat) : Prop where
  high : W.length = k + b
  wide : ∀ r ∈ W, r.length = n
  some : 1 ≤ n
  low : 1 ≤ k
  most : k + b ≤ 14
theorem Full.at_ {W : ML} {k b n l : Nat} (h : Full W k b n) (hl : l < k + b) : (W.getD l []).length = n ∧ W.getD l [] ≠ [] := by
  have hl2 : l < W.length := by rw [h.high]; exact hl
  have e : W.getD l [] = W[l] := by simp [hl2]
  have h1 := h.wide _ (List.getElem_mem hl2)
  rw [e]
  refine ⟨h1, fun q => ?_⟩
  rw [q] at h1
  have := h.some
  simp at h1
  omega
theorem Full.fits {W : ML} {k b n : Nat} (h : Full W k b n) : fitsOk W (k : Int) (b : Int) :=
  ⟨codeE_ok h.low h.most, by rw [h.high]; omega, n, fun r hr _ => h.wide r hr⟩
theorem Full.full {W : ML} {k b n : Nat} (h : Full W k b n) : ∀ r ∈ W, r ≠ [] := fun r hr e => by
  have := h.wide r hr
  rw [e] at this
  have := h.some
  simp at *
  omega
theorem full_word {k b n : Nat} (X : Mat) (h1 : 1 ≤ n) (h2 : 1 ≤ k) (h3 : k + b ≤ 14) : Full (wordL k b n X) k b n := ⟨wordL_len _ _ _ _, (wordL_shape k b n X).wide, h1, h2, h3⟩
theorem Full.ext {W V : ML} {k b n : Nat} (h : Full W k b n) (hV : V.length = k + b) (e : ∀ l, l < k + b → W.getD l [] = V.getD l []) : W = V := by
  apply List.ext_getElem (by rw [h.high, hV])
  intro l h1 h2
  have := e l (by rw [← h.high]; exact h1)
  simpa [h1, h2] using this
theorem Full.cut_fits {W : ML} {k b n q : Nat} (h : Full W k b n) : fitsOk (W.set q []) (k : Int) (b : Int) :=
  ⟨codeE_ok h.low h.most, by rw [List.length_set, h.high]; omega, n, set_rows (p := fun r => r ≠ [] → r.length = n) (fun r hr _ => h.wide r hr) (fun q => absurd rfl q)⟩
theorem Full.cut_most {W : ML} {k b n q : Nat} (h : Full W k b n) (hb : 1 ≤ b) : k ≤ (present (W.set q [])).length := by
  have := lost_least (W := W) (f := fun _ => q) (i := 1) h.full
  rw [h.high] at this
  have e : nilAt W (fun _ => q) 1 = W.set q [] := rfl
  rw [e] at this
  omega
/-- All rows stand as Mend has them: they are a word. -/
theorem alike_all {W : ML} {k b n : Nat} (h : Full W k b n) : alikeP W (k : Int) (b : Int) ↔ fitting W k b n := by
  constructor
  · rintro ⟨L, hm, ha⟩
    rcases hm with ⟨q, _⟩ | ⟨_, ⟨q, _⟩ | ⟨_, _, n', hn', X, rfl, _⟩⟩
    · cases q
    · cases q
    · rw [Int.toNat_natCast, Int.toNat_natCast] at ha
      have h0 := h.at_ (l := 0) (by have := h.low; omega)
      have e := hn' _ (mem_of_at h0.2) h0.2
      rw [h0.1] at e
      subst e
      exact ⟨X, h.ext (wordL_len _ _ _ _) (fun l hl => ha l (by rw [h.high]; exact hl) (h.at_ hl).2)⟩
  · rintro ⟨X, hX⟩
    have hp : k ≤ (present W).length := by
      have := lost_least (W := W) (f := fun _ => 0) (i := 0) h.full
      rw [h.high] at this
      have e : nilAt W (fun _ => 0) 0 = W := rfl
      rw [e] at this
      omega
    refine ⟨W, .inr ⟨h.fits, .inr ⟨rfl, by omega, n, fun r hr _ => h.wide r hr, ?_⟩⟩, fun _ _ _ => rfl⟩
    rw [Int.toNat_natCast, Int.toNat_natCast]
    exact ⟨X, hX, fun _ _ => rfl⟩
/-- All but one. -/
theorem alike_but {W : ML} {k b n q : Nat} (h : Full W k b n) (hb : 1 ≤ b) : alikeP (W.set q []) (k : Int) (b : Int) ↔ fittingBut W k b n q := by
  have hset : ∀ l, l < k + b → (W.set q []).getD l [] = if q = l then [] else W.getD l [] := fun l hl => getD_set (by rw [h.high]; exact hl)
  constructor
  · rintro ⟨L, hm, ha⟩
    rcases hm with ⟨q', _⟩ | ⟨_, ⟨q', _⟩ | ⟨_, _, n', hn', X, rfl, _⟩⟩
    · cases q'
    · cases q'
    · rw [Int.toNat_natCast, Int.toNat_natCast] at ha
      obtain ⟨l, hl, hlq⟩ : ∃ l, l < k + b ∧ q ≠ l := by
        have := h.low
        by_cases e : q = 0
        · exact ⟨1, by omega, by omega⟩
        · exact ⟨0, by omega, e⟩
      have h0 := h.at_ hl
      have e1 := hset l hl
      rw [if_neg hlq] at e1
      rw [← e1] at h0
      have e := hn' _ (mem_of_at h0.2) h0.2
      rw [h0.1] at e
      subst e
      refine ⟨X, fun l hl hne => ?_⟩
      have e2 := hset l hl
      rw [if_neg (fun q2 => hne q2.symm)] at e2
      have := ha l (by rw [List.length_set, h.high]; exact hl) (by rw [e2]; exact (h.at_ hl).2)
      rw [e2] at this
      exact this
  · rintro ⟨X, hX⟩
    have hp := h.cut_most (q := q) hb
    refine ⟨wordL k b n X, .inr ⟨h.cut_fits, .inr ⟨rfl, by omega, n, set_rows (p := fun r => r ≠ [] → r.length = n) (fun r hr _ => h.wide r hr) (fun q => absurd rfl q), ?_⟩⟩, fun l hl hne => ?_⟩
    · rw [Int.toNat_natCast, Int.toNat_natCast]
      refine ⟨X, rfl, fun l hl => ?_⟩
      have hm := firstP_mem hl
      rw [List.length_set, h.high] at hm
      have e2 := hset l hm.1
      by_cases e : q = l
      · rw [if_pos e] at e2
        exact absurd e2 hm.2
      · rw [if_neg e] at e2
        rw [e2]
        exact (hX l hm.1 (fun q2 => e q2.symm)).symm
    · rw [List.length_set, h.high] at hl
      have e2 := hset l hl
      by_cases e : q = l
      · rw [if_pos e] at e2
        exact absurd e2 hne
      · rw [if_neg e] at e2
        rw [e2]
        exact hX l hl (fun q2 => e q2.symm)
/-- What Right says of full rows. -/
theorem right_full {W : ML} {k b n : Nat} {t : Bool} {e : Int} (h : Full W k b n) (hr : rightAns W (k : Int) (b : Int) t e) : e = 0 ∧ (t = true ↔ fitting W k b n) := by
  rcases hr with ⟨_, _, q⟩ | ⟨_, ⟨_, _, r, hr, q⟩ | ⟨he, _, ht⟩⟩
  · exact absurd h.fits q
  · exact absurd q (h.full r hr)
  · exact ⟨he, by rw [ht, alike_all h]⟩
/-- A word. -/
theorem right_word {k b n : Nat} {X : Mat} {t : Bool} {e : Int} (h1 : 1 ≤ n) (h2 : 1 ≤ k) (h3 : k + b ≤ 14) (hr : rightAns (wordL k b n X) (k : Int) (b : Int) t e) : e = 0 ∧ t = true := by
  have := right_full (full_word X h1 h2 h3) hr
  exact ⟨this.1, this.2.2 ⟨X, rfl⟩⟩
/-- One row is changed. -/
theorem full_set {k b n j : Nat} {X : Mat} {r : List Nat} (h1 : 1 ≤ n) (h2 : 1 ≤ k) (h3 : k + b ≤ 14) (hr : r.length = n) : Full ((wordL k b n X).set j r) k b n :=
  ⟨by rw [List.length_set, wordL_len], fun q hq => by
    rcases List.mem_or_eq_of_mem_set hq with hq | rfl
    · exact (wordL_shape k b n X).wide q hq
    · exact hr, h1, h2, h3⟩
theorem right_bad {k b n j : Nat} {X : Mat} {r : List Nat} {t : Bool} {e : Int} (h1 : 1 ≤ n) (h2 : 1 ≤ k) (h3 : k + b ≤ 14) (hb : 2 ≤ b) (hj : j < k + b) (hrl : r.length = n) (hne : r ≠ (wordL k b n X).getD j []) (hr : rightAns ((wordL k b n X).set j r) (k : Int) (b : Int) t e) : e = 0 ∧ t = false := by
  have h := right_full (full_set h1 h2 h3 hrl) hr
  refine ⟨h.1, ?_⟩
  cases t
  · rfl
  · exact absurd (h.2.1 rfl) (one_not hb (by omega) hj hne)
theorem wrong_bad {k b n j : Nat} {X : Mat} {r : List Nat} {i e : Int} (h1 : 1 ≤ n) (h2 : 1 ≤ k) (h3 : k + b ≤ 14) (hb : 2 ≤ b) (hj : j < k + b) (hrl : r.length = n) (hne : r ≠ (wordL k b n X).getD j []) (hr : wrongAns ((wordL k b n X).set j r) (k : Int) (b : Int) i e) : i = (j : Int) ∧ e = 0 := by
  obtain ⟨t, F, hr1, hr2⟩ := hr
  obtain ⟨rfl, rfl⟩ := right_bad h1 h2 h3 hb hj hrl hne hr1
  have hf := full_set (X := X) (j := j) h1 h2 h3 hrl
  have hiff : ∀ q, q < k + b → (alikeP (((wordL k b n X).set j r).set q []) (k : Int) (b : Int) ↔ q = j) := fun q _ => by
    rw [alike_but hf (by omega)]
    exact one_wrong hb (by omega) hj hne q
  rcases hr2 with ⟨q, _⟩ | ⟨_, q, _⟩ | ⟨_, _, ⟨q, hq, rfl, rfl, ha, _⟩ | ⟨_, _, hp⟩⟩
  · exact absurd rfl q
  · cases q
  · rw [hf.high] at hq
    exact ⟨by rw [(hiff q hq).1 ha], rfl⟩
  · exact absurd ((hiff j hj).2 rfl) (hp j (by rw [hf.high]; exact hj))
end Go.Proofs.YtpjocddeiehckaaDoor
namespace Go.Proofs.YtpjocddeiehckaaDoor
open Go.RowKit
theorem xor_byte {a b : Nat} (ha : a < 256) (hb : b < 256) (hb0 : b ≠ 0) : a ^^^ b < 256 ∧ a ^^^ b ≠ a := by
  refine ⟨Nat.xor_lt_two_pow (n := 8) ha hb, fun e => ?_⟩
  have h : a ^^^ (a ^^^ b) = a ^^^ a := by rw [e]
  rw [← Nat.xor_assoc, Nat.xor_self, Nat.zero_xor] at h
  exact hb0 h
set_option maxHeartbeats 6400000 in
theorem shardWrong_by (hS : SumsC) (hR : RightC) (hW : WrongC) (A : Option Addr) (n c : Nat) (m z : Int) (y : Nat) (D : ML) (w : World) (hA : IsM w A D) (hn : D.length = n) (h47 : n ≤ 140737488351232) (bD : ∀ r ∈ D, ∀ x ∈ r, x < 256) (rD : ∀ r ∈ D, r.length ≤ 140737488351232) (m1 : I64 m) (z1 : I64 z) (y1 : y < 256) (hT : TabW w) :
    Calls Tryd.prog 6 #[.slice A n c, .int .i64 m, .int .i64 z, .int .u8 (y : Int)] w fun e w' => e = .returned (.bool true) ∧ Below w.heap.size w w' := by
  have G1 := hide (great_sized A n c D w hA hn (by omega) rD)
  have HK := hide (fun w' => known8_any hS w')
  have M1 := hide (fun (h : SmallM w A n D) => hS A n c m D w h m1)
  have MR := hide (fun (A : Option Addr) (n c : Nat) (k m : Int) (W : ML) (w : World) (h : SmallM w A n W) (h1 : I64 k) (h2 : I64 m) (t : TabW w) => hR A n c k m W w h h1 h2 t)
  have MW := hide (fun (A : Option Addr) (n c : Nat) (k m : Int) (W : ML) (w : World) (h : SmallM w A n W) (h1 : I64 k) (h2 : I64 m) (t : TabW w) => hW A n c k m W w h h1 h2 t)
  have SM := hide (show n ≤ 1500 ∧ (∀ r ∈ D, r.length ≤ 1500) → SmallM w A n D from fun q => ⟨hA, hn, q.1, bD, q.2⟩)
  have hz1 := z1.1
  have hz2 := z1.2
  have HTT := hide hT
  clear hT hS hR hW hA hn bD rD m1 z1
  go_enter Tryd.func6, Tryd.ntmps6
  go_wp2_with fail
  refine G1.out.mono ?_
  rintro e w1 ⟨t, rfl, ht, rfl⟩
  cases t
  · have hSm := hide (SM.out (ht rfl))
    have M1 := hide (M1.out hSm.out)
    clear ht SM G1
    by_cases hm2 : m < 2
    · have hm2' : decide (m < 2) = true := by simp [hm2]
      go_wp2_with fail
      go_ret
      exact ⟨rfl, Below.refl _ _⟩
    have hm2' : decide (m < 2) = false := by simp; omega
    by_cases hy0 : y = 0
    · have hy0' : ((y : Int) == 0) = true := by simp [hy0]
      go_wp2_with fail
      go_ret
      exact ⟨rfl, Below.refl _ _⟩
    have hy0' : ((y : Int) == 0) = false := by simp; omega
    have HY := hide hy0
    clear hy0
    go_wp2_with fail
    refine M1.out.mono ?_
    rintro e w2 ⟨v, L, E, rfl, ⟨A2, n2, c2, rfl, hn2, i2, nc2, hn63⟩, ha2, k2⟩
    have K2 := hide k2
    by_cases e0 : E = 0
    · subst e0
      obtain ⟨b, len0, rfl, h1, h14, hl1, hl0, hLb, hall⟩ := sums_all ha2 hSm.out.2.2.2.1
      obtain rfl : b = n2 := by rw [← hLb, hn2]
      have hDn := hSm.out.2.1
      rw [hDn] at h1 h14 hall
      have I2 := hide i2
      have HD := hide (hSm.out.1.below k2)
      have hl15 : len0 ≤ 1500 := by
        rw [hl0]
        exact hSm.out.2.2.2.2 _ (mem_getD (by rw [hDn]; omega))
      obtain ⟨bq, oq, Aq, cD, rfl, -⟩ := HD.out.at_ 0 (by rw [hDn]; omega)
      have HAL := hide hall
      have HDN := hide hDn
      have HLB := hide hn2
      have NC := hide nc2
      clear i2 k2 ha2 hall hDn hn2 hLb nc2 M1 hl0
      go_wp2_with (at_builtin; refine halt ?_)
      refine ⟨?_⟩
      have ka := below_alloc w2 (.cells #[] 34)
      have HE := Held.emptyAt (w := w2) (B := w2.heap.size) (b := w2.heap.size) (Nat.le_refl _) rfl
      refine wpList_append_helds rfl (.tmp 39) (.tmp 40) rfl w2.heap.size _ _ rfl HE _ n c D rfl ((HD.out.off (B := w2.heap.size) (Nat.le_refl _)).keep ka) HDN.out (fun q => by cases q) (by simp; omega) ka.size ?_
      intro v5 w5 h5 k5
      have K5 := ka.trans k5
      have H5 := hide h5
      have HB5 := hide K5.size
      have HS5 := hide ((I2.out.off (B := w2.heap.size) (Nat.le_refl _)).keep K5)
      have K5 := hide K5
      clear h5 k5 ka HE
      go_wp2_with (at_builtin; refine halt ?_)
      refine ⟨?_⟩
      refine wpList_append_helds rfl (.tmp 41) (.tmp 42) rfl w2.heap.size v5 _ rfl H5.out A2 b c2 L rfl HS5.out HLB.out NC.out (by rw [List.nil_append, HDN.out]; omega) HB5.out ?_
      intro v6 w6 h6 k6
      rw [List.nil_append, HAL.out] at h6
      obtain ⟨N, hN⟩ : ∃ N, N = n + b := ⟨_, rfl⟩
      have hN1 : 1 ≤ N := by omega
      have hN14 : N ≤ 14 := by omega
      obtain ⟨g6, c6, rfl⟩ := h6.block (n := N) (by rw [wordL_len, hN]) hN1
      obtain ⟨A7, c7, e7, r7, -⟩ := h6.form (n := N) (by rw [wordL_len, hN])
      cases e7
      have hW0 : (wordL n b len0 (en D)).length = N := by rw [wordL_len, hN]
      have hws := wordL_shape n b len0 (en D)
      have HSM := hide (show SmallM w6 (some ⟨g6, 0, none⟩) N (wordL n b len0 (en D)) from ⟨r7.isM, hW0, by omega, hws.byte, fun r hr => by rw [hws.wide r hr]; exact hl15⟩)
      have M3 := hide (MR.out _ N c6 (n : Int) (b : Int) _ w6 HSM.out ⟨by omega, by omega⟩ ⟨by omega, by omega⟩ (HTT.out.below (below_step K2.out (K5.out.trans k6))))
      have H6 := hide h6
      have K6 := hide (K5.out.trans k6)
      have HNE := hide hN
      have HWS := hide hws
      have HLW := hide hW0
      clear hN hW0 hws h6 k6 r7 H5 HS5 HB5 K5 I2 HSM
      go_wp2_with fail
      refine M3.out.mono ?_
      rintro e w8 ⟨t, F, rfl, hr8, k8⟩
      obtain ⟨rfl, rfl⟩ := right_word hl1 h1 h14 hr8
      have H8 := hide (H6.out.keep k8)
      have K8 := hide (K6.out.trans (k8.mono K6.out.size))
      clear k8 hr8 M3 H6 K6
      obtain ⟨kk, hkk, hrem⟩ := rem_place z N hN1
      have hN0 : ¬ (N : Int) = 0 := by omega
      obtain ⟨X, hX⟩ : ∃ X, X = (wordL n b len0 (en D)).getD kk [] := ⟨_, rfl⟩
      have hXs := HWS.out.row (show kk < n + b by have := HNE.out; omega)
      rw [← hX] at hXs
      obtain ⟨Ar, cr, cy, ry, fy, -, -⟩ := H8.out.row kk hkk
      rw [← hX] at cy ry
      rw [hXs.1] at cy ry
      have ka := below_alloc w8 (.cells #[] 5)
      have cy := (ka.cell (cell_lt cy)).trans cy
      have HKA := hide ka
      have OE := hide (own_lit w8 #[] [] rfl (by decide))
      have HX := hide hX
      have HXS := hide hXs
      have RY := hide ry.1
      clear hX hXs ry ka
      have hadd : (kk : Int) - (N : Int) + (N : Int) = (kk : Int) := by omega
      rcases hrem with ⟨hneg, hrm⟩ | ⟨hneg, hrm⟩
      all_goals
        rw [hrm] at hneg
        go_wp2_with (at_builtin; refine halt ?_)
        refine ⟨?_⟩
        refine wpList_append_bytes rfl (.tmp 62) (.tmp 66) rfl w8.heap.size _ [] rfl OE.out _ X rfl (RY.out.keep HKA.out) (by rw [HXS.out.1]; simp; omega) HKA.out.size ?_
        intro v9 w9 o9 k9
        rw [List.nil_append] at o9
        obtain ⟨g9, c9, rfl, gb, l9, m9, cc9, ff9⟩ := o9.at_ HXS.out.1 hl1
        have c90 := cc9 0 (by omega)
        have f90 := ff9 0
        have hx8 := getD_lt HXS.out.2 0
        obtain ⟨x0, hx0⟩ : ∃ x0, x0 = X.getD 0 0 := ⟨_, rfl⟩
        rw [← hx0] at c90 hx8
        have hxor := xor8 x0 y hx8 y1
        have hxb := xor_byte hx8 y1 HY.out
        obtain ⟨zz, hzz⟩ : ∃ zz, zz = x0 ^^^ y := ⟨_, rfl⟩
        rw [← hzz] at hxor hxb
        have O9 := hide (o9.stored HXS.out.1 0 zz)
        have K9 := hide ((HKA.out.trans k9).setCell (p := ⟨g9, 0, none⟩) gb (.int .u8 (zz : Int)))
        have HXX := hide hx0
        have HXB := hide hxb
        have H9 := H8.out.keep (HKA.out.trans k9)
        obtain ⟨Ay, cY, cy9, -, fy9, -, -⟩ := H9.row kk hkk
        have hg69 : ¬ g6 = g9 := by
          have := H8.out.base
          omega
        have hg96 : ¬ g9 = g6 := fun q => hg69 q.symm
        obtain ⟨r, hr⟩ : ∃ r, r = X.set 0 zz := ⟨_, rfl⟩
        have hrl : r.length = len0 := by rw [hr, List.length_set]; exact HXS.out.1
        have hrb : ∀ x ∈ r, x < 256 := fun x hx => by
          rw [hr] at hx
          rcases List.mem_or_eq_of_mem_set hx with hx | rfl
          · exact HXS.out.2 x hx
          · exact HXB.out.1
        have hrne : r ≠ (wordL n b len0 (en D)).getD kk [] := fun e => by
          rw [← HX.out, hr] at e
          have e2 := congrArg (fun l => l.getD 0 0) e
          have hX0 : 0 < X.length := by rw [HXS.out.1]; omega
          simp only [List.getD_eq_getElem?_getD, List.getElem?_set, hX0, if_true] at e2
          have e3 : X.getD 0 0 = zz := by
            rw [List.getD_eq_getElem?_getD, ← e2]
            rfl
          rw [← HXX.out] at e3
          exact HXB.out.2 e3.symm
        have HP := (H8.out.keep K9.out).put (O9.out.off (B := w2.heap.size)) kk
        have KP := (H8.out.keep K9.out).below (k := kk) (u := .slice (some ⟨g9, 0, none⟩) len0 c9) (K8.out.trans (K9.out.mono K8.out.size))
        rw [← hr] at HP
        have hkn : kk < n + b := by have := HNE.out; omega
        obtain ⟨A10, c10, e10, r10, -⟩ := HP.form (n := N) (by rw [List.length_set, HLW.out])
        cases e10
        obtain ⟨w11, hw11⟩ : ∃ w11, w11 = (w9.setCell ⟨g9, 0, none⟩ (.int .u8 (zz : Int))).setCell ⟨g6, kk, none⟩ (.slice (some ⟨g9, 0, none⟩) len0 c9) := ⟨_, rfl⟩
        have HSM := hide (show SmallM w11 (some ⟨g6, 0, none⟩) N ((wordL n b len0 (en D)).set kk r) from ⟨by rw [hw11]; exact r10.isM, by rw [List.length_set, HLW.out], by omega, fun q hq => by
          rcases List.mem_or_eq_of_mem_set hq with hq | rfl
          · exact HWS.out.byte q hq
          · exact hrb, fun q hq => by
          rcases List.mem_or_eq_of_mem_set hq with hq | rfl
          · rw [HWS.out.wide q hq]; exact hl15
          · rw [hrl]; exact hl15⟩)
        have KP := hide (show Below w1.heap.size w1 w11 by rw [hw11]; exact below_step K2.out KP)
        have M4 := hide (MR.out _ N c6 (n : Int) (b : Int) _ w11 HSM.out ⟨by omega, by omega⟩ ⟨by omega, by omega⟩ (HTT.out.below KP.out))
        have HRN := hide hrne
        have HW11 := hide hw11
        clear hr hrb hrne HP r10 hw11 H9 K9 O9 o9 k9 m9 cc9 ff9 hx0 hzz
        go_wp2_with fail
        rw [← HW11.out]
        refine M4.out.mono ?_
        rintro e w12 ⟨t, F, rfl, hr12, k12⟩
        obtain ⟨rfl, rfl⟩ := right_bad hl1 h1 h14 (by omega) hkn hrl HRN.out hr12
        have M5 := hide (MW.out _ N c6 (n : Int) (b : Int) _ w12 (HSM.out.below k12) ⟨by omega, by omega⟩ ⟨by omega, by omega⟩ (HTT.out.below (below_step KP.out k12)))
        have K12 := hide (below_step KP.out k12)
        clear k12 hr12 M4
        go_wp2_with fail
        refine M5.out.mono ?_
        rintro e w13 ⟨i, F, rfl, hr13, k13⟩
        obtain ⟨rfl, rfl⟩ := wrong_bad hl1 h1 h14 (by omega) hkn hrl HRN.out hr13
        have K13 := hide (below_step K12.out k13)
        have hkk2 : ((kk : Int) == (kk : Int)) = true := by simp
        clear k13 hr13 M5
        go_wp2_with fail
        refine (HK.out _).mono ?_
        rintro e w14 ⟨rfl, k14⟩
        have K14 := hide (below_step K13.out k14)
        clear k14
        go_wp2_with fail
        go_ret
        exact ⟨rfl, K14.out⟩
    · have he : (E != 0) = true := by simp [e0]
      clear ha2 e0 nc2
      go_wp2_with fail
      refine (HK.out _).mono ?_
      rintro e w5 ⟨rfl, k5⟩
      have K5 := hide (below_step K2.out k5)
      clear k5
      go_wp2_with fail
      go_ret
      exact ⟨rfl, K5.out⟩
  · go_wp2_with fail
    go_ret
    exact ⟨rfl, Below.refl _ _⟩
end Go.Proofs.YtpjocddeiehckaaDoor
