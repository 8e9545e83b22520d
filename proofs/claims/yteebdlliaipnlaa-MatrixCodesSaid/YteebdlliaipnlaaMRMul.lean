/- The contract of the document's Mul: the product. Conditions: matrices of 1 to 64 rows of 1 to 64 numbers. -/
import Derived.Test.YteebdlliaipnlaaMMul
namespace Go.Proofs.Yteebdlliaipnlaa
open Go.RowKit
theorem take_snocN (xs : List Nat) (k : Nat) (h : k < xs.length) : xs.take (k + 1) = xs.take k ++ [xs.getD k 0] := by
  rw [List.take_succ_eq_append_getElem h]
  simp [h]
theorem isB_one (w : World) (z : Nat) {b : Nat} (h : b = w.heap.size) : IsB (w.alloc (.cells #[.int .u8 (z : Int)] 5)) (.slice (some ⟨b, 0, none⟩) 1 1) [z] := by
  subst h
  exact isB_new w _ [z] rfl (by simp) _ 1 rfl rfl
set_option maxHeartbeats 800000 in
theorem column_any (A : Option Addr) (n m c j : Nat) (xss : ML) (w : World) (hA : IsM w A xss) (hs : Shape xss n m) (hj : j < m) (h2 : n ≤ 64) :
    Calls Try.prog 25 #[.slice A n c, .int .i64 (j : Int)] w fun e w' => ∃ s, e = .returned s ∧ Own w' w.heap.size s ((laid m n (turn (en xss))).getD j []) ∧ Below w.heap.size w w' := by
  have HA := hide hA
  have HS := hide hs
  obtain ⟨T, hT⟩ : ∃ T, T = (laid m n (turn (en xss))).getD j [] := ⟨_, rfl⟩
  have HT : Hid (T.length = n ∧ (∀ x ∈ T, x < 256) ∧ ∀ k, k < n → T.getD k 0 = (en xss k j).n) := by
    rw [hT]
    have h := (laid_shape m n (turn (en xss))).row hj
    refine ⟨h.1, h.2, fun k hk => ?_⟩
    rw [(laid_shape m n (turn (en xss))).num j k hj, laid_at _ hj hk]
    rfl
  rw [← hT]
  obtain ⟨B, hB⟩ : ∃ B, B = w.heap.size := ⟨_, rfl⟩
  rw [← hB]
  have HB := hide hB
  clear hA hs hT hB
  go_enter Try.func25, Try.ntmps25
  go_wp2_with fail
  go_loopw [5, 6] (fun s i wr => ∃ k : Nat, k ≤ n ∧ i = .int .i64 (k : Int) ∧ Hid (Own wr B s (T.take k)) ∧ Hid (Below B w wr)) (fun _ i _ => n - (intOf i).toNat)
  case atStart => exact ⟨0, Nat.zero_le _, rfl, hide (World.ownsRow_nil _ _ _ _), hide (by rw [HB.out]; exact Below.refl _ _)⟩
  case round =>
    obtain ⟨k, hk, rfl, hown, hbel⟩ := hrel
    by_cases hlt : k < n
    · obtain ⟨b2, off2, A2, c2, rfl, cr0, ir, l2, m2⟩ := HA.out.at_ k (by rw [HS.out.high]; exact hlt)
      have hrow := HS.out.row hlt
      rw [hrow.1] at cr0 l2 ir
      have kb : Below w.heap.size w wr := by rw [← HB.out]; exact hbel.out
      have cr := (kb.cell (cell_lt cr0)).trans cr0
      obtain ⟨b3, off3, rfl, cx, hx⟩ := at_place (ir.keep kb).rd hrow.1 hrow.2 j hj
      rw [HS.out.num k j hlt] at cx hx
      have hst := take_snocN T k (by rw [HT.out.1]; exact hlt)
      rw [HT.out.2.2 k hlt] at hst
      obtain ⟨z, hz⟩ : ∃ z, z = (en xss k j).n := ⟨_, rfl⟩
      rw [← hz] at cx hx hst
      have HST := hide hst
      have hgs : Hid (B ≤ wr.heap.size) := by rw [HB.out]; exact kb.size
      clear hst hz hx hrow cr0 ir kb
      go_wp2_with (at_builtin; refine halt ?_)
      refine ⟨?_⟩
      have ka := below_alloc wr (.cells #[.int .u8 (z : Int)] 5)
      refine wpList_append_bytes rfl (.tmp 13) (.tmp 21) rfl B _ _ rfl (hown.out.keep ka) _ [z] rfl (isB_one wr z rfl) (by rw [List.length_take]; simp; omega) (Nat.le_trans hgs.out ka.size) ?_
      intro v' w4 o4 k4
      rw [← HST.out] at o4
      have O4 := hide o4
      have K4 := hide ((hbel.out.trans (ka.mono hgs.out)).trans k4)
      clear o4 k4 ka hgs HST hown hbel
      go_wp2_with fail
      go_roundw
      case rel => exact ⟨k + 1, by omega, by go_num, O4, K4⟩
      case measure => simp [intOf]; omega
    · obtain rfl : k = n := by omega
      go_wp2_with fail
      go_ret
      refine ⟨_, rfl, ?_, hbel.out⟩
      have := hown.out
      rwa [List.take_of_length_le (by rw [HT.out.1]; exact Nat.le_refl _)] at this
set_option maxHeartbeats 6400000 in
set_option maxRecDepth 100000 in
theorem rmul_mat (A B : Option Addr) (n p m c c2 : Nat) (xss yss : ML) (w : World) (hA : IsM w A xss) (hB : IsM w B yss) (sA : Shape xss n p) (sB : Shape yss p m)
    (h1 : 1 ≤ n) (h2 : n ≤ 64) (h3 : 1 ≤ p) (h4 : p ≤ 64) (h5 : 1 ≤ m) (h6 : m ≤ 64) :
    Calls Try.prog 10 #[.slice A n c, .slice B p c2] w fun e w' => ∃ v, e = .returned (.tuple #[v, .int .i64 0]) ∧ OwnMt w' w.heap.size v (mulL xss yss n p m) ∧ Below w.heap.size w w' := by
  have H1 := ris_any A n c xss w hA sA.high (by omega)
  rw [sA.isMt h1 h2 h3 h4] at H1
  have H1 := hide H1
  have H2 := hide (fun d => by
    have := ris_any B p c2 yss (w.drewN d) (hB.drewN d) sB.high (by omega)
    rw [sB.isMt h3 h4 h5 h6] at this
    exact this)
  have HA := hide hA
  have HBm := hide hB
  have SA := hide sA
  have SB := hide sB
  have HL : Hid (Shape (mulL xss yss n p m) n m) := laid_shape _ _ _
  have HLn : Hid (∀ i j, i < n → j < m → ((mulL xss yss n p m).getD i []).getD j 0 = (mm p (en xss) (en yss) i j).n) := by
    intro i j hi hj
    have := HL.out.num i j hi
    rw [this]
    unfold mulL
    rw [laid_at _ hi hj]
  obtain ⟨L, hL⟩ : ∃ L, L = mulL xss yss n p m := ⟨_, rfl⟩
  rw [← hL] at HL HLn ⊢
  clear hL
  obtain ⟨b, off, A', c', rfl, ck, -, l1, m1⟩ := hA.at_ 0 (by rw [sA.high]; omega)
  rw [sA.len_at 0 (by omega)] at ck l1
  have ck0 : w.cell? ⟨b, off, none⟩ = some (.slice A' p c') := ck
  obtain ⟨bB, offB, AB, cB, rfl, cbk, -, l1B, m1B⟩ := hB.at_ 0 (by rw [sB.high]; omega)
  rw [sB.len_at 0 (by omega)] at cbk l1B
  have CB : Hid (w.cell? ⟨bB, offB, none⟩ = some (.slice AB m cB)) := hide cbk
  have g1 : 0 < (n : Int) := by omega
  have g2 : 0 < (p : Int) := by omega
  have hne0 : ((p : Int) != (p : Int)) = false := by simp
  obtain ⟨B0, hB0⟩ : ∃ B0, B0 = w.heap.size := ⟨_, rfl⟩
  rw [← hB0]
  have HB0 := hide hB0
  clear hA hB sA sB ck cbk hB0
  go_enter Try.func10, Try.ntmps10
  go_wp2_with fail
  refine H1.out.mono ?_
  rintro e w1 ⟨rfl, d, rfl⟩
  go_wp2_with fail
  refine (H2.out d).mono ?_
  rintro e w2 ⟨rfl, d2, rfl⟩
  go_wp2_with fail
  go_loopw [6, 7] (fun s i wr => ∃ k : Nat, k ≤ n ∧ i = .int .i64 (k : Int) ∧ Hid (OwnMt wr B0 s (L.take k)) ∧ Hid (Below B0 w wr)) (fun _ i _ => n - (intOf i).toNat)
  case atStart => exact ⟨0, Nat.zero_le _, rfl, hide (OwnMt.nil _ _), hide (by rw [HB0.out]; exact below_draw (Below.refl _ _) _)⟩
  case round =>
    obtain ⟨k, hk, rfl, hown, hbel⟩ := hrel
    by_cases hlt : k < n
    · have HSZ : Hid (B0 ≤ wr.heap.size) := by rw [HB0.out]; exact hbel.out.size
      have HBE := hide (show Below w.heap.size w wr by rw [← HB0.out]; exact hbel.out)
      have HOW := hide hown.out
      have HBL := hide hbel.out
      clear hown hbel
      rename World => W1
      have hrow := HL.out.row hlt
      have HRL := hide hrow.1
      clear hrow
      go_wp2_with fail
      go_loopw [8, 9] (fun s i w2 => ∃ j : Nat, j ≤ m ∧ i = .int .i64 (j : Int) ∧ Hid (Own w2 W1.heap.size s ((L.getD k []).take j)) ∧ Hid (Below W1.heap.size W1 w2)) (fun _ i _ => m - (intOf i).toNat)
      case atStart => exact ⟨0, Nat.zero_le _, rfl, hide (World.ownsRow_nil _ _ _ _), hide (Below.refl _ _)⟩
      case round =>
        obtain ⟨j, hj, rfl, hown2, hbel2⟩ := hrel
        have kw := below_step HBE.out hbel2.out
        have cb := (kw.cell (p := ⟨bB, offB, none⟩) (cell_lt CB.out)).trans CB.out
        by_cases hlt2 : j < m
        · obtain ⟨b3, off3, A3, c3, e3, ca0, ia, l3, m3⟩ := HA.out.at_ k (by rw [SA.out.high]; exact hlt)
          cases e3
          have hrowA := SA.out.row hlt
          rw [hrowA.1] at ca0 l3 ia
          have ca := (kw.cell (cell_lt ca0)).trans ca0
          have HCA := hide ca
          have hrowT := (laid_shape m p (turn (en yss))).row hlt2
          have HC := hide (fun W (k : Below w.heap.size w W) => column_any (some ⟨bB, offB, none⟩) p m c2 j yss W (HBm.out.below k) SB.out hlt2 h4)
          have HD := hide (fun W A5 c5 (kz : Below w.heap.size w W) (r : Rd W A5 ((laid m p (turn (en yss))).getD j [])) => by
            have := rdot_any A3 A5 p c3 c5 (xss.getD k []) ((laid m p (turn (en yss))).getD j []) W (ia.keep kz).rd r hrowA.1 hrowT.1 hrowA.2 hrowT.2 (by omega)
            rw [dot_mm yss SA.out k j hlt hlt2] at this
            exact this)
          have hst := take_snocN (L.getD k []) j (by rw [HRL.out]; exact hlt2)
          rw [HLn.out k j hlt hlt2] at hst
          have HLT := hide hrowT.1
          obtain ⟨T, hT⟩ : ∃ T, T = (laid m p (turn (en yss))).getD j [] := ⟨_, rfl⟩
          rw [← hT] at HC HD HLT
          obtain ⟨z, hz⟩ : ∃ z, z = (mm p (en xss) (en yss) k j).n := ⟨_, rfl⟩
          rw [← hz] at HD hst
          have HST := hide hst
          have HKW := hide kw
          have HKD := hide (below_draw kw 1)
          have ca' : wr.drew.cell? ⟨b, off + k, none⟩ = some (.slice A3 p c3) := ca
          clear ca hst hz hT hrowA hrowT kw ca0 ia
          go_wp2_with fail
          go_region_held3 (fun W' => W'.cell? ⟨b, off + k, none⟩ = some (.slice A3 p c3)) (go_keep)
            (first
              | (go_at_call 25; refine (HC.out wr.drew HKD.out).mono ?_; rintro e w5 ⟨s5, rfl, o5, k5⟩; obtain ⟨A5, c5, rfl, i5, l5, m5⟩ := o5.isB.form (n := p) HLT.out; have ca5 := (k5.cell (cell_lt ca')).trans ca'; have K5 := hide (below_step HKD.out k5); have I5 := hide i5; have K6 := hide k5; clear o5 k5 i5)
              | (go_at_call 24; refine (HD.out w5 A5 c5 K5.out I5.out.rd).mono ?_; rintro e w6 ⟨rfl, q6, rfl⟩))
          have kq : Below wr.heap.size wr (w5.drewN q6) := below_drewN (by exact ⟨K6.out.os, K6.out.tape, K6.out.output, K6.out.size, K6.out.block⟩) q6
          have KQ := hide (hbel2.out.trans (kq.mono hbel2.out.size))
          have OQ := hide (hown2.out.keep kq)
          have HGW := hide (show W1.heap.size ≤ (w5.drewN q6).heap.size from KQ.out.size)
          obtain ⟨Wq, hWq⟩ : ∃ Wq, Wq = w5.drewN q6 := ⟨_, rfl⟩
          rw [← hWq] at KQ OQ HGW ⊢
          clear kq hWq K5 I5 K6 hown2 hbel2 cb ca5 ca'
          go_wp2_with (at_builtin; refine halt ?_)
          refine ⟨?_⟩
          have ka := below_alloc Wq (.cells #[.int .u8 (z : Int)] 5)
          refine wpList_append_bytes rfl (.tmp 54) (.tmp 56) rfl W1.heap.size _ _ rfl (OQ.out.keep ka) _ [z] rfl (isB_one Wq z rfl) (by rw [List.length_take]; simp; omega) (Nat.le_trans HGW.out ka.size) ?_
          intro v' w7 o7 k7
          rw [← HST.out] at o7
          have O7 := hide o7
          have K7 := hide ((KQ.out.trans (ka.mono HGW.out)).trans k7)
          clear o7 k7 ka HGW OQ KQ
          go_wp2_with fail
          go_roundw
          case rel => exact ⟨j + 1, by omega, by go_num, O7, K7⟩
          case measure => simp [intOf]; omega
        · obtain rfl : j = m := by omega
          rw [List.take_of_length_le (by rw [HRL.out]; exact Nat.le_refl _)] at hown2
          have KW := hide (HBL.out.trans (hbel2.out.mono HSZ.out))
          have OM := hide (HOW.out.keep hbel2.out)
          have hf := hown2.out.form
          rw [HRL.out] at hf
          obtain ⟨Ar, cr, rfl, _⟩ := hf
          have OR := hide (hown2.out.more HSZ.out)
          clear hown2 hbel2 HOW HBL HBE kw
          go_wp2_with (at_builtin; refine halt ?_)
          refine ⟨?_⟩
          have HGS : Hid (B0 ≤ wr.heap.size) := by rw [HB0.out]; exact KW.out.size
          have ka := below_alloc wr (.cells #[.slice Ar j cr] 39)
          refine wpList_append_mrow rfl (.tmp 58) (.tmp 60) rfl B0 _ _ rfl (OM.out.keep ka) _ _ _ rfl (cell_newAt _ _ _ rfl) (OR.out.keep ka) (by rw [List.length_take]; omega) (Nat.le_trans HGS.out ka.size) ?_
          intro v' w7 o7 k7
          rw [← take_snoc _ _ (by rw [HL.out.high]; exact hlt)] at o7
          have O7 := hide o7
          have K7 := hide ((KW.out.trans (ka.mono HGS.out)).trans k7)
          clear o7 k7 ka HGS OM OR KW
          go_wp2_with fail
          go_roundw
          case rel => exact ⟨k + 1, by omega, by go_num, O7, K7⟩
          case measure => simp [intOf]; omega
    · obtain rfl : k = n := by omega
      go_wp2_with fail
      go_ret2
      refine ⟨_, rfl, ?_, hbel.out⟩
      have := hown.out
      rwa [List.take_of_length_le (by rw [HL.out.high]; exact Nat.le_refl _)] at this
end Go.Proofs.Yteebdlliaipnlaa
