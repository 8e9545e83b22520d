/- The contract of slices.DeleteFunc at messages, and of the net's Drop. No condition but the widths. -/
import Derived.Test.YtdhamhaadclhkaaNDrop
namespace Go.Proofs.Ytdhamhaadclhkaa
open Go.RowKit
theorem OwnM.cells_at {w : World} {b N c : Nat} {X : List Itm} (h : OwnM w 0 (.slice (some ⟨b, 0, none⟩) N c) X) (i : Nat) (hi : i < X.length) : b < w.heap.size ∧ w.cell? ⟨b, i * 5, none⟩ = some (.int .i64 X[i].f) ∧ w.cell? ⟨b, i * 5 + 1, none⟩ = some (.int .i64 X[i].t) ∧ w.cell? ⟨b, i * 5 + 2, none⟩ = some (.int .i64 X[i].k) ∧ w.cell? ⟨b, i * 5 + 3, none⟩ = some X[i].u ∧ w.cell? ⟨b, i * 5 + 4, none⟩ = some X[i].v ∧ ∀ j, w.frozen? ⟨b, j, none⟩ = false := by
  obtain ⟨A, c', e, -, -, -, hc⟩ := h.form
  obtain ⟨g, rfl, ho, hl, h0, h1, h2, h3, h4, hf⟩ := hc i hi
  have hb : b = g := Option.some.inj ho
  subst hb
  exact ⟨hl, h0, h1, h2, h3, h4, hf⟩
def stays (node : Int) (q : Itm) : Bool := !hit node q
theorem deleteFunc_none (node : Int) (p : Nat) (A0 : Option Addr) (c0 : Nat) (X : List Itm) (F : Nat → Prop) (w : World) (hown : OwnM w 0 (.slice A0 X.length c0) X) (hG : ∀ q ∈ X, Good w F q) (hm : X.length ≤ 4096) (hp : w.cell? ⟨p, 0, none⟩ = some (.int .i64 node)) (hno : ∀ q ∈ X, hit node q = false) :
    Calls Try.prog 68 #[.slice A0 X.length c0, dropF p] w fun e w' => e = .returned (.slice A0 X.length c0) ∧ Below w.heap.size w w' := by
  have hi := indexFunc_any node p _ X F w hown hG hm hp
  have HI := hide hi
  have HNO := hide hno
  obtain ⟨N, hN⟩ : ∃ N, N = X.length := ⟨_, rfl⟩
  rw [← hN] at HI ⊢
  clear hown hG hp hi hN hno
  go_enter Try.func68, Try.ntmps68
  go_wp2_with fail
  refine HI.out.mono ?_
  rintro e w2 ⟨r, rfl, hr, k2⟩
  have hr1 : r = -1 := by
    rcases hr with ⟨h, _⟩ | ⟨j, _, hj, h, _⟩
    · exact h
    · exact absurd ((HNO.out _ (List.getElem_mem hj)).symm.trans h) (by decide)
  subst hr1
  have K2 := hide k2
  clear k2 hr
  go_wp2_with fail
  go_ret
  exact ⟨rfl, K2.out⟩
set_option maxRecDepth 100000 in
set_option maxHeartbeats 6400000 in
theorem deleteFunc_some (node : Int) (p b c N j0 : Nat) (X : List Itm) (F : Nat → Prop) (w : World) (hX : N = X.length) (hown : OwnM w 0 (.slice (some ⟨b, 0, none⟩) N c) X) (hG : ∀ q ∈ X, Good w F q) (hm : N ≤ 4096) (hc : N ≤ c) (hc2 : c ≤ 9223372036854775807) (hp : w.cell? ⟨p, 0, none⟩ = some (.int .i64 node)) (hpb : p ≠ b)
    (hj0 : j0 < X.length) (hh : hit node X[j0] = true) (hno : ∀ (i : Nat) (h : i < X.length), i < j0 → hit node X[i] = false) :
    Calls Try.prog 68 #[.slice (some ⟨b, 0, none⟩) N c, dropF p] w fun e w' => ∃ M, M = (X.filter (stays node)).length ∧ e = .returned (.slice (some ⟨b, 0, none⟩) M c) ∧ OwnM w' 0 (.slice (some ⟨b, 0, none⟩) M c) (X.filter (stays node)) ∧ w.grownBy w' (some b) := by
  have hi := indexFunc_any node p _ X F w hown hG (by omega) hp
  have HI := hide hi
  have HNO := hide hno
  have HX := hide hX
  have HG := hide hG
  have HO := hide hown
  have HP := hide hp
  have HH := hide hh
  have HPB := hide hpb
  have hj0N : j0 < N := by omega
  have hj0i : ((j0 : Int) == -1) = false := by simp
  have hst : X.take j0 = (X.take (j0 + 1)).filter (stays node) := by
    rw [List.take_succ_eq_append_getElem hj0, List.filter_append]
    have e1 : [X[j0]].filter (stays node) = [] := by simp [stays, hh]
    rw [e1, List.append_nil]
    refine (List.filter_eq_self.2 (fun q hq => ?_)).symm
    obtain ⟨i, hi, rfl⟩ := List.mem_iff_getElem.1 hq
    rw [List.getElem_take]
    have hi2 : i < j0 := by rw [List.length_take] at hi; omega
    simp [stays, hno i (by omega) hi2]
  have HST := hide hst
  have HJ0 := hide hj0
  have hpw := cell_lt hp
  clear hi hno hX hG hown hp hst hpb
  go_enter Try.func68, Try.ntmps68
  go_wp2_with fail
  refine HI.out.mono ?_
  rintro e w2 ⟨r, rfl, hr, k2⟩
  have hr1 : r = (j0 : Int) := by
    rcases hr with ⟨_, h⟩ | ⟨j, h, hj, h1, h2⟩
    · rw [h j0 HJ0.out] at hh
      cases hh
    · rw [h]
      have h3 : ¬ j < j0 := fun e => by rw [HNO.out j hj e] at h1; cases h1
      have h4 : ¬ j0 < j := fun e => by rw [h2 j0 HJ0.out e] at hh; cases hh
      omega
  subst hr1
  have O2 := hide (ownsRow_keep HO.out k2)
  have G2 : Hid (w.grownBy w2 (some b)) := ⟨k2.os, k2.tape, k2.output, k2.size, fun k hk _ => k2.block k hk⟩
  clear k2 hr hh
  go_wp2_with fail
  go_loopw [5, 6] (fun i5 i6 wr => ∃ i j : Nat, i < j ∧ j ≤ N ∧ i5 = .int .i64 (i : Int) ∧ i6 = .int .i64 (j : Int) ∧ Hid (∃ Y : List Itm, OwnM wr 0 (.slice (some ⟨b, 0, none⟩) N c) Y ∧ Y.length = N ∧ Y.take i = (X.take j).filter (stays node) ∧ Y.drop j = X.drop j) ∧ Hid (w.grownBy wr (some b))) (fun _ i6 _ => N - (intOf i6).toNat)
  case atStart => exact ⟨j0, j0 + 1, by omega, by omega, rfl, by go_num, ⟨X, O2.out, HX.out.symm, HST.out, rfl⟩, G2.out⟩
  case round =>
    obtain ⟨i, j, hij, hj, rfl, rfl, hY, hg⟩ := hrel
    obtain ⟨Y, oY, lY, tY, dY⟩ := hY.out
    by_cases hlt : j < N
    · have hjX : j < X.length := by rw [← HX.out]; exact hlt
      have hjY : j < Y.length := by omega
      have hiY : i < Y.length := by omega
      have eYX := List.at_same hjX hjY dY
      obtain ⟨hbl, y0, y1, y2, y3, y4, hfr⟩ := oY.cells_at j hjY
      rw [eYX] at y0 y1 y2 y3 y4
      obtain ⟨A, c3, D, cp, hq, -⟩ := five_form (HG.out X[j] (List.getElem_mem hjX))
      obtain ⟨f, t, k, U, V, zs, d, hx⟩ : ∃ f t k U V zs d, X[j] = ⟨f, t, k, U, V, zs, d⟩ := ⟨_, _, _, _, _, _, _, rfl⟩
      have HJ : Hid (stays node X[j] = !decide (f = node ∨ t = node)) := by unfold Hid; rw [hx]; rfl
      rw [hx] at y0 y1 y2 y3 y4 hq
      have HXJ := hide hx
      simp only [Itm.mk.injEq, true_and, and_true] at hq
      obtain ⟨rfl, rfl⟩ := hq
      have hlt2 : (j : Int) < (N : Int) := by omega
      have hj0' : 0 ≤ (j : Int) := by omega
      have hi0' : 0 ≤ (i : Int) := by omega
      have hiN : (i : Int) < (N : Int) := by omega
      have kz := below_alloc wr (.cells #[.int .i64 f, .int .i64 t, .int .i64 k, .slice A zs.length c3, .slice D d.length cp] 45)
      have cp0 : wr.cell? ⟨p, 0, none⟩ = some (.int .i64 node) := by
        have := hg.out.block p hpw (by intro e; exact HPB.out (Option.some.inj e))
        rw [← HP.out]
        exact World.cell?_of_block this
      have hd := drop1_any node p f t k (.slice A zs.length c3) (.slice D d.length cp) _ ((kz.cell (p := ⟨p, 0, none⟩) (cell_lt cp0)).trans cp0)
      have b7 := Blk.new (B := 0) wr 45 #[.int .i64 f, .int .i64 t, .int .i64 k, .slice A zs.length c3, .slice D d.length cp] (Nat.zero_le _)
      have HD := hide hd
      have B7 := hide b7
      have KZ := hide kz
      have OY := hide oY
      have LY := hide lY
      have TY := hide tY
      have DY := hide dY
      have EY := hide eYX
      clear hx hd b7 kz oY lY tY dY eYX cp0 hY
      obtain ⟨t0, ht0⟩ : ∃ t0, t0 = decide (f = node ∨ t = node) := ⟨_, rfl⟩
      rw [← ht0] at HJ HD
      clear ht0
      rcases t0 with _ | _
      · go_wp2_with fail
        refine HD.out.mono ?_
        rintro e w2 ⟨rfl, k2⟩
        have k02 := KZ.out.trans (k2.mono KZ.out.size)
        have o2 : OwnM w2 0 (.slice (some ⟨b, 0, none⟩) N c) Y := ownsRow_keep OY.out k02
        obtain ⟨hbl2, z0, z1, z2, z3, z4, hfr2⟩ := o2.cells_at i hiY
        have f0 := hfr2 (i * 5)
        have f1 := hfr2 (i * 5 + 1)
        have f2 := hfr2 (i * 5 + 2)
        have f3 := hfr2 (i * 5 + 3)
        have f4 := hfr2 (i * 5 + 4)
        have b7 := B7.out.keep k2
        have hbne : ¬ b = wr.heap.size := by omega
        obtain ⟨g7, hg7⟩ : ∃ g7, g7 = wr.heap.size := ⟨_, rfl⟩
        rw [← hg7] at b7 hbne ⊢
        have x0 : w2.cell? ⟨g7, 0, none⟩ = some (.int .i64 f) := b7.cell 0
        have x1 : w2.cell? ⟨g7, 1, none⟩ = some (.int .i64 t) := b7.cell 1
        have x2 : w2.cell? ⟨g7, 2, none⟩ = some (.int .i64 k) := b7.cell 2
        have x3 : w2.cell? ⟨g7, 3, none⟩ = some (.slice A zs.length c3) := b7.cell 3
        have x4 : w2.cell? ⟨g7, 4, none⟩ = some (.slice D d.length cp) := b7.cell 4
        obtain ⟨o5, g5⟩ := o2.set5 i hiY ⟨f, t, k, .slice A zs.length c3, .slice D d.length cp, zs, d⟩
        have g5' := (hg.out.trans ⟨k02.os, k02.tape, k02.output, k02.size, fun q hq _ => k02.block q hq⟩).trans g5
        obtain ⟨s1, s2⟩ := List.step_keep X Y (stays node) i j hjX (Nat.le_of_lt hij) TY.out DY.out HJ.out hiY
        rw [HXJ.out] at s1 s2
        simp only [setAt] at o5 g5'
        have O5 := hide o5
        have G5 := hide g5'
        have S1 := hide s1
        have S2 := hide s2
        clear k2 k02 o2 b7 hfr2 o5 g5 g5' s1 s2 y0 y1 y2 y3 y4 hfr hg7
        go_wp2_with fail
        exact ⟨⟨i + 1, j + 1, by omega, by omega, by go_num, by go_num, ⟨_, O5.out, by rw [List.length_set]; exact LY.out, S1.out, S2.out⟩, G5.out⟩, by simp [intOf]; omega⟩
      · go_wp2_with fail
        refine HD.out.mono ?_
        rintro e w2 ⟨rfl, k2⟩
        have K2 := hide (KZ.out.trans (k2.mono KZ.out.size))
        clear k2 y0 y1 y2 y3 y4 hfr
        go_wp2_with fail
        obtain ⟨s1, s2⟩ := List.step_drop X Y (stays node) i j hjX TY.out DY.out HJ.out
        exact ⟨⟨i, j + 1, by omega, by omega, rfl, by go_num, ⟨Y, ownsRow_keep OY.out K2.out, LY.out, s1, s2⟩, (hg.out.trans ⟨K2.out.os, K2.out.tape, K2.out.output, K2.out.size, fun q hq _ => K2.out.block q hq⟩)⟩, by simp [intOf]; omega⟩
    · obtain rfl : j = N := by omega
      have hnl : ¬ ((j : Int) < (j : Int)) := by omega
      have hii : i ≤ Y.length := by omega
      have o1 := (oY.front i hii)
      obtain ⟨w5, cl5, o5, g5⟩ := o1.clear (by rw [List.length_take]; omega) (j - i) (c - i) (by omega)
      have hTY : Y.take i = X.filter (stays node) := by rw [tY, HX.out, List.take_length]
      have hlen : i = (X.filter (stays node)).length := by rw [← hTY, List.length_take]; omega
      rw [hTY] at o5
      have O5 := hide o5
      have G5 := hide (hg.out.trans g5)
      have HL := hide hlen
      have hi0' : 0 ≤ (i : Int) := by omega
      have hic : (i : Int) ≤ (c : Int) := by omega
      have hiN : (i : Int) ≤ (j : Int) := by omega
      have hci : ¬ c = i := by omega
      clear o5 g5 hTY hlen o1 tY dY lY oY hY
      go_wp2_with fail
      rw [← HL.out]
      go_ret
      exact ⟨rfl, O5.out, G5.out⟩
/-- The net's Drop. -/
def dropL (node : Int) (L : List Tale) : List Tale := L.filter fun m => !decide (m.1 = node ∨ m.2.1 = node)
theorem dropL_says (node : Int) (X : List Itm) : dropL node (X.map Itm.says) = (X.filter (stays node)).map Itm.says := by
  unfold dropL
  rw [List.filter_map]
  rfl
theorem first_cases (node : Int) : ∀ X : List Itm, (∀ q ∈ X, hit node q = false) ∨ ∃ j, ∃ h : j < X.length, hit node X[j] = true ∧ ∀ (i : Nat) (h : i < X.length), i < j → hit node X[i] = false
  | [] => .inl (fun q hq => by cases hq)
  | q :: r => by
    rcases hq : hit node q with _ | _
    · rcases first_cases node r with h | ⟨j, hj, h1, h2⟩
      · left
        intro z hz
        rcases List.mem_cons.1 hz with rfl | hz
        · exact hq
        · exact h z hz
      · right
        refine ⟨j + 1, by simpa using hj, by simpa using h1, fun i hi hij => ?_⟩
        match i, hi, hij with
        | 0, _, _ => simpa using hq
        | i + 1, hi, hij => simpa using h2 i (by simpa using hi) (by omega)
    · right
      exact ⟨0, by simp, by simpa using hq, fun i _ hi => absurd hi (Nat.not_lt_zero _)⟩
theorem filter_all (node : Int) {X : List Itm} (h : ∀ q ∈ X, hit node q = false) : X.filter (stays node) = X := List.filter_eq_self.2 (fun q hq => by simp [stays, h q hq])
set_option maxHeartbeats 1600000 in
theorem drop_any (F : Nat → Prop) (g : Nat) (L : List Tale) (node : Int) (w : World) (h : NetAt PN w F g L) :
    Calls Try.prog 30 #[.pointer (some ⟨g, 0, none⟩), .int .i64 node] w fun e w' => e = .returned (.int .i64 ((L.length : Int) - ((dropL node L).length : Int))) ∧ ∃ F', NetAt PN w' F' g (dropL node L) ∧ Next F w F' w' := by
  obtain ⟨v, X, rfl, hS⟩ := h
  rw [dropL_says, List.length_map, List.length_map]
  have hfl : (X.filter (stays node)).length ≤ X.length := List.length_filter_le _ _
  have hm := hS.most
  have ka := below_alloc w (.cells #[.int .i64 node] 3)
  have h1 := hS.below ka
  have cp : (w.alloc (.cells #[.int .i64 node] 3)).cell? ⟨w.heap.size, 0, none⟩ = some (.int .i64 node) := (Blk.new w (B := 0) 3 #[.int .i64 node] (Nat.zero_le _)).cell 0
  obtain ⟨A0, c0, rfl, hlc, hc63, -, hcl⟩ := hS.row.form
  have q0 : w.cell? ⟨g, 0, none⟩ = some (.slice A0 X.length c0) := hS.cells.cell 0
  have hgl : g < w.heap.size := hS.cells.lt
  obtain ⟨w1, hw1⟩ : ∃ w1, w1 = w.alloc (.cells #[.int .i64 node] 3) := ⟨_, rfl⟩
  obtain ⟨p, hp⟩ : ∃ p, p = w.heap.size := ⟨_, rfl⟩
  rw [← hw1] at ka h1 cp
  rw [← hp] at cp
  have hfin : Calls Try.prog 68 #[.slice A0 X.length c0, dropF p] w1 fun e w' => ∃ v4, e = .returned v4 ∧ OwnM w' 0 v4 (X.filter (stays node)) ∧ v4.ownBlock = (Value.slice A0 X.length c0).ownBlock ∧ w1.grownBy w' (Value.slice A0 X.length c0).ownBlock := by
    rcases first_cases node X with hno | ⟨j, hj, hh, hno⟩
    · refine (deleteFunc_none node p A0 c0 X F w1 h1.row h1.each hm cp hno).mono ?_
      rintro e w' ⟨rfl, k⟩
      refine ⟨_, rfl, ?_, rfl, ⟨k.os, k.tape, k.output, k.size, fun q hq _ => k.block q hq⟩⟩
      rw [filter_all node hno]
      exact ownsRow_keep h1.row k
    · obtain ⟨b, rfl, -, hbl, -⟩ := hcl j hj
      have hpb : p ≠ b := by omega
      refine (deleteFunc_some node p b c0 X.length j X F w1 rfl h1.row h1.each hm hlc hc63 cp hpb hj hh hno).mono ?_
      rintro e w' ⟨M, rfl, rfl, o, k⟩
      exact ⟨_, rfl, o, rfl, k⟩
  have HFIN := hide hfin
  have HW := hide hw1
  have HP := hide hp
  have KA := hide ka
  have HS := hide hS
  obtain ⟨N, hN⟩ : ∃ N, N = X.length := ⟨_, rfl⟩
  obtain ⟨M, hM⟩ : ∃ M, M = (X.filter (stays node)).length := ⟨_, rfl⟩
  rw [← hN] at q0 hlc hm hfl
  rw [← hM] at hfl
  rw [← hN, ← hM]
  have HN := hide hN
  have HM := hide hM
  clear hcl hS h1 cp hw1 hp hfin ka hN hM
  go_enter Try.func30, Try.ntmps30
  go_wp2_with fail
  rw [← HW.out, ← HP.out, HN.out]
  refine HFIN.out.mono ?_
  rintro e w4 ⟨v4, rfl, o4, e4, g4⟩
  obtain ⟨b4, s4, t4⟩ := HS.out.cut (by decide) (by decide) (by decide) KA.out o4 g4 e4 (fun q hq => (List.mem_filter.1 hq).1) (by rw [← HM.out]; omega)
  obtain ⟨A4, c4, ev, -⟩ := o4.form
  subst ev
  rw [← HM.out] at s4 t4 ⊢
  rw [← HN.out]
  have x0 : w4.cell? ⟨g, 0, none⟩ = some (.slice A0 X.length c0) := b4.cell 0
  have f0 := b4.frozen 0
  have S4 := hide s4
  have T4 := hide t4
  clear b4 s4 t4 o4 e4 g4
  go_wp2_with fail
  go_ret
  exact ⟨rfl, F, ⟨_, _, rfl, S4.out⟩, T4.out, fun _ => .inl⟩
end Go.Proofs.Ytdhamhaadclhkaa
