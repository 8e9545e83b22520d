/- The contract of wire.Decode: any bytes begin with a message, or are refused for the first reason of all. Condition: rows below 2 to the 39. -/
import Derived.Test.YtjchpnmipmplkaaMessage
namespace Go.Proofs.Ytjchpnmipmplkaa
open Go.RowKit
theorem below_grown {w a b : World} {B : Nat} {row : Option Nat} (h : Below B w a) (hg : a.grownBy b row) (hB : B ≤ w.heap.size) (hr : ∀ k, row = some k → B ≤ k) : Below B w b := h.grown hg (Nat.le_trans hB h.size) hr
set_option maxHeartbeats 3200000 in
theorem wdec_any (A : Option Addr) (n c : Nat) (b : List Nat) (w : World) (hA : IsB w (.slice A n c) b) (hn : b.length = n) (hb : ∀ x ∈ b, x < 256) (h3 : n ≤ 549755813888) (hc : n ≤ c) (lc : c ≤ 9223372036854775807) :
    Calls Try.prog 14 #[.slice A n c] w fun e w' => ∃ N D, e = .returned (.tuple #[.agg #[.int .i64 ((wdecL b).1.1 : Nat), .int .i64 ((wdecL b).1.2.1 : Nat), .int .i64 ((wdecL b).1.2.2.1 : Nat), N, D], .int .i64 ((wdecL b).2.1 : Nat), .int .i64 ((wdecL b).2.2 : Nat)]) ∧
      IsI w' N (wdecL b).1.2.2.2.1 ∧ Piece w' w.heap.size D (wdecL b).1.2.2.2.2 ∧ Below w.heap.size w w' := by
  obtain ⟨p, dn, de, hd⟩ : ∃ p dn de, decL b = (p, dn, de) := ⟨_, _, _, rfl⟩
  have nb : Below w.heap.size w (w.alloc (.cells #[.int .i64 0, .int .i64 0, .int .i64 0, .slice none 0 0, .slice none 0 0] 25)) := (Below.refl _ _).alloc (Nat.le_refl _) _
  have b2 := Blk.new (B := w.heap.size) w 25 #[.int .i64 0, .int .i64 0, .int .i64 0, .slice none 0 0, .slice none 0 0] (Nat.le_refl _)
  obtain ⟨w1, hw1⟩ : ∃ w1, w1 = w.alloc (.cells #[.int .i64 0, .int .i64 0, .int .i64 0, .slice none 0 0, .slice none 0 0] 25) := ⟨_, rfl⟩
  rw [← hw1] at nb b2
  have hdec := decode_any A n c b w1 (hA.keep nb) hn hb h3 hc lc
  rw [hd] at hdec
  have HDEC := hide hdec
  have HW1 := hide hw1
  have NB := hide nb
  have B2 := hide b2
  obtain ⟨g2, hg2⟩ : ∃ g2, g2 = w.heap.size := ⟨_, rfl⟩
  rw [← hg2] at B2
  have HG2 := hide hg2
  by_cases he : de = 0
  · subst he
    have hinv := dec_inv hb hd
    obtain ⟨m, st, hm⟩ : ∃ m st, rmsg p = (m, st) := ⟨_, _, rfl⟩
    have HP := hide (And.intro hinv.2.2.2.2 hinv.2.2.1)
    have HM := hide hm
    have HB := hide hb
    obtain ⟨pl, hpl⟩ : ∃ pl, pl = p.length := ⟨_, rfl⟩
    have HPL := hide hpl
    rcases st with _ | r
    · rw [wdecL_bad hd hm]
      clear hA hn hb hd nb b2 hw1 hdec hinv hm hpl hg2
      go_enter Try.func14, Try.ntmps14
      go_wp2_with fail
      rw [← HW1.out, ← HG2.out]
      refine HDEC.out.mono ?_
      rintro e w2 ⟨s2, rfl, o2, k2⟩
      obtain ⟨A2, c2, rfl, _⟩ := o2.isB.form (n := pl) HPL.out.symm
      have k3 : Below w2.heap.size w2 (w2.alloc (.cells #[.slice A2 pl c2, .int .i64 0] 55)) := (Below.refl _ _).alloc (Nat.le_refl _) _
      have r3 : RS (w2.alloc (.cells #[.slice A2 pl c2, .int .i64 0] 55)) w.heap.size w2.heap.size (some p) := ⟨_, 0, Blk.new w2 _ #[.slice A2 pl c2, .int .i64 0] (Nat.le_trans NB.out.size k2.size), rfl, (o2.piece.more NB.out.size).keep k3, HP.out⟩
      have hmsg := message_any w.heap.size w2.heap.size p _ r3 (Nat.le_trans NB.out.size (Nat.le_trans k2.size k3.size))
      rw [HM.out] at hmsg
      obtain ⟨f, t, k, zs, d⟩ := m
      simp only at hmsg
      have HMSG := hide hmsg
      have B3 := hide ((B2.out.keep k2).keep k3)
      have R3 := hide r3
      have K3 := hide (below_step (below_step NB.out k2) k3)
      obtain ⟨zl, hzl⟩ : ∃ zl, zl = zs.length := ⟨_, rfl⟩
      obtain ⟨dl, hdl⟩ : ∃ dl, dl = d.length := ⟨_, rfl⟩
      have HZL := hide hzl
      have HDL := hide hdl
      have LG : Hid (w.heap.size ≤ w2.heap.size) := Nat.le_trans NB.out.size k2.size
      clear o2 k2 k3 r3 hmsg hzl hdl
      go_wp2_with fail
      refine HMSG.out.mono ?_
      rintro e w4 ⟨N, D, rfl, iN, pD, r4, g4⟩
      obtain ⟨A4, c4, rfl, _⟩ := iN.isI.form (n := zl) HZL.out.symm
      obtain ⟨A5, c5, rfl, _⟩ := pD.isB.form (n := dl) HDL.out.symm
      have b4 := B3.out.kept g4 (R3.out.ne B3.out (by decide))
      have K4 := hide (below_grown K3.out g4 (Nat.le_refl _) (fun i e => by cases e; exact LG.out))
      obtain ⟨V4, er, bR, hR⟩ := r4
      have hne : ¬ g2 = w2.heap.size := fun e => b4.ne bR (by decide) e
      have hne2 : ¬ w2.heap.size = g2 := fun e => hne e.symm
      have hl := bR.lt
      have hl2 := b4.lt
      have cE : w4.cell? ⟨w2.heap.size, 1, none⟩ = some (.int .i64 er) := bR.cell 1
      have y0 : w4.cell? ⟨g2, 0, none⟩ = some (.int .i64 0) := b4.cell 0
      have y1 : w4.cell? ⟨g2, 1, none⟩ = some (.int .i64 0) := b4.cell 1
      have y2 : w4.cell? ⟨g2, 2, none⟩ = some (.int .i64 0) := b4.cell 2
      have y3 : w4.cell? ⟨g2, 3, none⟩ = some (.slice none 0 0) := b4.cell 3
      have y4 : w4.cell? ⟨g2, 4, none⟩ = some (.slice none 0 0) := b4.cell 4
      have z0 := b4.frozen 0
      have z1 := b4.frozen 1
      have z2 := b4.frozen 2
      have z3 := b4.frozen 3
      have z4 := b4.frozen 4
      have B4 := hide b4
      have IN := hide iN
      have PD := hide pD
      clear g4 bR b4 iN pD
      obtain rfl : er = 3 := hR
      go_wp2_with fail
      go_region
      all_goals
        go_wp2_with fail
        have gr8 := setMsg_grown w4 g2 0 0 0 (.slice none 0 0) (.slice none 0 0)
        have b8 := setMsg_blk B4.out rfl 0 0 0 (.slice none 0 0) (.slice none 0 0)
        have kb : Below (setMsg w4 g2 0 0 0 (.slice none 0 0) (.slice none 0 0)).heap.size (setMsg w4 g2 0 0 0 (.slice none 0 0) (.slice none 0 0)) ((setMsg w4 g2 0 0 0 (.slice none 0 0) (.slice none 0 0)).alloc (.cells #[.int .i64 f, .int .i64 t, .int .i64 k, .slice A4 zl c4, .slice A5 dl c5] 25)) := (Below.refl _ _).alloc (Nat.le_refl _) _
        have b9 := b8.keep kb
        have k9 := below_step (below_grown K4.out gr8 (Nat.le_refl _) (fun k e => by cases e; exact Nat.le_of_eq HG2.out.symm)) kb
        obtain ⟨W8, hW8⟩ : ∃ W8, W8 = ((setMsg w4 g2 0 0 0 (.slice none 0 0) (.slice none 0 0)).alloc (.cells #[.int .i64 f, .int .i64 t, .int .i64 k, .slice A4 zl c4, .slice A5 dl c5] 25)) := ⟨_, rfl⟩
        rw [← hW8] at b9 k9
        unfold setMsg at hW8
        rw [← hW8]
        obtain ⟨q0, q1, q2, q3, q4⟩ := b9.msgAt
        refine bodyPost_ret (v := .tuple #[.agg #[.int .i64 0, .int .i64 0, .int .i64 0, .slice none 0 0, .slice none 0 0], .int .i64 0, .int .i64 3]) (by simp [results, Try.results14, go_sem, q0, q1, q2, q3, q4]) rfl ⟨_, _, rfl, isI_nil _, Piece.nil _ _, k9.drew⟩
    · rw [wdecL_ok hd hm]
      clear hA hn hb hd nb b2 hw1 hdec hinv hm hpl hg2
      go_enter Try.func14, Try.ntmps14
      go_wp2_with fail
      rw [← HW1.out, ← HG2.out]
      refine HDEC.out.mono ?_
      rintro e w2 ⟨s2, rfl, o2, k2⟩
      obtain ⟨A2, c2, rfl, _⟩ := o2.isB.form (n := pl) HPL.out.symm
      have k3 : Below w2.heap.size w2 (w2.alloc (.cells #[.slice A2 pl c2, .int .i64 0] 55)) := (Below.refl _ _).alloc (Nat.le_refl _) _
      have r3 : RS (w2.alloc (.cells #[.slice A2 pl c2, .int .i64 0] 55)) w.heap.size w2.heap.size (some p) := ⟨_, 0, Blk.new w2 _ #[.slice A2 pl c2, .int .i64 0] (Nat.le_trans NB.out.size k2.size), rfl, (o2.piece.more NB.out.size).keep k3, HP.out⟩
      have hmsg := message_any w.heap.size w2.heap.size p _ r3 (Nat.le_trans NB.out.size (Nat.le_trans k2.size k3.size))
      rw [HM.out] at hmsg
      obtain ⟨f, t, k, zs, d⟩ := m
      simp only at hmsg
      have HMSG := hide hmsg
      have B3 := hide ((B2.out.keep k2).keep k3)
      have R3 := hide r3
      have K3 := hide (below_step (below_step NB.out k2) k3)
      obtain ⟨zl, hzl⟩ : ∃ zl, zl = zs.length := ⟨_, rfl⟩
      obtain ⟨dl, hdl⟩ : ∃ dl, dl = d.length := ⟨_, rfl⟩
      have HZL := hide hzl
      have HDL := hide hdl
      have LG : Hid (w.heap.size ≤ w2.heap.size) := Nat.le_trans NB.out.size k2.size
      clear o2 k2 k3 r3 hmsg hzl hdl
      go_wp2_with fail
      refine HMSG.out.mono ?_
      rintro e w4 ⟨N, D, rfl, iN, pD, r4, g4⟩
      obtain ⟨A4, c4, rfl, _⟩ := iN.isI.form (n := zl) HZL.out.symm
      obtain ⟨A5, c5, rfl, _⟩ := pD.isB.form (n := dl) HDL.out.symm
      have b4 := B3.out.kept g4 (R3.out.ne B3.out (by decide))
      have K4 := hide (below_grown K3.out g4 (Nat.le_refl _) (fun i e => by cases e; exact LG.out))
      obtain ⟨V4, er, bR, hR⟩ := r4
      have hne : ¬ g2 = w2.heap.size := fun e => b4.ne bR (by decide) e
      have hne2 : ¬ w2.heap.size = g2 := fun e => hne e.symm
      have hl := bR.lt
      have hl2 := b4.lt
      have cE : w4.cell? ⟨w2.heap.size, 1, none⟩ = some (.int .i64 er) := bR.cell 1
      have y0 : w4.cell? ⟨g2, 0, none⟩ = some (.int .i64 0) := b4.cell 0
      have y1 : w4.cell? ⟨g2, 1, none⟩ = some (.int .i64 0) := b4.cell 1
      have y2 : w4.cell? ⟨g2, 2, none⟩ = some (.int .i64 0) := b4.cell 2
      have y3 : w4.cell? ⟨g2, 3, none⟩ = some (.slice none 0 0) := b4.cell 3
      have y4 : w4.cell? ⟨g2, 4, none⟩ = some (.slice none 0 0) := b4.cell 4
      have z0 := b4.frozen 0
      have z1 := b4.frozen 1
      have z2 := b4.frozen 2
      have z3 := b4.frozen 3
      have z4 := b4.frozen 4
      have B4 := hide b4
      have IN := hide iN
      have PD := hide pD
      clear g4 bR b4 iN pD
      obtain ⟨rfl, _⟩ := hR
      go_wp2_with fail
      obtain ⟨W8, hW8⟩ : ∃ W8, W8 = (setMsg w4 g2 f t k (.slice A4 zl c4) (.slice A5 dl c5)).alloc (.cells #[.int .i64 f, .int .i64 t, .int .i64 k, .slice A4 zl c4, .slice A5 dl c5] 25) := ⟨_, rfl⟩
      have gr8 := setMsg_grown w4 g2 f t k (.slice A4 zl c4) (.slice A5 dl c5)
      have b8 := setMsg_blk B4.out rfl f t k (.slice A4 zl c4) (.slice A5 dl c5)
      have kb : Below (setMsg w4 g2 f t k (.slice A4 zl c4) (.slice A5 dl c5)).heap.size (setMsg w4 g2 f t k (.slice A4 zl c4) (.slice A5 dl c5)) ((setMsg w4 g2 f t k (.slice A4 zl c4) (.slice A5 dl c5)).alloc (.cells #[.int .i64 f, .int .i64 t, .int .i64 k, .slice A4 zl c4, .slice A5 dl c5] 25)) := (Below.refl _ _).alloc (Nat.le_refl _) _
      have b9 := b8.keep kb
      have k9 := below_step (below_grown K4.out gr8 (Nat.le_refl _) (fun k e => by cases e; exact Nat.le_of_eq HG2.out.symm)) kb
      have i9 := ((IN.out.apart B4.out (by decide) gr8).keep kb).isI
      have p9 := ((PD.out.apart B4.out (by decide) gr8).keep kb)
      rw [← hW8] at b9 k9 i9 p9
      unfold setMsg at hW8
      rw [← hW8]
      obtain ⟨q0, q1, q2, q3, q4⟩ := b9.msgAt
      refine bodyPost_ret (v := .tuple #[.agg #[.int .i64 f, .int .i64 t, .int .i64 k, .slice A4 zl c4, .slice A5 dl c5], .int .i64 (dn : Int), .int .i64 0]) (by simp [results, Try.results14, go_sem, q0, q1, q2, q3, q4]) rfl ⟨_, _, rfl, i9, p9, k9⟩
  · rw [wdecL_err hd he]
    have hne : ((de : Int) != 0) = true := by simp; omega
    clear hA hn hb hd nb b2 hw1 hdec he hg2
    go_enter Try.func14, Try.ntmps14
    go_wp2_with fail
    rw [← HW1.out, ← HG2.out]
    refine HDEC.out.mono ?_
    rintro e w2 ⟨s2, rfl, o2, k2⟩
    have b2 := B2.out.keep k2
    have y0 : w2.cell? ⟨g2, 0, none⟩ = some (.int .i64 0) := b2.cell 0
    have y1 : w2.cell? ⟨g2, 1, none⟩ = some (.int .i64 0) := b2.cell 1
    have y2 : w2.cell? ⟨g2, 2, none⟩ = some (.int .i64 0) := b2.cell 2
    have y3 : w2.cell? ⟨g2, 3, none⟩ = some (.slice none 0 0) := b2.cell 3
    have y4 : w2.cell? ⟨g2, 4, none⟩ = some (.slice none 0 0) := b2.cell 4
    have z0 := b2.frozen 0
    have z1 := b2.frozen 1
    have z2 := b2.frozen 2
    have z3 := b2.frozen 3
    have z4 := b2.frozen 4
    have BB := hide b2
    have K2 := hide (below_step NB.out k2)
    clear o2 k2 b2
    go_wp2_with fail
    obtain ⟨W8, hW8⟩ : ∃ W8, W8 = setMsg w2 g2 0 0 0 (.slice none 0 0) (.slice none 0 0) := ⟨_, rfl⟩
    have gr8 := setMsg_grown w2 g2 0 0 0 (.slice none 0 0) (.slice none 0 0)
    have b8 := setMsg_blk BB.out rfl 0 0 0 (.slice none 0 0) (.slice none 0 0)
    rw [← hW8] at gr8 b8
    unfold setMsg at hW8
    rw [← hW8]
    obtain ⟨q0, q1, q2, q3, q4⟩ := b8.msgAt
    refine bodyPost_ret (v := .tuple #[.agg #[.int .i64 0, .int .i64 0, .int .i64 0, .slice none 0 0, .slice none 0 0], .int .i64 0, .int .i64 (de : Int)]) (by simp [results, Try.results14, go_sem, q0, q1, q2, q3, q4]) rfl ⟨_, _, rfl, isI_nil _, Piece.nil _ _, below_grown K2.out gr8 (Nat.le_refl _) (fun k e => by cases e; exact Nat.le_of_eq HG2.out.symm)⟩
end Go.Proofs.Ytjchpnmipmplkaa
