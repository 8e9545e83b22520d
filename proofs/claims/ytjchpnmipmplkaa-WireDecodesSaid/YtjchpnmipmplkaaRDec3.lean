/- The contract of the document's own Decode of messages. Condition: rows below 2 to the 39. -/
import Derived.Test.YtjchpnmipmplkaaWDec
import Derived.Test.YtjchpnmipmplkaaRNum
import Derived.Test.YtjchpnmipmplkaaRDec
import Derived.BigRegion
import Derived.Deep.RegionLaw
import Derived.Outline
namespace Go.Proofs.Ytjchpnmipmplkaa
open Go.RowKit
theorem isB_none (w : World) : IsB w (.slice none 0 0) [] := ⟨none, 0, rfl, fun h => absurd rfl h, fun _ => rfl, Nat.zero_le _, by decide⟩
set_option maxHeartbeats 3200000 in
theorem rdec3_err (A : Option Addr) (n c : Nat) (b : List Nat) (w : World) (hA : IsB w (.slice A n c) b) (hn : b.length = n) (hb : ∀ x ∈ b, x < 256) (h3 : n ≤ 549755813888) (hc : n ≤ c) (lc : c ≤ 9223372036854775807) (p : List Nat) (dn de : Nat) (hd : decL b = (p, dn, de)) (he : de ≠ 0) :
    Calls Try.prog 15 #[.slice A n c] w fun e w' => ∃ N D, e = .returned (.tuple #[.agg #[.int .i64 ((wdecL b).1.1 : Nat), .int .i64 ((wdecL b).1.2.1 : Nat), .int .i64 ((wdecL b).1.2.2.1 : Nat), N, D], .int .i64 ((wdecL b).2.1 : Nat), .int .i64 ((wdecL b).2.2 : Nat)]) ∧
      IsI w' N (wdecL b).1.2.2.2.1 ∧ IsB w' D (wdecL b).1.2.2.2.2 ∧ Below w.heap.size w w' := by
  have nb : Below w.heap.size w (w.alloc (.cells #[.int .i64 0, .int .i64 0, .int .i64 0, .slice none 0 0, .slice none 0 0] 25)) := (Below.refl _ _).alloc (Nat.le_refl _) _
  have b2 := Blk.new (B := w.heap.size) w 25 #[.int .i64 0, .int .i64 0, .int .i64 0, .slice none 0 0, .slice none 0 0] (Nat.le_refl _)
  obtain ⟨w1, hw1⟩ : ∃ w1, w1 = w.alloc (.cells #[.int .i64 0, .int .i64 0, .int .i64 0, .slice none 0 0, .slice none 0 0] 25) := ⟨_, rfl⟩
  rw [← hw1] at nb b2
  have hdec := rdecode_any A n c b w1 (hA.keep nb) hn hb h3 hc lc
  rw [hd] at hdec
  have HDEC := hide hdec
  have HW1 := hide hw1
  have NB := hide nb
  have B2 := hide b2
  obtain ⟨g2, hg2⟩ : ∃ g2, g2 = w.heap.size := ⟨_, rfl⟩
  rw [← hg2] at B2
  have HG2 := hide hg2
  rw [wdecL_err hd he]
  have hne : ((de : Int) != 0) = true := by simp; omega
  clear hA hn hb hd nb b2 hw1 hdec he hg2
  go_enter Try.func15, Try.ntmps15
  go_wp2_with fail
  rw [← HW1.out, ← HG2.out]
  refine HDEC.out.mono ?_
  rintro e w2 ⟨s2, rfl, o2, k2⟩
  have b2 := B2.out.keep k2
  have y0 : w2.cell? ⟨g2, 0, none⟩ = some (.int .i64 0) := (b2).cell 0
  have y1 : w2.cell? ⟨g2, 1, none⟩ = some (.int .i64 0) := (b2).cell 1
  have y2 : w2.cell? ⟨g2, 2, none⟩ = some (.int .i64 0) := (b2).cell 2
  have y3 : w2.cell? ⟨g2, 3, none⟩ = some (.slice none 0 0) := (b2).cell 3
  have y4 : w2.cell? ⟨g2, 4, none⟩ = some (.slice none 0 0) := (b2).cell 4
  have z0 := (b2).frozen 0
  have z1 := (b2).frozen 1
  have z2 := (b2).frozen 2
  have z3 := (b2).frozen 3
  have z4 := (b2).frozen 4
  have BB := hide b2
  have K2 := hide (below_step NB.out k2)
  clear o2 k2 b2
  go_wp2_with fail
  obtain ⟨W8, hW8⟩ : ∃ W8, W8 = setMsg w2 g2 0 0 0 (.slice none 0 0) (.slice none 0 0) := ⟨_, rfl⟩
  have gr8 := setMsg_grown w2 g2 0 0 0 (.slice none 0 0) (.slice none 0 0)
  have b8 := setMsg_blk BB.out rfl 0 0 0 (.slice none 0 0) (.slice none 0 0)
  rw [← hW8] at gr8 b8
  unfold setMsg at hW8
  rw [← hW8]
  obtain ⟨q0, q1, q2, q3, q4⟩ := b8.msgAt
  refine bodyPost_ret (v := .tuple #[.agg #[.int .i64 0, .int .i64 0, .int .i64 0, .slice none 0 0, .slice none 0 0], .int .i64 0, .int .i64 (de : Int)]) (by simp [results, Try.results15, go_sem, q0, q1, q2, q3, q4]) rfl ⟨_, _, rfl, isI_nil _, isB_none _, below_grown K2.out gr8 (Nat.le_refl _) (fun k e => by cases e; exact Nat.le_of_eq HG2.out.symm)⟩
set_option maxHeartbeats 3200000 in
theorem rdec3_bad1 (A : Option Addr) (n c : Nat) (b : List Nat) (w : World) (hA : IsB w (.slice A n c) b) (hn : b.length = n) (hb : ∀ x ∈ b, x < 256) (h3 : n ≤ 549755813888) (hc : n ≤ c) (lc : c ≤ 9223372036854775807) (p : List Nat) (dn : Nat) (hd : decL b = (p, dn, 0)) (h4 : numsL 4 p = none) :
    Calls Try.prog 15 #[.slice A n c] w fun e w' => ∃ N D, e = .returned (.tuple #[.agg #[.int .i64 ((wdecL b).1.1 : Nat), .int .i64 ((wdecL b).1.2.1 : Nat), .int .i64 ((wdecL b).1.2.2.1 : Nat), N, D], .int .i64 ((wdecL b).2.1 : Nat), .int .i64 ((wdecL b).2.2 : Nat)]) ∧
      IsI w' N (wdecL b).1.2.2.2.1 ∧ IsB w' D (wdecL b).1.2.2.2.2 ∧ Below w.heap.size w w' := by
  have nb : Below w.heap.size w (w.alloc (.cells #[.int .i64 0, .int .i64 0, .int .i64 0, .slice none 0 0, .slice none 0 0] 25)) := (Below.refl _ _).alloc (Nat.le_refl _) _
  have b2 := Blk.new (B := w.heap.size) w 25 #[.int .i64 0, .int .i64 0, .int .i64 0, .slice none 0 0, .slice none 0 0] (Nat.le_refl _)
  obtain ⟨w1, hw1⟩ : ∃ w1, w1 = w.alloc (.cells #[.int .i64 0, .int .i64 0, .int .i64 0, .slice none 0 0, .slice none 0 0] 25) := ⟨_, rfl⟩
  rw [← hw1] at nb b2
  have hdec := rdecode_any A n c b w1 (hA.keep nb) hn hb h3 hc lc
  rw [hd] at hdec
  have HDEC := hide hdec
  have HW1 := hide hw1
  have NB := hide nb
  have B2 := hide b2
  obtain ⟨g2, hg2⟩ : ∃ g2, g2 = w.heap.size := ⟨_, rfl⟩
  rw [← hg2] at B2
  have HG2 := hide hg2
  have hinv := dec_inv hb hd
  have hbp := hinv.2.2.2.2
  have hpl1 := hinv.2.2.1
  have HBP := hide hbp
  obtain ⟨pl, hpl⟩ : ∃ pl, pl = p.length := ⟨_, rfl⟩
  rw [← hpl] at hpl1
  have HPL := hide hpl
  obtain ⟨m, hm⟩ : ∃ m, rmsg p = (m, none) := ⟨(rmsg p).1, by rw [← ref_bad1 hbp h4]⟩
  rw [wdecL_bad hd hm]
  have H4 := hide h4
  clear hA hn hb hd nb b2 hw1 hdec hg2 hinv hbp hpl hm h4
  go_enter Try.func15, Try.ntmps15
  go_wp2_with fail
  rw [← HW1.out, ← HG2.out]
  refine HDEC.out.mono ?_
  rintro e w2 ⟨s2, rfl, o2, k2⟩
  obtain ⟨A2, c2, rfl, i2, _⟩ := o2.isB.form (n := pl) HPL.out.symm
  have BB := hide (B2.out.keep k2)
  have K2 := hide (below_step NB.out k2)
  have LG : Hid (g2 < w2.heap.size) := BB.out.lt
  have I2 := hide i2
  clear o2 k2 i2
  go_wp2_with fail
  refine (rnums_any A2 pl c2 4 p w2 w2 (Below.refl _ _) I2.out HPL.out.symm HBP.out (by decide) (by omega)).mono ?_
  rintro e w3 ⟨k3, hor⟩
  rcases hor with ⟨_, rfl⟩ | ⟨us, r, L, R, hu, _⟩
  · skip
    have y0 : w3.cell? ⟨g2, 0, none⟩ = some (.int .i64 0) := (BB.out.keep k3).cell 0
    have y1 : w3.cell? ⟨g2, 1, none⟩ = some (.int .i64 0) := (BB.out.keep k3).cell 1
    have y2 : w3.cell? ⟨g2, 2, none⟩ = some (.int .i64 0) := (BB.out.keep k3).cell 2
    have y3 : w3.cell? ⟨g2, 3, none⟩ = some (.slice none 0 0) := (BB.out.keep k3).cell 3
    have y4 : w3.cell? ⟨g2, 4, none⟩ = some (.slice none 0 0) := (BB.out.keep k3).cell 4
    have z0 := (BB.out.keep k3).frozen 0
    have z1 := (BB.out.keep k3).frozen 1
    have z2 := (BB.out.keep k3).frozen 2
    have z3 := (BB.out.keep k3).frozen 3
    have z4 := (BB.out.keep k3).frozen 4
    have B3 := hide (BB.out.keep k3)
    have K3 := hide (below_step K2.out k3)
    clear k3
    go_wp2_with fail
    obtain ⟨W8, hW8⟩ : ∃ W8, W8 = setMsg w3 g2 0 0 0 (.slice none 0 0) (.slice none 0 0) := ⟨_, rfl⟩
    have gr8 := setMsg_grown w3 g2 0 0 0 (.slice none 0 0) (.slice none 0 0)
    have b8 := setMsg_blk B3.out rfl 0 0 0 (.slice none 0 0) (.slice none 0 0)
    rw [← hW8] at gr8 b8
    unfold setMsg at hW8
    rw [← hW8]
    obtain ⟨q0, q1, q2, q3, q4⟩ := b8.msgAt
    refine bodyPost_ret (v := .tuple #[.agg #[.int .i64 0, .int .i64 0, .int .i64 0, .slice none 0 0, .slice none 0 0], .int .i64 0, .int .i64 3]) (by simp [results, Try.results15, go_sem, q0, q1, q2, q3, q4]) rfl ⟨_, _, rfl, isI_nil _, isB_none _, below_grown K3.out gr8 (Nat.le_refl _) (fun k e => by cases e; exact Nat.le_of_eq HG2.out.symm)⟩
  · rw [H4.out] at hu
    cases hu
set_option maxHeartbeats 3200000 in
theorem rdec3_bad2 (A : Option Addr) (n c : Nat) (b : List Nat) (w : World) (hA : IsB w (.slice A n c) b) (hn : b.length = n) (hb : ∀ x ∈ b, x < 256) (h3 : n ≤ 549755813888) (hc : n ≤ c) (lc : c ≤ 9223372036854775807) (p : List Nat) (dn : Nat) (hd : decL b = (p, dn, 0)) (x y z m : Nat) (r1 : List Nat) (h4 : numsL 4 p = some ([x, y, z, m], r1))
    (hbad : 2147483647 < x ∨ x ≤ 2147483647 ∧ (2147483647 < y ∨ y ≤ 2147483647 ∧ (2147483647 < z ∨ z ≤ 2147483647 ∧ 64 < m))) :
    Calls Try.prog 15 #[.slice A n c] w fun e w' => ∃ N D, e = .returned (.tuple #[.agg #[.int .i64 ((wdecL b).1.1 : Nat), .int .i64 ((wdecL b).1.2.1 : Nat), .int .i64 ((wdecL b).1.2.2.1 : Nat), N, D], .int .i64 ((wdecL b).2.1 : Nat), .int .i64 ((wdecL b).2.2 : Nat)]) ∧
      IsI w' N (wdecL b).1.2.2.2.1 ∧ IsB w' D (wdecL b).1.2.2.2.2 ∧ Below w.heap.size w w' := by
  have nb : Below w.heap.size w (w.alloc (.cells #[.int .i64 0, .int .i64 0, .int .i64 0, .slice none 0 0, .slice none 0 0] 25)) := (Below.refl _ _).alloc (Nat.le_refl _) _
  have b2 := Blk.new (B := w.heap.size) w 25 #[.int .i64 0, .int .i64 0, .int .i64 0, .slice none 0 0, .slice none 0 0] (Nat.le_refl _)
  obtain ⟨w1, hw1⟩ : ∃ w1, w1 = w.alloc (.cells #[.int .i64 0, .int .i64 0, .int .i64 0, .slice none 0 0, .slice none 0 0] 25) := ⟨_, rfl⟩
  rw [← hw1] at nb b2
  have hdec := rdecode_any A n c b w1 (hA.keep nb) hn hb h3 hc lc
  rw [hd] at hdec
  have HDEC := hide hdec
  have HW1 := hide hw1
  have NB := hide nb
  have B2 := hide b2
  obtain ⟨g2, hg2⟩ : ∃ g2, g2 = w.heap.size := ⟨_, rfl⟩
  rw [← hg2] at B2
  have HG2 := hide hg2
  have hinv := dec_inv hb hd
  have hbp := hinv.2.2.2.2
  have hpl1 := hinv.2.2.1
  have HBP := hide hbp
  obtain ⟨pl, hpl⟩ : ∃ pl, pl = p.length := ⟨_, rfl⟩
  rw [← hpl] at hpl1
  have HPL := hide hpl
  obtain ⟨mm, hm⟩ : ∃ mm, rmsg p = (mm, none) := ⟨(rmsg p).1, by rw [← ref_bad2 hbp h4 (by omega)]⟩
  rw [wdecL_bad hd hm]
  have H4 := hide h4
  clear hA hn hb hd nb b2 hw1 hdec hg2 hinv hbp hpl hm h4
  rcases hbad with hx | ⟨hx, hy | ⟨hy, hz | ⟨hz, hmm⟩⟩⟩
  all_goals
    go_enter Try.func15, Try.ntmps15
    go_wp2_with fail
    rw [← HW1.out, ← HG2.out]
    refine HDEC.out.mono ?_
    rintro e w2 ⟨s2, rfl, o2, k2⟩
    obtain ⟨A2, c2, rfl, i2, _⟩ := o2.isB.form (n := pl) HPL.out.symm
    have BB := hide (B2.out.keep k2)
    have K2 := hide (below_step NB.out k2)
    have LG : Hid (g2 < w2.heap.size) := BB.out.lt
    have I2 := hide i2
    clear o2 k2 i2
    go_wp2_with fail
    refine (rnums_any A2 pl c2 4 p w2 w2 (Below.refl _ _) I2.out HPL.out.symm HBP.out (by decide) (by omega)).mono ?_
    rintro e w3 ⟨k3, hor⟩
    rcases hor with ⟨hu, _⟩ | ⟨us, r, L, R, hu, rfl, oU, iR⟩
    · rw [H4.out] at hu
      cases hu
    · rw [H4.out] at hu
      simp only [Option.some.injEq, Prod.mk.injEq] at hu
      obtain ⟨rfl, rfl⟩ := hu
      obtain ⟨A4, c4, rfl, _, hc4⟩ := oU.form (n := 4) rfl
      obtain ⟨lb, rfl, l0⟩ := hc4 0 (by decide)
      obtain ⟨_, e1, l1⟩ := hc4 1 (by decide)
      cases e1
      obtain ⟨_, e1, l2⟩ := hc4 2 (by decide)
      cases e1
      obtain ⟨_, e1, l3⟩ := hc4 3 (by decide)
      cases e1
      have l0 : w3.cell? ⟨lb, 0, none⟩ = some (.int .u64 (x : Int)) := l0
      have l1 : w3.cell? ⟨lb, 1, none⟩ = some (.int .u64 (y : Int)) := l1
      have l2 : w3.cell? ⟨lb, 2, none⟩ = some (.int .u64 (z : Int)) := l2
      have l3 : w3.cell? ⟨lb, 3, none⟩ = some (.int .u64 (m : Int)) := l3
      have y0 : w3.cell? ⟨g2, 0, none⟩ = some (.int .i64 0) := (BB.out.keep k3).cell 0
      have y1 : w3.cell? ⟨g2, 1, none⟩ = some (.int .i64 0) := (BB.out.keep k3).cell 1
      have y2 : w3.cell? ⟨g2, 2, none⟩ = some (.int .i64 0) := (BB.out.keep k3).cell 2
      have y3 : w3.cell? ⟨g2, 3, none⟩ = some (.slice none 0 0) := (BB.out.keep k3).cell 3
      have y4 : w3.cell? ⟨g2, 4, none⟩ = some (.slice none 0 0) := (BB.out.keep k3).cell 4
      have z0 := (BB.out.keep k3).frozen 0
      have z1 := (BB.out.keep k3).frozen 1
      have z2 := (BB.out.keep k3).frozen 2
      have z3 := (BB.out.keep k3).frozen 3
      have z4 := (BB.out.keep k3).frozen 4
      have B3 := hide (BB.out.keep k3)
      have K3 := hide (below_step K2.out k3)
      clear k3 hc4 oU iR
      go_wp2_with fail
      obtain ⟨W8, hW8⟩ : ∃ W8, W8 = setMsg w3 g2 0 0 0 (.slice none 0 0) (.slice none 0 0) := ⟨_, rfl⟩
      have gr8 := setMsg_grown w3 g2 0 0 0 (.slice none 0 0) (.slice none 0 0)
      have b8 := setMsg_blk B3.out rfl 0 0 0 (.slice none 0 0) (.slice none 0 0)
      rw [← hW8] at gr8 b8
      unfold setMsg at hW8
      rw [← hW8]
      obtain ⟨q0, q1, q2, q3, q4⟩ := b8.msgAt
      refine bodyPost_ret (v := .tuple #[.agg #[.int .i64 0, .int .i64 0, .int .i64 0, .slice none 0 0, .slice none 0 0], .int .i64 0, .int .i64 3]) (by simp [results, Try.results15, go_sem, q0, q1, q2, q3, q4]) rfl ⟨_, _, rfl, isI_nil _, isB_none _, below_grown K3.out gr8 (Nat.le_refl _) (fun k e => by cases e; exact Nat.le_of_eq HG2.out.symm)⟩
end Go.Proofs.Ytjchpnmipmplkaa
