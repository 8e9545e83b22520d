/- The contracts of the reader's numbers with a bound, of its signed ones, and of its data. Condition: as in the reader's. -/
import Derived.Test.YtjchpnmipmplkaaReader
namespace Go.Proofs.Ytjchpnmipmplkaa
open Go.RowKit
set_option maxHeartbeats 800000 in
theorem upto_any (B g most : Nat) (st : Option (List Nat)) (w : World) (h : RS w B g st) (hm : most ≤ 2147483647) :
    Calls Try.prog 38 #[.pointer (some ⟨g, 0, none⟩), .int .i64 (most : Int)] w fun e w' => e = .returned (.int .i64 ((rup most st).1 : Nat)) ∧ RS w' B g (rup most st).2 ∧ w.grownBy w' (some g) := by
  obtain ⟨v, st1, hv⟩ : ∃ v st1, rnum st = (v, st1) := ⟨_, _, rfl⟩
  have hn := number_any B g st w h
  have hlt := rnum_lt st
  rw [hv] at hn hlt
  simp only at hn hlt
  have HN := hide hn
  by_cases hle : v ≤ most
  · have hr : rup most st = (v, st1) := by unfold rup; rw [hv, if_pos hle]
    rw [hr]
    clear hn hv hr h
    go_enter Try.func38, Try.ntmps38
    go_wp2_with fail
    refine HN.out.mono ?_
    rintro e w1 ⟨rfl, hr1, hg1⟩
    have R1 := hide hr1
    have G1 := hide hg1
    clear hr1 hg1
    go_wp2_with fail
    go_ret
    exact ⟨rfl, R1.out, G1.out⟩
  · have hr : rup most st = (0, none) := by unfold rup; rw [hv, if_neg hle]
    rw [hr]
    clear hn hv hr h
    go_enter Try.func38, Try.ntmps38
    go_wp2_with fail
    refine HN.out.mono ?_
    rintro e w1 ⟨rfl, hr1, hg1⟩
    obtain ⟨V, er, hB, _⟩ := id hr1
    have c1 : w1.cell? ⟨g, 1, none⟩ = some (.int .i64 er) := hB.cell 1
    have f1 := hB.frozen 1
    have R1 := hide hr1.fail
    have G1 := hide (hg1.trans (grown_set w1 g 1 (.int .i64 3)))
    clear hr1 hg1 hB
    go_wp2_with fail
    go_ret
    exact ⟨rfl, R1.out, G1.out⟩
set_option maxHeartbeats 800000 in
theorem signed_any (B g : Nat) (st : Option (List Nat)) (w : World) (h : RS w B g st) :
    Calls Try.prog 39 #[.pointer (some ⟨g, 0, none⟩)] w fun e w' => e = .returned (.int .i64 (rsig st).1) ∧ RS w' B g (rsig st).2 ∧ w.grownBy w' (some g) := by
  obtain ⟨v, st1, hv⟩ : ∃ v st1, rnum st = (v, st1) := ⟨_, _, rfl⟩
  have hn := number_any B g st w h
  have hlt := rnum_lt st
  rw [hv] at hn hlt
  simp only at hn hlt
  have hr : rsig st = (zagS (v : Int), st1) := by unfold rsig; rw [hv]
  rw [hr]
  simp only
  have HN := hide hn
  obtain ⟨hz0, hz1⟩ := zag_wf v hlt
  obtain ⟨z, hz⟩ : ∃ z, zagS (v : Int) = z := ⟨_, rfl⟩
  rw [hz] at hz0 hz1 ⊢
  have HZ := hide hz
  have hne : (z != z) = false := by simp
  clear hn hv hr h hz
  go_enter Try.func39, Try.ntmps39
  go_wp2_with fail
  refine HN.out.mono ?_
  rintro e w1 ⟨rfl, hr1, hg1⟩
  have R1 := hide hr1
  have G1 := hide hg1
  clear hr1 hg1
  go_wp2_with fail
  refine (zag_any (v : Int) _ (by omega) (by omega)).mono ?_
  rintro e w2 ⟨rfl, rfl⟩
  rw [HZ.out]
  go_wp2_with fail
  go_ret
  exact ⟨rfl, R1.out, G1.out⟩
set_option maxHeartbeats 1600000 in
theorem data_any (B g : Nat) (st : Option (List Nat)) (w : World) (h : RS w B g st) :
    Calls Try.prog 40 #[.pointer (some ⟨g, 0, none⟩)] w fun e w' => ∃ v, e = .returned v ∧ Piece w' B v (rdat st).1 ∧ RS w' B g (rdat st).2 ∧ w.grownBy w' (some g) := by
  obtain ⟨n, st1, hv⟩ : ∃ n st1, rup 1047552 st = (n, st1) := ⟨_, _, rfl⟩
  have hn := upto_any B g 1047552 st w h (by decide)
  rw [hv] at hn
  simp only at hn
  have HN := hide hn
  rcases st1 with _ | xs
  · have hr : rdat st = ([], none) := by unfold rdat; rw [hv]
    rw [hr]
    clear hn hv hr h
    go_enter Try.func40, Try.ntmps40
    go_wp2_with fail
    refine HN.out.mono ?_
    rintro e w1 ⟨rfl, hr1, hg1⟩
    obtain ⟨V, er, hB, hm⟩ := id hr1
    obtain rfl : er = 3 := hm
    have c1 : w1.cell? ⟨g, 1, none⟩ = some (.int .i64 3) := hB.cell 1
    have R1 := hide hr1
    have G1 := hide hg1
    clear hr1 hg1 hB
    go_wp2_with fail
    go_ret
    exact ⟨_, rfl, Piece.nil _ _, R1.out, G1.out⟩
  · obtain ⟨m, hm⟩ : ∃ m, m = xs.length := ⟨_, rfl⟩
    by_cases hnm : n = m
    · have hr : rdat st = (xs, some []) := by unfold rdat; rw [hv]; simp only; rw [if_pos (by rw [← hm]; exact hnm)]
      rw [hr]
      subst hnm
      have HM := hide hm
      have hne : ((n : Int) != (n : Int)) = false := by simp
      clear hn hv hr h hm
      go_enter Try.func40, Try.ntmps40
      go_wp2_with fail
      refine HN.out.mono ?_
      rintro e w1 ⟨rfl, hr1, hg1⟩
      obtain ⟨V, er, hB, hmm⟩ := id hr1
      obtain ⟨rfl, hp, _, _⟩ := hmm
      obtain ⟨A, c, hV, _⟩ := hp.isB.form (n := n) HM.out.symm
      subst hV
      have c0 : w1.cell? ⟨g, 0, none⟩ = some (.slice A n c) := hB.cell 0
      have c1 : w1.cell? ⟨g, 1, none⟩ = some (.int .i64 0) := hB.cell 1
      have f0 := hB.frozen 0
      have P2 := hide (hp.apart hB (by decide) (grown_set w1 g 0 (.slice none 0 0)))
      have R2 : Hid (RS (w1.setCell ⟨g, 0, none⟩ (.slice none 0 0)) B g (some [])) := ⟨_, 0, hB.stored 0 _, rfl, Piece.nil _ _, by simp, by simp⟩
      have G2 := hide (hg1.trans (grown_set w1 g 0 (.slice none 0 0)))
      clear hr1 hg1 hB hp
      go_wp2_with fail
      go_ret
      exact ⟨_, rfl, P2.out, R2.out, G2.out⟩
    · have hr : rdat st = ([], none) := by unfold rdat; rw [hv]; simp only; rw [if_neg (by rw [← hm]; exact hnm)]
      rw [hr]
      have HM := hide hm
      have hne : ((n : Int) != (m : Int)) = true := by simp; omega
      clear hn hv hr h hm hnm
      go_enter Try.func40, Try.ntmps40
      go_wp2_with fail
      refine HN.out.mono ?_
      rintro e w1 ⟨rfl, hr1, hg1⟩
      obtain ⟨V, er, hB, hmm⟩ := id hr1
      obtain ⟨rfl, hp, _, _⟩ := hmm
      obtain ⟨A, c, hV, _⟩ := hp.isB.form (n := m) HM.out.symm
      subst hV
      have c0 : w1.cell? ⟨g, 0, none⟩ = some (.slice A m c) := hB.cell 0
      have c1 : w1.cell? ⟨g, 1, none⟩ = some (.int .i64 0) := hB.cell 1
      have f1 := hB.frozen 1
      have R2 := hide hr1.fail
      have G2 := hide (hg1.trans (grown_set w1 g 1 (.int .i64 3)))
      clear hr1 hg1 hB hp
      go_wp2_with fail
      go_ret
      exact ⟨_, rfl, Piece.nil _ _, R2.out, G2.out⟩
end Go.Proofs.Ytjchpnmipmplkaa
