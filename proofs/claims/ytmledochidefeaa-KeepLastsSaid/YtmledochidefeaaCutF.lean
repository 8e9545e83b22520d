/- The contract of the disk's own cut: a file's first bytes, anew. Condition: it has so many, and no more than a disk may hold. -/
import Derived.Test.YtmledochidefeaaDrop
namespace Go.Proofs.Ytmledochidefeaa
open Go.RowKit
set_option maxRecDepth 100000 in
set_option maxHeartbeats 1600000 in
theorem cutF_any (A : Option Addr) (n c l k : Nat) (xs : List Nat) (w : World) (hA : IsB w (.slice A n c) xs) (hn : xs.length = n) (hk : k ≤ n) (h3 : n ≤ 1099511627776) :
    Calls Try.prog 35 #[.agg #[.slice A n c, .int .i64 (l : Int)], .int .i64 (k : Int)] w fun e w' => ∃ A' c', e = .returned (.agg #[.slice A' k c', .int .i64 ((min l k : Nat) : Int)]) ∧ Own w' w.heap.size (.slice A' k c') (xs.take k) ∧ Below w.heap.size w w' := by
  have HA := hide hA
  have HN := hide hn
  have hc := hA.form (n := n) hn
  obtain ⟨_, _, e, hi, hnc, hc63⟩ := hc
  cases e
  clear hi
  have hkc : (k : Int) ≤ (c : Int) := by omega
  have HT : Hid ((xs.take k).length = k) := by unfold Hid; rw [List.length_take]; omega
  clear hA hn
  go_enter Try.func35, Try.ntmps35
  go_wp2_with fail
  have k1 := below_alloc w (.cells #[.slice A n c, .int .i64 (l : Int)] 77)
  have b1 := Blk.new (B := 0) w 77 #[.slice A n c, .int .i64 (l : Int)] (Nat.zero_le _)
  have k2 := below_alloc (w.alloc (.cells #[.slice A n c, .int .i64 (l : Int)] 77)) (.cells #[.slice none 0 0, .int .i64 0] 77)
  have b2 := Blk.new (B := 0) (w.alloc (.cells #[.slice A n c, .int .i64 (l : Int)] 77)) 77 #[.slice none 0 0, .int .i64 0] (Nat.zero_le _)
  have e1 : (w.alloc (.cells #[.slice A n c, .int .i64 (l : Int)] 77)).heap.size = w.heap.size + 1 := by simp
  rw [e1] at b2
  have b1 := b1.keep k2
  obtain ⟨W2, hW2⟩ : ∃ W2, W2 = (w.alloc (.cells #[.slice A n c, .int .i64 (l : Int)] 77)).alloc (.cells #[.slice none 0 0, .int .i64 0] 77) := ⟨_, rfl⟩
  have K2 := below_step k1 k2
  rw [← hW2] at b1 b2 K2 ⊢
  have HW2 := hide hW2
  clear hW2 e1 k1 k2
  have f0 : W2.cell? ⟨w.heap.size, 0, none⟩ = some (.slice A n c) := b1.cell 0
  have f1 : W2.cell? ⟨w.heap.size, 1, none⟩ = some (.int .i64 (l : Int)) := b1.cell 1
  have q0 : W2.cell? ⟨w.heap.size + 1, 0, none⟩ = some (.slice none 0 0) := b2.cell 0
  have q1 : W2.cell? ⟨w.heap.size + 1, 1, none⟩ = some (.int .i64 0) := b2.cell 1
  have HB2 := hide b2
  have KK := hide K2
  have IT := hide ((HA.out.keep K2).take k hk)
  clear b1 b2 K2
  go_region_with (go_at_call 54; refine (clone_any A k c (xs.take k) _ (by exact IT.out) HT.out (by omega)).mono ?_; rintro e w5 ⟨s5, rfl, o5, k5⟩; obtain ⟨A5, c5, rfl, i5, l5, m5⟩ := o5.isB.form (n := k) HT.out; have K5 : Below W2.heap.size W2 w5 := ⟨k5.os, k5.tape, k5.output, k5.size, k5.block⟩; have f05 := (K5.cell (cell_lt f0)).trans f0; have f15 := (K5.cell (cell_lt f1)).trans f1; have q05 := (K5.cell (cell_lt q0)).trans q0; have q15 := (K5.cell (cell_lt q1)).trans q1; have B5 := HB2.out.keep K5; have z0 := B5.frozen 0; have z1 := B5.frozen 1)
  all_goals
    have B7 := (B5.stored 0 (.slice A5 k c5)).stored 1 (.int .i64 (min (l : Int) (k : Int)))
    have g7 : w5.grownBy ((w5.setCell ⟨w.heap.size + 1, 0, none⟩ (.slice A5 k c5)).setCell ⟨w.heap.size + 1, 1, none⟩ (.int .i64 (min (l : Int) (k : Int)))) (some (w.heap.size + 1)) := (grown_set w5 _ 0 _).trans (grown_set _ _ 1 _)
    have o7 : Own ((w5.setCell ⟨w.heap.size + 1, 0, none⟩ (.slice A5 k c5)).setCell ⟨w.heap.size + 1, 1, none⟩ (.int .i64 (min (l : Int) (k : Int)))) w.heap.size (.slice A5 k c5) (xs.take k) := by
      refine Own.turn (o5.more (by exact KK.out.size)) (Turn.of_grown g7) ?_
      intro g hg e
      have e : g = w.heap.size + 1 := by simpa using e
      subst e
      have h1 := (o5.lt _ hg).1
      have h2 := HB2.out.lt
      have h3 : W2.drew.heap.size = W2.heap.size := rfl
      omega
    have K7 : Below w.heap.size w ((w5.setCell ⟨w.heap.size + 1, 0, none⟩ (.slice A5 k c5)).setCell ⟨w.heap.size + 1, 1, none⟩ (.int .i64 (min (l : Int) (k : Int)))) :=
      ((below_step KK.out K5)).grown g7 (Nat.le_trans KK.out.size K5.size) (fun j e => by cases e; omega)
    obtain ⟨W7, hW7⟩ : ∃ W7, W7 = ((w5.setCell ⟨w.heap.size + 1, 0, none⟩ (.slice A5 k c5)).setCell ⟨w.heap.size + 1, 1, none⟩ (.int .i64 (min (l : Int) (k : Int)))) := ⟨_, rfl⟩
    rw [← hW7] at B7 o7 K7 ⊢
    clear f05 f15 q05 q15 z0 z1 f0 f1 q0 q1 hW7 g7 k5
    have x0 : W7.cell? ⟨w.heap.size + 1, 0, none⟩ = some (.slice A5 k c5) := B7.cell 0
    have x1 : W7.cell? ⟨w.heap.size + 1, 1, none⟩ = some (.int .i64 (min (l : Int) (k : Int))) := B7.cell 1
    go_wp2_with fail
    have em : ((min l k : Nat) : Int) = min (l : Int) (k : Int) := by omega
    rw [em]
    refine bodyPost_ret (v := .agg #[.slice A5 k c5, .int .i64 (min (l : Int) (k : Int))]) (by simp [results, Try.results35, go_sem, x0, x1]) rfl ⟨A5, c5, rfl, o7, K7⟩
end Go.Proofs.Ytmledochidefeaa
