/- The contract of the law's own 'messages', where both are the same. Condition: no row is longer than a slice may be. -/
import Derived.Test.YtdhamhaadclhkaaSame
import Derived.Test.YtdhamhaadclhkaaMsgAt
import Derived.Test.YtdhamhaadclhkaaIsI
namespace Go.Proofs.Ytdhamhaadclhkaa
open Go.RowKit
set_option maxHeartbeats 1600000 in
theorem messages_same (f t k : Int) (A A' M M' : Option Addr) (n c c' len cap cap' : Nat) (zs : List Int) (d : List Nat) (w : World) (hN : IsI w (.slice A n c) zs) (hN' : IsI w (.slice A' n c') zs) (hD : IsB w (.slice M len cap) d) (hD' : IsB w (.slice M' len cap') d) (hl : d.length = len) (ll : len ≤ 9223372036854775807) :
    Calls Try.prog 27 #[.agg #[.int .i64 f, .int .i64 t, .int .i64 k, .slice A n c, .slice M len cap], .agg #[.int .i64 f, .int .i64 t, .int .i64 k, .slice A' n c', .slice M' len cap']] w fun e w' => e = .returned (.bool true) ∧ Below w.heap.size w w' := by
  have hn : zs.length = n := hN.len
  have hn63 : n ≤ 9223372036854775807 := by have := hN.caps; omega
  have e1 : (f != f) = false := by simp
  have e2 : (t != t) = false := by simp
  have e3 : (k != k) = false := by simp
  have e4 : ((n : Int) != (n : Int)) = false := by simp
  have k1 : Below w.heap.size w (w.alloc (.cells #[.int .i64 f, .int .i64 t, .int .i64 k, .slice A n c, .slice M len cap] 45)) := (Below.refl _ _).alloc (Nat.le_refl _) _
  have m1 := msgAt_new w 45 f t k (.slice A n c) (.slice M len cap)
  obtain ⟨w1, hw1⟩ : ∃ w1, w1 = w.alloc (.cells #[.int .i64 f, .int .i64 t, .int .i64 k, .slice A n c, .slice M len cap] 45) := ⟨_, rfl⟩
  have es : w1.heap.size = w.heap.size + 1 := by rw [hw1]; simp
  rw [← hw1] at k1 m1
  have k2 : Below w1.heap.size w1 (w1.alloc (.cells #[.int .i64 f, .int .i64 t, .int .i64 k, .slice A' n c', .slice M' len cap'] 45)) := (Below.refl _ _).alloc (Nat.le_refl _) _
  have m2 := msgAt_new w1 45 f t k (.slice A' n c') (.slice M' len cap')
  rw [es] at m2
  have m1' := m1.keep k2
  obtain ⟨w2, hw2⟩ : ∃ w2, w2 = w1.alloc (.cells #[.int .i64 f, .int .i64 t, .int .i64 k, .slice A' n c', .slice M' len cap'] 45) := ⟨_, rfl⟩
  rw [← hw2] at k2 m2 m1'
  have IN := hide ((hN.keep k1).keep k2).rd
  have IN' := hide ((hN'.keep k1).keep k2).rd
  have ID := hide ((hD.keep k1).keep k2).rd
  have ID' := hide ((hD'.keep k1).keep k2).rd
  have HL := hide hl
  have HN := hide hn
  have K2 := hide (below_step k1 k2)
  have HW := hide (show w2 = (w.alloc (.cells #[.int .i64 f, .int .i64 t, .int .i64 k, .slice A n c, .slice M len cap] 45)).alloc (.cells #[.int .i64 f, .int .i64 t, .int .i64 k, .slice A' n c', .slice M' len cap'] 45) by rw [hw2, hw1])
  obtain ⟨p3, p4⟩ := And.intro m1'.c3 m1'.c4
  obtain ⟨q3, q4⟩ := And.intro m2.c3 m2.c4
  clear hN hN' hD hD' hl hn hw1 hw2 k1 k2 m1 m1' m2 es
  go_enter Try.func27, Try.ntmps27
  go_wp2_with fail
  rw [← HW.out]
  go_loopw [5] (fun i wr => ∃ j e : Nat, j ≤ n ∧ i = .int .i64 (j : Int) ∧ wr = w2.drewN e) (fun i _ => n - (intOf i).toNat)
  case atStart => exact ⟨0, 0, Nat.zero_le _, rfl, rfl⟩
  case round =>
    obtain ⟨j, e, hj, rfl, rfl⟩ := hrel
    by_cases hlt : j < n
    · obtain ⟨b1, o1, rfl, r1⟩ := IN.out (by intro e; have := HN.out; rw [e] at this; simp at this; omega)
      obtain ⟨b2, o2, rfl, r2⟩ := IN'.out (by intro e; have := HN.out; rw [e] at this; simp at this; omega)
      have x1 := r1 j (by rw [HN.out]; exact hlt)
      have x2 := r2 j (by rw [HN.out]; exact hlt)
      obtain ⟨z, hz⟩ : ∃ z, z = zs.getD j 0 := ⟨_, rfl⟩
      rw [← hz] at x1 x2
      have e5 : (z != z) = false := by simp
      have j1 : (j : Int) < (n : Int) := by omega
      clear r1 r2 hz
      go_wp2_with fail
      go_quiet (fail)
      go_wp2_with fail
      go_roundw
      case rel => exact ⟨j + 1, _, by omega, by go_num, rfl⟩
      case measure => simp [intOf]; omega
    · go_wp2_with fail
      refine (same_any M M' len len cap cap' d d _ (ID.out.drewN e) (ID'.out.drewN e) HL.out.symm HL.out.symm ll ll).mono ?_
      rintro e9 w9 ⟨rfl, d9, rfl⟩
      rw [decide_eq_true rfl]
      go_wp2_with fail
      go_ret
      exact ⟨rfl, below_draw K2.out (e + d9)⟩
end Go.Proofs.Ytdhamhaadclhkaa
