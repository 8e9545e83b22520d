/- The contracts of the law's own 'messages', where both are the same, and 'known'. Condition: no row is longer than a slice may be. -/
import Derived.Test.YtjchpnmipmplkaaSame
import Derived.Test.YtjchpnmipmplkaaEnc
import Derived.Test.YtjchpnmipmplkaaWrong
import Derived.Lib.SlBytesConst
namespace Go.Proofs.Ytjchpnmipmplkaa
open Go.RowKit
set_option maxHeartbeats 1600000 in
theorem messages_same (f t k : Int) (A A' M M' : Option Addr) (n c c' len cap cap' : Nat) (zs : List Int) (d : List Nat) (w : World) (hN : IsI w (.slice A n c) zs) (hN' : IsI w (.slice A' n c') zs) (hD : IsB w (.slice M len cap) d) (hD' : IsB w (.slice M' len cap') d) (hl : d.length = len) (ll : len ≤ 9223372036854775807) :
    Calls Try.prog 16 #[.agg #[.int .i64 f, .int .i64 t, .int .i64 k, .slice A n c, .slice M len cap], .agg #[.int .i64 f, .int .i64 t, .int .i64 k, .slice A' n c', .slice M' len cap']] w fun e w' => e = .returned (.bool true) ∧ Below w.heap.size w w' := by
  have hn : zs.length = n := hN.len
  have hn63 : n ≤ 9223372036854775807 := by have := hN.caps; omega
  have e1 : (f != f) = false := by simp
  have e2 : (t != t) = false := by simp
  have e3 : (k != k) = false := by simp
  have e4 : ((n : Int) != (n : Int)) = false := by simp
  have k1 : Below w.heap.size w (w.alloc (.cells #[.int .i64 f, .int .i64 t, .int .i64 k, .slice A n c, .slice M len cap] 25)) := (Below.refl _ _).alloc (Nat.le_refl _) _
  have m1 := msgAt_new w 25 f t k (.slice A n c) (.slice M len cap)
  obtain ⟨w1, hw1⟩ : ∃ w1, w1 = w.alloc (.cells #[.int .i64 f, .int .i64 t, .int .i64 k, .slice A n c, .slice M len cap] 25) := ⟨_, rfl⟩
  have es : w1.heap.size = w.heap.size + 1 := by rw [hw1]; simp
  rw [← hw1] at k1 m1
  have k2 : Below w1.heap.size w1 (w1.alloc (.cells #[.int .i64 f, .int .i64 t, .int .i64 k, .slice A' n c', .slice M' len cap'] 25)) := (Below.refl _ _).alloc (Nat.le_refl _) _
  have m2 := msgAt_new w1 25 f t k (.slice A' n c') (.slice M' len cap')
  rw [es] at m2
  have m1' := m1.keep k2
  obtain ⟨w2, hw2⟩ : ∃ w2, w2 = w1.alloc (.cells #[.int .i64 f, .int .i64 t, .int .i64 k, .slice A' n c', .slice M' len cap'] 25) := ⟨_, rfl⟩
  rw [← hw2] at k2 m2 m1'
  have IN := hide ((hN.keep k1).keep k2).rd
  have IN' := hide ((hN'.keep k1).keep k2).rd
  have ID := hide ((hD.keep k1).keep k2).rd
  have ID' := hide ((hD'.keep k1).keep k2).rd
  have HL := hide hl
  have HN := hide hn
  have K2 := hide (below_step k1 k2)
  have HW := hide (show w2 = (w.alloc (.cells #[.int .i64 f, .int .i64 t, .int .i64 k, .slice A n c, .slice M len cap] 25)).alloc (.cells #[.int .i64 f, .int .i64 t, .int .i64 k, .slice A' n c', .slice M' len cap'] 25) by rw [hw2, hw1])
  obtain ⟨p3, p4⟩ := And.intro m1'.c3 m1'.c4
  obtain ⟨q3, q4⟩ := And.intro m2.c3 m2.c4
  clear hN hN' hD hD' hl hn hw1 hw2 k1 k2 m1 m1' m2 es
  go_enter Try.func16, Try.ntmps16
  go_wp2_with fail
  rw [← HW.out]
  go_loopw [5] (fun i wr => ∃ j e : Nat, j ≤ n ∧ i = .int .i64 (j : Int) ∧ wr = w2.drewN e) (fun i _ => n - (intOf i).toNat)
  case atStart => exact ⟨0, 0, Nat.zero_le _, rfl, rfl⟩
  case round =>
    obtain ⟨j, e, hj, rfl, rfl⟩ := hrel
    by_cases hlt : j < n
    · obtain ⟨b1, o1, rfl, r1⟩ := IN.out (by intro e; have := HN.out; rw [e] at this; simp at this; omega)
      obtain ⟨b2, o2, rfl, r2⟩ := IN'.out (by intro e; have := HN.out; rw [e] at this; simp at this; omega)
      have x1 := r1 j (by rw [HN.out]; exact hlt)
      have x2 := r2 j (by rw [HN.out]; exact hlt)
      obtain ⟨z, hz⟩ : ∃ z, z = zs.getD j 0 := ⟨_, rfl⟩
      rw [← hz] at x1 x2
      have e5 : (z != z) = false := by simp
      have j1 : (j : Int) < (n : Int) := by omega
      clear r1 r2 hz
      go_wp2_with fail
      go_quiet (fail)
      go_wp2_with fail
      go_roundw
      case rel => exact ⟨j + 1, _, by omega, by go_num, rfl⟩
      case measure => simp [intOf]; omega
    · go_wp2_with fail
      refine (same_any M M' len len cap cap' d d _ (ID.out.drewN e) (ID'.out.drewN e) HL.out.symm HL.out.symm ll ll).mono ?_
      rintro e9 w9 ⟨rfl, d9, rfl⟩
      rw [decide_eq_true rfl]
      go_wp2_with fail
      go_ret
      exact ⟨rfl, below_draw K2.out (e + d9)⟩
theorem frame_drop (p : List Nat) : (frameL p).drop 8 = p := by
  unfold frameL
  rw [List.drop_left' (by rw [List.length_append, be32_len, be32_len])]
theorem known_body : bodyL (1, 2, 3, [-1, 300], [97, 98]) = [1, 2, 3, 2, 1, 216, 4, 2, 97, 98] := by
  have h1 : uvl 1 = [1] := uvl_low (by decide)
  have h2 : uvl 2 = [2] := uvl_low (by decide)
  have h3 : uvl 3 = [3] := uvl_low (by decide)
  have h600 : uvl 600 = [216, 4] := by rw [uvl_high (by decide), uvl_low (by decide)]
  unfold bodyL
  have z1 : (zigS (-1)).toNat = 1 := by decide
  have z2 : (zigS 300).toNat = 600 := by decide
  simp only [List.map_cons, List.map_nil, z1, z2, h1, h2, h3, h600, List.length_cons, List.length_nil]
  rfl
theorem const_bytes (w : World) (C : Array Value) (n c b : Nat) (hb : b = w.heap.size) :
    (convert 23 23 (.slice (some ⟨b, 0, none⟩) n c)).run Try.prog (w.alloc (.cells C 5)) = .ok (.slice (some ⟨b, 0, none⟩) n c) (w.alloc (.cells C 5 (C.size, C.size + 1))) := by
  subst hb
  exact Lib.run_convert_bytes_const (P := Try.prog) w 23 5 C n c Try.underlying23 Try.underlying5
set_option maxHeartbeats 800000 in
theorem known_any (w : World) : Calls Try.prog 13 #[] w fun e w' => e = .returned (.bool true) ∧ Below w.heap.size w w' := by
  have kc := const_bytes
  go_enter Try.func13, Try.ntmps13
  go_wp2_with fail
  have k1 : Below w.heap.size w (w.alloc (.cells #[.int .i64 (-1), .int .i64 300] 3)) := (Below.refl _ _).alloc (Nat.le_refl _) _
  have k2 : Below w.heap.size w ((w.alloc (.cells #[.int .i64 (-1), .int .i64 300] 3)).alloc (.cells #[.int .u8 97, .int .u8 98] 5 (2, 3))) := k1.alloc k1.size _
  have k12 : Below (w.alloc (.cells #[.int .i64 (-1), .int .i64 300] 3)).heap.size (w.alloc (.cells #[.int .i64 (-1), .int .i64 300] 3)) ((w.alloc (.cells #[.int .i64 (-1), .int .i64 300] 3)).alloc (.cells #[.int .u8 97, .int .u8 98] 5 (2, 3))) := (Below.refl _ _).alloc (Nat.le_refl _) _
  have iN := (isI_new w #[.int .i64 (-1), .int .i64 300] 3 (0, 0) [-1, 300] _ 2 rfl rfl rfl (by decide)).keep k12
  have iD : IsB ((w.alloc (.cells #[.int .i64 (-1), .int .i64 300] 3)).alloc (.cells #[.int .u8 97, .int .u8 98] 5 (2, 3))) (.slice (some ⟨w.heap.size + 1, 0, none⟩) 2 2) [97, 98] :=
    ⟨_, 2, rfl, rd_new _ _ _ (2, 3) [97, 98] _ (by simp) rfl, (fun h => by cases h), Nat.le_refl _, by decide⟩
  have hv : ValidM (1, 2, 3, [-1, 300], [97, 98]) := ⟨by decide, by decide, by decide, by decide, by intro z hz; simp at hz; omega, by decide⟩
  have he := wenc_ok 1 2 3 _ _ 2 2 2 2 [-1, 300] [97, 98] _ iN iD rfl (by intro x hx; simp at hx; omega) hv
  rw [known_body] at he
  refine he.mono ?_
  rintro e w3 ⟨s3, rfl, o3, k3⟩
  have hl : (frameL [1, 2, 3, 2, 1, 216, 4, 2, 97, 98]).length = 18 := frame_len _
  obtain ⟨g, c1, rfl, _, hc, hc2, _, _⟩ := o3.at_ (n := 18) hl (by decide)
  have i8 := o3.isB.drop 8 10 (c1 - 8) rfl rfl (by decide)
  rw [frame_drop] at i8
  have I8 := hide i8
  have K3 := hide (k2.trans (k3.mono k2.size))
  have hc8 : ¬ c1 = 8 := by omega
  have hc18 : (18 : Int) ≤ (c1 : Int) := by omega
  have hc88 : (8 : Int) ≤ (c1 : Int) := by omega
  clear k1 k2 k12 iN iD hv he o3 k3 hl i8
  go_wp2_with fail
  refine (same_any _ _ 10 10 _ _ [1, 2, 3, 2, 1, 216, 4, 2, 97, 98] [1, 2, 3, 2, 1, 216, 4, 2, 97, 98] _ (I8.out.rd.below ((Below.refl _ _).alloc (Nat.le_refl _) _)) (rd_new _ _ _ _ _ _ rfl rfl) rfl rfl (by decide) (by decide)).mono ?_
  rintro e w4 ⟨rfl, d, rfl⟩
  rw [decide_eq_true rfl]
  go_wp2_with fail
  go_ret
  exact ⟨rfl, below_drewN (K3.out.alloc K3.out.size _) d⟩
end Go.Proofs.Ytjchpnmipmplkaa
