/- The contracts of a node's Hear at a message of an older term. Condition: the message is meant. -/
import Derived.Test.YtejhoefmcldpnaaGreatRk41
namespace Go.Proofs.YtejhoefmcldpnaaGreat
open Go.RowKit Go.Maps
set_option maxRecDepth 100000 in
set_option maxHeartbeats 6400000 in
theorem hear_old1 {w : World} {S : Nat → Prop} {r d l room : Nat} {N : Nd} {M : LogL} {L : DiskL} (h : NdS w S r d l room N M L) (f t draw : Int) (g c : Nat) (z0 z1 z2 : Int) (hc : 3 ≤ c) (hN : NumsAt w g [z0, z1, z2]) (hz : okN [z0, z1, z2]) (ht : t = (N.id : Int)) (hf1 : f ≠ (N.id : Int)) (hf2 : 0 ≤ f) (hf3 : f < (N.n : Int)) (hkn : kindN 1 [z0, z1, z2]) (hlt : z0 < (N.term : Int)) :
    Calls Tryz.prog 11 #[.pointer (some ⟨r, 0, none⟩), .agg #[.int .i64 f, .int .i64 t, .int .i64 1, .slice (some ⟨g, 0, none⟩) 3 c, .slice none 0 0], .int .i64 draw] w fun e w' => ∃ v ga, e = .returned v ∧ OneA w' v (N.id : Int) f 2 ga 2 2 ∧ NumsAt w' ga [(N.term : Int), 0] ∧ Below w.heap.size w w' := by
  have hdl : decide ((N.term : Int) < z0) = false := by simp; omega
  have ka := below_alloc w (.cells #[.int .i64 f, .int .i64 t, .int .i64 1, .slice (some ⟨g, 0, none⟩) 3 c, .slice none 0 0] 34)
  have bg := Blk.new w (B := 0) 34 #[.int .i64 f, .int .i64 t, .int .i64 1, .slice (some ⟨g, 0, none⟩) 3 c, .slice none 0 0] (Nat.zero_le _)
  obtain ⟨q, hq⟩ : ∃ q, q = w.heap.size := ⟨_, rfl⟩
  obtain ⟨W, hW⟩ : ∃ W, W = w.alloc (.cells #[.int .i64 f, .int .i64 t, .int .i64 1, .slice (some ⟨g, 0, none⟩) 3 c, .slice none 0 0] 34) := ⟨_, rfl⟩
  have HN0 := h.below ka
  have NN := hN.keep ka
  have HB := hide (fun Z (kz : Below W.heap.size W Z) => (by rw [hW] at kz; exact bg.keep kz : Blk Z 0 34 w.heap.size [.int .i64 f, .int .i64 t, .int .i64 1, .slice (some ⟨g, 0, none⟩) 3 c, .slice none 0 0]))
  rw [← hq] at HB
  rw [← hW] at ka HN0 NN
  have ST := hide (stopped_no HN0)
  have ME := hide (meant_ok HN0 f t 1 g 3 c none 0 0 [z0, z1, z2] rfl hc NN hz ht hf1 hf2 hf3 hkn)
  unfold msgV at ME
  have BW := HB.out W (Below.refl _ _)
  have x0 : W.cell? ⟨q, 0, none⟩ = some (.int .i64 f) := BW.cell 0
  have x1 : W.cell? ⟨q, 1, none⟩ = some (.int .i64 t) := BW.cell 1
  have x2 : W.cell? ⟨q, 2, none⟩ = some (.int .i64 1) := BW.cell 2
  have x3 : W.cell? ⟨q, 3, none⟩ = some (.slice (some ⟨g, 0, none⟩) 3 c) := BW.cell 3
  have x4 : W.cell? ⟨q, 4, none⟩ = some (.slice none 0 0) := BW.cell 4
  have HH := hide HN0
  have HNN := hide NN
  have KA := hide ka
  have HQ : Hid (w.heap.size = q) := hide hq.symm
  obtain ⟨tt, htt⟩ : ∃ z, z = N.term := ⟨_, rfl⟩
  rw [← htt] at hlt hdl
  have HTT := hide htt
  clear h hN hz ht hf1 hf2 hf3 hkn bg HN0 NN ka BW htt
  go_enter Tryz.func11, Tryz.ntmps11
  go_wp2_with fail
  rw [← hW, ← hq]
  clear hW hq
  refine ST.out.mono ?_
  rintro e w0 ⟨rfl, rfl⟩
  clear ST
  go_wp2_with fail
  refine ME.out.mono ?_
  rintro e w1 ⟨rfl, k1⟩
  have B1 := HB.out w1 k1
  have y0 : w1.cell? ⟨q, 0, none⟩ = some (.int .i64 f) := B1.cell 0
  have y1 : w1.cell? ⟨q, 1, none⟩ = some (.int .i64 t) := B1.cell 1
  have y2 : w1.cell? ⟨q, 2, none⟩ = some (.int .i64 1) := B1.cell 2
  have y3 : w1.cell? ⟨q, 3, none⟩ = some (.slice (some ⟨g, 0, none⟩) 3 c) := B1.cell 3
  have y4 : w1.cell? ⟨q, 4, none⟩ = some (.slice none 0 0) := B1.cell 4
  have K1 := hide k1
  have EN := hide (entries_none f t 1 g 3 c none 0 w1)
  unfold msgV at EN
  clear k1 B1 x0 x1 x2 x3 x4 ME
  go_wp2_with fail
  refine EN.out.mono ?_
  rintro e w2 ⟨rfl, k2⟩
  have K2 := hide (K1.out.trans (k2.mono K1.out.size))
  have B2 := HB.out w2 K2.out
  have H2 := hide (HH.out.below K2.out)
  have N2 := hide (HNN.out.keep K2.out)
  have u3 : w2.cell? ⟨q, 3, none⟩ = some (.slice (some ⟨g, 0, none⟩) 3 c) := B2.cell 3
  have u4 : w2.cell? ⟨r, 4, none⟩ = some (.int .i64 (N.term : Int)) := nds_cell H2.out 4
  have u5 : w2.cell? ⟨g, 0, none⟩ = some (.int .i64 z0) := N2.out 0 (by simp)
  rw [← HTT.out] at u4
  clear k2 K1 y0 y1 y2 y3 y4 EN B2 HH HNN
  go_wp2_with fail
  refine heldT_top (fun W' : World => W'.cell? ⟨q, 3, none⟩ = some (.slice (some ⟨g, 0, none⟩) 3 c) ∧ W'.cell? ⟨r, 4, none⟩ = some (.int .i64 (tt : Int)) ∧ W'.cell? ⟨g, 0, none⟩ = some (.int .i64 z0)) 22 #[false, false, false, false, false, false, false, false, false, false, false, false, false, false, false, false, false, false, false, false, false, false] (by kernel_rfl) (by kernel_rfl) (by kernel_rfl) ?_
  have hHeld : (fun W' : World => W'.cell? ⟨q, 3, none⟩ = some (.slice (some ⟨g, 0, none⟩) 3 c) ∧ W'.cell? ⟨r, 4, none⟩ = some (.int .i64 (tt : Int)) ∧ W'.cell? ⟨g, 0, none⟩ = some (.int .i64 z0)) (w2.drewN 1) := ⟨u3, u4, u5⟩
  have H2 := hide (H2.out.below (below_drewN (Below.refl _ _) 1))
  have N2 := hide (N2.out.keep (below_drewN (Below.refl _ _) 1))
  have K2 := hide (K2.out.trans ((below_drewN (Below.refl w2.heap.size w2) 1).mono K2.out.size))
  clear u3 u4 u5
  change wpAnyH _ _ _ _ _ _ _ _ (w2.drewN 1)
  generalize w2.drewN 1 = U at *
  refine' wpAnyH_take (i := 0) (oi := ⟨_, _, _, _, _, _⟩) (v := _) rfl (by kernel_rfl) (by kernel_rfl) (by kernel_rfl) (fun _ _ _ h => h) (Or.inl ⟨rfl, ?_⟩) hHeld ?_
  rotate_left
  · (intro W' hW; (try dsimp only at hW); obtain ⟨z3', z4', z5'⟩ := hW; go_simp; (try with_reducible rfl))
  try simp only [Act.put, List.setIfInBounds_toArray, List.set_cons_zero, List.set_cons_succ]
  refine' wpAnyH_take (i := 1) (oi := ⟨_, _, _, _, _, _⟩) (v := _) rfl (by kernel_rfl) (by kernel_rfl) (by kernel_rfl) (fun _ _ _ h => h) (Or.inl ⟨rfl, ?_⟩) hHeld ?_
  rotate_left
  · (intro W' hW; (try dsimp only at hW); obtain ⟨z3', z4', z5'⟩ := hW; go_simp; (try with_reducible rfl))
  try simp only [Act.put, List.setIfInBounds_toArray, List.set_cons_zero, List.set_cons_succ]
  refine' wpAnyH_take (i := 2) (oi := ⟨_, _, _, _, _, _⟩) (v := _) rfl (by kernel_rfl) (by kernel_rfl) (by kernel_rfl) (fun _ _ _ h => h) (Or.inl ⟨rfl, ?_⟩) hHeld ?_
  rotate_left
  · (intro W' hW; (try dsimp only at hW); obtain ⟨z3', z4', z5'⟩ := hW; go_simp; (try with_reducible rfl))
  try simp only [Act.put, List.setIfInBounds_toArray, List.set_cons_zero, List.set_cons_succ]
  refine' wpAnyH_take (i := 3) (oi := ⟨_, _, _, _, _, _⟩) (v := _) rfl (by kernel_rfl) (by kernel_rfl) (by kernel_rfl) (fun _ _ _ h => h) (Or.inl ⟨rfl, ?_⟩) hHeld ?_
  rotate_left
  · (intro W' hW; (try dsimp only at hW); obtain ⟨z3', z4', z5'⟩ := hW; go_simp; (try with_reducible rfl))
  try simp only [Act.put, List.setIfInBounds_toArray, List.set_cons_zero, List.set_cons_succ]
  refine' wpAnyH_take (i := 4) (oi := ⟨_, _, _, _, _, _⟩) (v := _) rfl (by kernel_rfl) (by kernel_rfl) (by kernel_rfl) (fun _ _ _ h => h) (Or.inl ⟨rfl, ?_⟩) hHeld ?_
  rotate_left
  · (intro W' hW; (try dsimp only at hW); obtain ⟨z3', z4', z5'⟩ := hW; go_simp; (try with_reducible rfl))
  try simp only [Act.put, List.setIfInBounds_toArray, List.set_cons_zero, List.set_cons_succ]
  refine' wpAnyH_take (i := 5) (oi := ⟨_, _, _, _, _, _⟩) (v := _) rfl (by kernel_rfl) (by kernel_rfl) (by kernel_rfl) (fun _ _ _ h => h) (Or.inl ⟨rfl, ?_⟩) hHeld ?_
  rotate_left
  · (intro W' hW; (try dsimp only at hW); obtain ⟨z3', z4', z5'⟩ := hW; go_simp; (try with_reducible rfl))
  try simp only [Act.put, List.setIfInBounds_toArray, List.set_cons_zero, List.set_cons_succ]
  refine' wpAnyH_take (i := 6) (oi := ⟨_, _, _, _, _, _⟩) (v := _) rfl (by kernel_rfl) (by kernel_rfl) (by kernel_rfl) (fun _ _ _ h => h) (Or.inl ⟨rfl, ?_⟩) hHeld ?_
  rotate_left
  · (intro W' hW; (try dsimp only at hW); obtain ⟨z3', z4', z5'⟩ := hW; go_simp; (try with_reducible rfl))
  try simp only [Act.put, List.setIfInBounds_toArray, List.set_cons_zero, List.set_cons_succ]
  refine' wpAnyH_take (i := 7) (oi := ⟨_, _, _, _, _, _⟩) (v := _) rfl (by kernel_rfl) (by kernel_rfl) (by kernel_rfl) (fun _ _ _ h => h) (Or.inl ⟨rfl, ?_⟩) hHeld ?_
  rotate_left
  · (intro W' hW; (try dsimp only at hW); obtain ⟨z3', z4', z5'⟩ := hW; go_simp; (try with_reducible rfl))
  try simp only [Act.put, List.setIfInBounds_toArray, List.set_cons_zero, List.set_cons_succ]
  refine' wpAnyH_take (i := 8) (oi := ⟨_, _, _, _, _, _⟩) (v := _) rfl (by kernel_rfl) (by kernel_rfl) (by kernel_rfl) (fun _ _ _ h => h) (Or.inl ⟨rfl, ?_⟩) hHeld ?_
  rotate_left
  · (intro W' hW; (try dsimp only at hW); obtain ⟨z3', z4', z5'⟩ := hW; go_simp; (try with_reducible rfl))
  try simp only [Act.put, List.setIfInBounds_toArray, List.set_cons_zero, List.set_cons_succ]
  refine' wpAnyH_take (i := 9) (oi := ⟨_, _, _, _, _, _⟩) (v := _) rfl (by kernel_rfl) (by kernel_rfl) (by kernel_rfl) (fun _ _ _ h => h) (Or.inl ⟨rfl, ?_⟩) hHeld ?_
  rotate_left
  · (intro W' hW; (try dsimp only at hW); obtain ⟨z3', z4', z5'⟩ := hW; go_simp; (try with_reducible rfl))
  try simp only [Act.put, List.setIfInBounds_toArray, List.set_cons_zero, List.set_cons_succ]
  refine' wpAnyH_take (i := 10) (oi := ⟨_, _, _, _, _, _⟩) (v := _) rfl (by kernel_rfl) (by kernel_rfl) (by kernel_rfl) (fun _ _ _ h => h) (Or.inl ⟨rfl, ?_⟩) hHeld ?_
  rotate_left
  · (intro W' hW; (try dsimp only at hW); obtain ⟨z3', z4', z5'⟩ := hW; go_simp; (try with_reducible rfl))
  try simp only [Act.put, List.setIfInBounds_toArray, List.set_cons_zero, List.set_cons_succ]
  refine' wpAnyH_take (i := 11) (oi := ⟨_, _, _, _, _, _⟩) (v := _) rfl (by kernel_rfl) (by kernel_rfl) (by kernel_rfl) (fun _ _ _ h => h) (Or.inl ⟨rfl, ?_⟩) hHeld ?_
  rotate_left
  · (intro W' hW; (try dsimp only at hW); obtain ⟨z3', z4', z5'⟩ := hW; go_simp; (try with_reducible rfl))
  try simp only [Act.put, List.setIfInBounds_toArray, List.set_cons_zero, List.set_cons_succ]
  refine' wpAnyH_take (i := 12) (oi := ⟨_, _, _, _, _, _⟩) (v := _) rfl (by kernel_rfl) (by kernel_rfl) (by kernel_rfl) (fun _ _ _ h => h) (Or.inl ⟨rfl, ?_⟩) hHeld ?_
  rotate_left
  · (intro W' hW; (try dsimp only at hW); obtain ⟨z3', z4', z5'⟩ := hW; go_simp; (try with_reducible rfl))
  try simp only [Act.put, List.setIfInBounds_toArray, List.set_cons_zero, List.set_cons_succ]
  refine' wpAnyH_take (i := 13) (oi := ⟨_, _, _, _, _, _⟩) (v := undef) rfl (by kernel_rfl) (by kernel_rfl) (by kernel_rfl) (fun _ _ _ h => h) (Or.inr ⟨rfl, rfl⟩) hHeld ?_
  try simp only [Act.put, List.setIfInBounds_toArray, List.set_cons_zero, List.set_cons_succ]
  refine' wpAnyH_take (i := 14) (oi := ⟨_, _, _, _, _, _⟩) (v := undef) rfl (by kernel_rfl) (by kernel_rfl) (by kernel_rfl) (fun _ _ _ h => h) (Or.inr ⟨rfl, rfl⟩) hHeld ?_
  try simp only [Act.put, List.setIfInBounds_toArray, List.set_cons_zero, List.set_cons_succ]
  refine' wpAnyH_take (i := 15) (oi := ⟨_, _, _, _, _, _⟩) (v := undef) rfl (by kernel_rfl) (by kernel_rfl) (by kernel_rfl) (fun _ _ _ h => h) (Or.inr ⟨rfl, rfl⟩) hHeld ?_
  try simp only [Act.put, List.setIfInBounds_toArray, List.set_cons_zero, List.set_cons_succ]
  refine' wpAnyH_take (i := 16) (oi := ⟨_, _, _, _, _, _⟩) (v := undef) rfl (by kernel_rfl) (by kernel_rfl) (by kernel_rfl) (fun _ _ _ h => h) (Or.inr ⟨rfl, rfl⟩) hHeld ?_
  try simp only [Act.put, List.setIfInBounds_toArray, List.set_cons_zero, List.set_cons_succ]
  refine' wpAnyH_take (i := 17) (oi := ⟨_, _, _, _, _, _⟩) (v := undef) rfl (by kernel_rfl) (by kernel_rfl) (by kernel_rfl) (fun _ _ _ h => h) (Or.inr ⟨rfl, rfl⟩) hHeld ?_
  try simp only [Act.put, List.setIfInBounds_toArray, List.set_cons_zero, List.set_cons_succ]
  refine' wpAnyH_take (i := 18) (oi := ⟨_, _, _, _, _, _⟩) (v := undef) rfl (by kernel_rfl) (by kernel_rfl) (by kernel_rfl) (fun _ _ _ h => h) (Or.inr ⟨rfl, rfl⟩) hHeld ?_
  try simp only [Act.put, List.setIfInBounds_toArray, List.set_cons_zero, List.set_cons_succ]
  refine' wpAnyH_take (i := 19) (oi := ⟨_, _, _, _, _, _⟩) (v := undef) rfl (by kernel_rfl) (by kernel_rfl) (by kernel_rfl) (fun _ _ _ h => h) (Or.inr ⟨rfl, rfl⟩) hHeld ?_
  try simp only [Act.put, List.setIfInBounds_toArray, List.set_cons_zero, List.set_cons_succ]
  refine' wpAnyH_take (i := 20) (oi := ⟨_, _, _, _, _, _⟩) (v := _) rfl (by kernel_rfl) (by kernel_rfl) (by kernel_rfl) (fun _ _ _ h => h) (Or.inl ⟨rfl, ?_⟩) hHeld ?_
  rotate_left
  · (intro W' hW; (try dsimp only at hW); obtain ⟨z3', z4', z5'⟩ := hW; go_simp; (try with_reducible rfl))
  try simp only [Act.put, List.setIfInBounds_toArray, List.set_cons_zero, List.set_cons_succ]
  refine' wpAnyH_take (i := 21) (oi := ⟨_, _, _, _, _, _⟩) (v := _) rfl (by kernel_rfl) (by kernel_rfl) (by kernel_rfl) (fun _ _ _ h => h) (Or.inl ⟨rfl, ?_⟩) hHeld ?_
  rotate_left
  · (intro W' hW; (try dsimp only at hW); obtain ⟨z3', z4', z5'⟩ := hW; go_simp; (try with_reducible rfl))
  try simp only [Act.put, List.setIfInBounds_toArray, List.set_cons_zero, List.set_cons_succ]
  refine wpAnyH_done (by kernel_rfl) ?_ _
  clear hHeld
  have B3 := HB.out U K2.out
  have v0 : U.cell? ⟨q, 0, none⟩ = some (.int .i64 f) := B3.cell 0
  have v1 : U.cell? ⟨q, 1, none⟩ = some (.int .i64 t) := B3.cell 1
  have v2 : U.cell? ⟨q, 2, none⟩ = some (.int .i64 1) := B3.cell 2
  have v3 : U.cell? ⟨q, 3, none⟩ = some (.slice (some ⟨g, 0, none⟩) 3 c) := B3.cell 3
  have v4 : U.cell? ⟨q, 4, none⟩ = some (.slice none 0 0) := B3.cell 4
  have CA := hide (asked_old H2.out f t 1 draw g c none 0 0 z0 z1 z2 N2.out (by rw [← HTT.out]; exact hlt))
  unfold msgV at CA
  rw [HTT.out] at hlt
  clear B3
  go_wp2_with fail
  refine CA.out.mono ?_
  rintro e w5 ⟨v, ga, rfl, oa, na, k5⟩
  have KK := hide ((KA.out.trans (K2.out.mono KA.out.size)).trans (k5.mono (Nat.le_trans KA.out.size K2.out.size)))
  have OA := hide oa
  have NA := hide na
  clear oa na k5
  go_wp2_with fail
  go_ret
  exact ⟨v, ga, rfl, OA.out, NA.out, KK.out⟩
set_option maxRecDepth 100000 in
set_option maxHeartbeats 6400000 in
theorem hear_old2 {w : World} {S : Nat → Prop} {r d l room : Nat} {N : Nd} {M : LogL} {L : DiskL} (h : NdS w S r d l room N M L) (f t draw : Int) (g c : Nat) (z0 z1 : Int) (hc : 2 ≤ c) (hN : NumsAt w g [z0, z1]) (hz : okN [z0, z1]) (ht : t = (N.id : Int)) (hf1 : f ≠ (N.id : Int)) (hf2 : 0 ≤ f) (hf3 : f < (N.n : Int)) (hkn : kindN 2 [z0, z1]) (hlt : z0 < (N.term : Int)) (hro : N.role = 0) :
    Calls Tryz.prog 11 #[.pointer (some ⟨r, 0, none⟩), .agg #[.int .i64 f, .int .i64 t, .int .i64 2, .slice (some ⟨g, 0, none⟩) 2 c, .slice none 0 0], .int .i64 draw] w fun e w' => e = .returned (.slice none 0 0) ∧ Below w.heap.size w w' := by
  have hdl : decide ((N.term : Int) < z0) = false := by simp; omega
  have ka := below_alloc w (.cells #[.int .i64 f, .int .i64 t, .int .i64 2, .slice (some ⟨g, 0, none⟩) 2 c, .slice none 0 0] 34)
  have bg := Blk.new w (B := 0) 34 #[.int .i64 f, .int .i64 t, .int .i64 2, .slice (some ⟨g, 0, none⟩) 2 c, .slice none 0 0] (Nat.zero_le _)
  obtain ⟨q, hq⟩ : ∃ q, q = w.heap.size := ⟨_, rfl⟩
  obtain ⟨W, hW⟩ : ∃ W, W = w.alloc (.cells #[.int .i64 f, .int .i64 t, .int .i64 2, .slice (some ⟨g, 0, none⟩) 2 c, .slice none 0 0] 34) := ⟨_, rfl⟩
  have HN0 := h.below ka
  have NN := hN.keep ka
  have HB := hide (fun Z (kz : Below W.heap.size W Z) => (by rw [hW] at kz; exact bg.keep kz : Blk Z 0 34 w.heap.size [.int .i64 f, .int .i64 t, .int .i64 2, .slice (some ⟨g, 0, none⟩) 2 c, .slice none 0 0]))
  rw [← hq] at HB
  rw [← hW] at ka HN0 NN
  have ST := hide (stopped_no HN0)
  have ME := hide (meant_ok HN0 f t 2 g 2 c none 0 0 [z0, z1] rfl hc NN hz ht hf1 hf2 hf3 hkn)
  unfold msgV at ME
  have BW := HB.out W (Below.refl _ _)
  have x0 : W.cell? ⟨q, 0, none⟩ = some (.int .i64 f) := BW.cell 0
  have x1 : W.cell? ⟨q, 1, none⟩ = some (.int .i64 t) := BW.cell 1
  have x2 : W.cell? ⟨q, 2, none⟩ = some (.int .i64 2) := BW.cell 2
  have x3 : W.cell? ⟨q, 3, none⟩ = some (.slice (some ⟨g, 0, none⟩) 2 c) := BW.cell 3
  have x4 : W.cell? ⟨q, 4, none⟩ = some (.slice none 0 0) := BW.cell 4
  have HH := hide HN0
  have HNN := hide NN
  have KA := hide ka
  have HQ : Hid (w.heap.size = q) := hide hq.symm
  obtain ⟨tt, htt⟩ : ∃ z, z = N.term := ⟨_, rfl⟩
  rw [← htt] at hlt hdl
  have HTT := hide htt
  clear h hN hz ht hf1 hf2 hf3 hkn bg HN0 NN ka BW htt
  go_enter Tryz.func11, Tryz.ntmps11
  go_wp2_with fail
  rw [← hW, ← hq]
  clear hW hq
  refine ST.out.mono ?_
  rintro e w0 ⟨rfl, rfl⟩
  clear ST
  go_wp2_with fail
  refine ME.out.mono ?_
  rintro e w1 ⟨rfl, k1⟩
  have B1 := HB.out w1 k1
  have y0 : w1.cell? ⟨q, 0, none⟩ = some (.int .i64 f) := B1.cell 0
  have y1 : w1.cell? ⟨q, 1, none⟩ = some (.int .i64 t) := B1.cell 1
  have y2 : w1.cell? ⟨q, 2, none⟩ = some (.int .i64 2) := B1.cell 2
  have y3 : w1.cell? ⟨q, 3, none⟩ = some (.slice (some ⟨g, 0, none⟩) 2 c) := B1.cell 3
  have y4 : w1.cell? ⟨q, 4, none⟩ = some (.slice none 0 0) := B1.cell 4
  have K1 := hide k1
  have EN := hide (entries_none f t 2 g 2 c none 0 w1)
  unfold msgV at EN
  clear k1 B1 x0 x1 x2 x3 x4 ME
  go_wp2_with fail
  refine EN.out.mono ?_
  rintro e w2 ⟨rfl, k2⟩
  have K2 := hide (K1.out.trans (k2.mono K1.out.size))
  have B2 := HB.out w2 K2.out
  have H2 := hide (HH.out.below K2.out)
  have N2 := hide (HNN.out.keep K2.out)
  have u3 : w2.cell? ⟨q, 3, none⟩ = some (.slice (some ⟨g, 0, none⟩) 2 c) := B2.cell 3
  have u4 : w2.cell? ⟨r, 4, none⟩ = some (.int .i64 (N.term : Int)) := nds_cell H2.out 4
  have u5 : w2.cell? ⟨g, 0, none⟩ = some (.int .i64 z0) := N2.out 0 (by simp)
  rw [← HTT.out] at u4
  clear k2 K1 y0 y1 y2 y3 y4 EN B2 HH HNN
  go_wp2_with fail
  refine heldT_top (fun W' : World => W'.cell? ⟨q, 3, none⟩ = some (.slice (some ⟨g, 0, none⟩) 2 c) ∧ W'.cell? ⟨r, 4, none⟩ = some (.int .i64 (tt : Int)) ∧ W'.cell? ⟨g, 0, none⟩ = some (.int .i64 z0)) 22 #[false, false, false, false, false, false, false, false, false, false, false, false, false, false, false, false, false, false, false, false, false, false] (by kernel_rfl) (by kernel_rfl) (by kernel_rfl) ?_
  have hHeld : (fun W' : World => W'.cell? ⟨q, 3, none⟩ = some (.slice (some ⟨g, 0, none⟩) 2 c) ∧ W'.cell? ⟨r, 4, none⟩ = some (.int .i64 (tt : Int)) ∧ W'.cell? ⟨g, 0, none⟩ = some (.int .i64 z0)) (w2.drewN 1) := ⟨u3, u4, u5⟩
  have H2 := hide (H2.out.below (below_drewN (Below.refl _ _) 1))
  have N2 := hide (N2.out.keep (below_drewN (Below.refl _ _) 1))
  have K2 := hide (K2.out.trans ((below_drewN (Below.refl w2.heap.size w2) 1).mono K2.out.size))
  clear u3 u4 u5
  change wpAnyH _ _ _ _ _ _ _ _ (w2.drewN 1)
  generalize w2.drewN 1 = U at *
  refine' wpAnyH_take (i := 0) (oi := ⟨_, _, _, _, _, _⟩) (v := _) rfl (by kernel_rfl) (by kernel_rfl) (by kernel_rfl) (fun _ _ _ h => h) (Or.inl ⟨rfl, ?_⟩) hHeld ?_
  rotate_left
  · (intro W' hW; (try dsimp only at hW); obtain ⟨z3', z4', z5'⟩ := hW; go_simp; (try with_reducible rfl))
  try simp only [Act.put, List.setIfInBounds_toArray, List.set_cons_zero, List.set_cons_succ]
  refine' wpAnyH_take (i := 1) (oi := ⟨_, _, _, _, _, _⟩) (v := _) rfl (by kernel_rfl) (by kernel_rfl) (by kernel_rfl) (fun _ _ _ h => h) (Or.inl ⟨rfl, ?_⟩) hHeld ?_
  rotate_left
  · (intro W' hW; (try dsimp only at hW); obtain ⟨z3', z4', z5'⟩ := hW; go_simp; (try with_reducible rfl))
  try simp only [Act.put, List.setIfInBounds_toArray, List.set_cons_zero, List.set_cons_succ]
  refine' wpAnyH_take (i := 2) (oi := ⟨_, _, _, _, _, _⟩) (v := _) rfl (by kernel_rfl) (by kernel_rfl) (by kernel_rfl) (fun _ _ _ h => h) (Or.inl ⟨rfl, ?_⟩) hHeld ?_
  rotate_left
  · (intro W' hW; (try dsimp only at hW); obtain ⟨z3', z4', z5'⟩ := hW; go_simp; (try with_reducible rfl))
  try simp only [Act.put, List.setIfInBounds_toArray, List.set_cons_zero, List.set_cons_succ]
  refine' wpAnyH_take (i := 3) (oi := ⟨_, _, _, _, _, _⟩) (v := _) rfl (by kernel_rfl) (by kernel_rfl) (by kernel_rfl) (fun _ _ _ h => h) (Or.inl ⟨rfl, ?_⟩) hHeld ?_
  rotate_left
  · (intro W' hW; (try dsimp only at hW); obtain ⟨z3', z4', z5'⟩ := hW; go_simp; (try with_reducible rfl))
  try simp only [Act.put, List.setIfInBounds_toArray, List.set_cons_zero, List.set_cons_succ]
  refine' wpAnyH_take (i := 4) (oi := ⟨_, _, _, _, _, _⟩) (v := _) rfl (by kernel_rfl) (by kernel_rfl) (by kernel_rfl) (fun _ _ _ h => h) (Or.inl ⟨rfl, ?_⟩) hHeld ?_
  rotate_left
  · (intro W' hW; (try dsimp only at hW); obtain ⟨z3', z4', z5'⟩ := hW; go_simp; (try with_reducible rfl))
  try simp only [Act.put, List.setIfInBounds_toArray, List.set_cons_zero, List.set_cons_succ]
  refine' wpAnyH_take (i := 5) (oi := ⟨_, _, _, _, _, _⟩) (v := _) rfl (by kernel_rfl) (by kernel_rfl) (by kernel_rfl) (fun _ _ _ h => h) (Or.inl ⟨rfl, ?_⟩) hHeld ?_
  rotate_left
  · (intro W' hW; (try dsimp only at hW); obtain ⟨z3', z4', z5'⟩ := hW; go_simp; (try with_reducible rfl))
  try simp only [Act.put, List.setIfInBounds_toArray, List.set_cons_zero, List.set_cons_succ]
  refine' wpAnyH_take (i := 6) (oi := ⟨_, _, _, _, _, _⟩) (v := _) rfl (by kernel_rfl) (by kernel_rfl) (by kernel_rfl) (fun _ _ _ h => h) (Or.inl ⟨rfl, ?_⟩) hHeld ?_
  rotate_left
  · (intro W' hW; (try dsimp only at hW); obtain ⟨z3', z4', z5'⟩ := hW; go_simp; (try with_reducible rfl))
  try simp only [Act.put, List.setIfInBounds_toArray, List.set_cons_zero, List.set_cons_succ]
  refine' wpAnyH_take (i := 7) (oi := ⟨_, _, _, _, _, _⟩) (v := _) rfl (by kernel_rfl) (by kernel_rfl) (by kernel_rfl) (fun _ _ _ h => h) (Or.inl ⟨rfl, ?_⟩) hHeld ?_
  rotate_left
  · (intro W' hW; (try dsimp only at hW); obtain ⟨z3', z4', z5'⟩ := hW; go_simp; (try with_reducible rfl))
  try simp only [Act.put, List.setIfInBounds_toArray, List.set_cons_zero, List.set_cons_succ]
  refine' wpAnyH_take (i := 8) (oi := ⟨_, _, _, _, _, _⟩) (v := _) rfl (by kernel_rfl) (by kernel_rfl) (by kernel_rfl) (fun _ _ _ h => h) (Or.inl ⟨rfl, ?_⟩) hHeld ?_
  rotate_left
  · (intro W' hW; (try dsimp only at hW); obtain ⟨z3', z4', z5'⟩ := hW; go_simp; (try with_reducible rfl))
  try simp only [Act.put, List.setIfInBounds_toArray, List.set_cons_zero, List.set_cons_succ]
  refine' wpAnyH_take (i := 9) (oi := ⟨_, _, _, _, _, _⟩) (v := _) rfl (by kernel_rfl) (by kernel_rfl) (by kernel_rfl) (fun _ _ _ h => h) (Or.inl ⟨rfl, ?_⟩) hHeld ?_
  rotate_left
  · (intro W' hW; (try dsimp only at hW); obtain ⟨z3', z4', z5'⟩ := hW; go_simp; (try with_reducible rfl))
  try simp only [Act.put, List.setIfInBounds_toArray, List.set_cons_zero, List.set_cons_succ]
  refine' wpAnyH_take (i := 10) (oi := ⟨_, _, _, _, _, _⟩) (v := _) rfl (by kernel_rfl) (by kernel_rfl) (by kernel_rfl) (fun _ _ _ h => h) (Or.inl ⟨rfl, ?_⟩) hHeld ?_
  rotate_left
  · (intro W' hW; (try dsimp only at hW); obtain ⟨z3', z4', z5'⟩ := hW; go_simp; (try with_reducible rfl))
  try simp only [Act.put, List.setIfInBounds_toArray, List.set_cons_zero, List.set_cons_succ]
  refine' wpAnyH_take (i := 11) (oi := ⟨_, _, _, _, _, _⟩) (v := _) rfl (by kernel_rfl) (by kernel_rfl) (by kernel_rfl) (fun _ _ _ h => h) (Or.inl ⟨rfl, ?_⟩) hHeld ?_
  rotate_left
  · (intro W' hW; (try dsimp only at hW); obtain ⟨z3', z4', z5'⟩ := hW; go_simp; (try with_reducible rfl))
  try simp only [Act.put, List.setIfInBounds_toArray, List.set_cons_zero, List.set_cons_succ]
  refine' wpAnyH_take (i := 12) (oi := ⟨_, _, _, _, _, _⟩) (v := _) rfl (by kernel_rfl) (by kernel_rfl) (by kernel_rfl) (fun _ _ _ h => h) (Or.inl ⟨rfl, ?_⟩) hHeld ?_
  rotate_left
  · (intro W' hW; (try dsimp only at hW); obtain ⟨z3', z4', z5'⟩ := hW; go_simp; (try with_reducible rfl))
  try simp only [Act.put, List.setIfInBounds_toArray, List.set_cons_zero, List.set_cons_succ]
  refine' wpAnyH_take (i := 13) (oi := ⟨_, _, _, _, _, _⟩) (v := undef) rfl (by kernel_rfl) (by kernel_rfl) (by kernel_rfl) (fun _ _ _ h => h) (Or.inr ⟨rfl, rfl⟩) hHeld ?_
  try simp only [Act.put, List.setIfInBounds_toArray, List.set_cons_zero, List.set_cons_succ]
  refine' wpAnyH_take (i := 14) (oi := ⟨_, _, _, _, _, _⟩) (v := undef) rfl (by kernel_rfl) (by kernel_rfl) (by kernel_rfl) (fun _ _ _ h => h) (Or.inr ⟨rfl, rfl⟩) hHeld ?_
  try simp only [Act.put, List.setIfInBounds_toArray, List.set_cons_zero, List.set_cons_succ]
  refine' wpAnyH_take (i := 15) (oi := ⟨_, _, _, _, _, _⟩) (v := undef) rfl (by kernel_rfl) (by kernel_rfl) (by kernel_rfl) (fun _ _ _ h => h) (Or.inr ⟨rfl, rfl⟩) hHeld ?_
  try simp only [Act.put, List.setIfInBounds_toArray, List.set_cons_zero, List.set_cons_succ]
  refine' wpAnyH_take (i := 16) (oi := ⟨_, _, _, _, _, _⟩) (v := undef) rfl (by kernel_rfl) (by kernel_rfl) (by kernel_rfl) (fun _ _ _ h => h) (Or.inr ⟨rfl, rfl⟩) hHeld ?_
  try simp only [Act.put, List.setIfInBounds_toArray, List.set_cons_zero, List.set_cons_succ]
  refine' wpAnyH_take (i := 17) (oi := ⟨_, _, _, _, _, _⟩) (v := undef) rfl (by kernel_rfl) (by kernel_rfl) (by kernel_rfl) (fun _ _ _ h => h) (Or.inr ⟨rfl, rfl⟩) hHeld ?_
  try simp only [Act.put, List.setIfInBounds_toArray, List.set_cons_zero, List.set_cons_succ]
  refine' wpAnyH_take (i := 18) (oi := ⟨_, _, _, _, _, _⟩) (v := undef) rfl (by kernel_rfl) (by kernel_rfl) (by kernel_rfl) (fun _ _ _ h => h) (Or.inr ⟨rfl, rfl⟩) hHeld ?_
  try simp only [Act.put, List.setIfInBounds_toArray, List.set_cons_zero, List.set_cons_succ]
  refine' wpAnyH_take (i := 19) (oi := ⟨_, _, _, _, _, _⟩) (v := undef) rfl (by kernel_rfl) (by kernel_rfl) (by kernel_rfl) (fun _ _ _ h => h) (Or.inr ⟨rfl, rfl⟩) hHeld ?_
  try simp only [Act.put, List.setIfInBounds_toArray, List.set_cons_zero, List.set_cons_succ]
  refine' wpAnyH_take (i := 20) (oi := ⟨_, _, _, _, _, _⟩) (v := _) rfl (by kernel_rfl) (by kernel_rfl) (by kernel_rfl) (fun _ _ _ h => h) (Or.inl ⟨rfl, ?_⟩) hHeld ?_
  rotate_left
  · (intro W' hW; (try dsimp only at hW); obtain ⟨z3', z4', z5'⟩ := hW; go_simp; (try with_reducible rfl))
  try simp only [Act.put, List.setIfInBounds_toArray, List.set_cons_zero, List.set_cons_succ]
  refine' wpAnyH_take (i := 21) (oi := ⟨_, _, _, _, _, _⟩) (v := _) rfl (by kernel_rfl) (by kernel_rfl) (by kernel_rfl) (fun _ _ _ h => h) (Or.inl ⟨rfl, ?_⟩) hHeld ?_
  rotate_left
  · (intro W' hW; (try dsimp only at hW); obtain ⟨z3', z4', z5'⟩ := hW; go_simp; (try with_reducible rfl))
  try simp only [Act.put, List.setIfInBounds_toArray, List.set_cons_zero, List.set_cons_succ]
  refine wpAnyH_done (by kernel_rfl) ?_ _
  clear hHeld
  have B3 := HB.out U K2.out
  have v0 : U.cell? ⟨q, 0, none⟩ = some (.int .i64 f) := B3.cell 0
  have v1 : U.cell? ⟨q, 1, none⟩ = some (.int .i64 t) := B3.cell 1
  have v2 : U.cell? ⟨q, 2, none⟩ = some (.int .i64 2) := B3.cell 2
  have v3 : U.cell? ⟨q, 3, none⟩ = some (.slice (some ⟨g, 0, none⟩) 2 c) := B3.cell 3
  have v4 : U.cell? ⟨q, 4, none⟩ = some (.slice none 0 0) := B3.cell 4
  have CA := hide (voted_old H2.out f t 2 g c none 0 0 z0 z1 N2.out hro)
  unfold msgV at CA
  rw [HTT.out] at hlt
  clear B3
  go_wp2_with fail
  refine CA.out.mono ?_
  rintro e w5 ⟨rfl, k5⟩
  have KK := hide ((KA.out.trans (K2.out.mono KA.out.size)).trans (k5.mono (Nat.le_trans KA.out.size K2.out.size)))
  clear k5
  go_wp2_with fail
  go_ret
  exact ⟨rfl, KK.out⟩
set_option maxRecDepth 100000 in
set_option maxHeartbeats 6400000 in
theorem hear_old3 {w : World} {S : Nat → Prop} {r d l room : Nat} {N : Nd} {M : LogL} {L : DiskL} (h : NdS w S r d l room N M L) (f t draw : Int) (g c : Nat) (z0 z1 z2 z3 : Int) (hc : 4 ≤ c) (hN : NumsAt w g [z0, z1, z2, z3]) (hz : okN [z0, z1, z2, z3]) (ht : t = (N.id : Int)) (hf1 : f ≠ (N.id : Int)) (hf2 : 0 ≤ f) (hf3 : f < (N.n : Int)) (hkn : kindN 3 [z0, z1, z2, z3]) (hlt : z0 < (N.term : Int)) :
    Calls Tryz.prog 11 #[.pointer (some ⟨r, 0, none⟩), .agg #[.int .i64 f, .int .i64 t, .int .i64 3, .slice (some ⟨g, 0, none⟩) 4 c, .slice none 0 0], .int .i64 draw] w fun e w' => ∃ v ga, e = .returned v ∧ OneA w' v (N.id : Int) f 4 ga 3 3 ∧ NumsAt w' ga [(N.term : Int), 0, 0] ∧ Below w.heap.size w w' := by
  have hdl : decide ((N.term : Int) < z0) = false := by simp; omega
  have ka := below_alloc w (.cells #[.int .i64 f, .int .i64 t, .int .i64 3, .slice (some ⟨g, 0, none⟩) 4 c, .slice none 0 0] 34)
  have bg := Blk.new w (B := 0) 34 #[.int .i64 f, .int .i64 t, .int .i64 3, .slice (some ⟨g, 0, none⟩) 4 c, .slice none 0 0] (Nat.zero_le _)
  obtain ⟨q, hq⟩ : ∃ q, q = w.heap.size := ⟨_, rfl⟩
  obtain ⟨W, hW⟩ : ∃ W, W = w.alloc (.cells #[.int .i64 f, .int .i64 t, .int .i64 3, .slice (some ⟨g, 0, none⟩) 4 c, .slice none 0 0] 34) := ⟨_, rfl⟩
  have HN0 := h.below ka
  have NN := hN.keep ka
  have HB := hide (fun Z (kz : Below W.heap.size W Z) => (by rw [hW] at kz; exact bg.keep kz : Blk Z 0 34 w.heap.size [.int .i64 f, .int .i64 t, .int .i64 3, .slice (some ⟨g, 0, none⟩) 4 c, .slice none 0 0]))
  rw [← hq] at HB
  rw [← hW] at ka HN0 NN
  have ST := hide (stopped_no HN0)
  have ME := hide (meant_ok HN0 f t 3 g 4 c none 0 0 [z0, z1, z2, z3] rfl hc NN hz ht hf1 hf2 hf3 hkn)
  unfold msgV at ME
  have BW := HB.out W (Below.refl _ _)
  have x0 : W.cell? ⟨q, 0, none⟩ = some (.int .i64 f) := BW.cell 0
  have x1 : W.cell? ⟨q, 1, none⟩ = some (.int .i64 t) := BW.cell 1
  have x2 : W.cell? ⟨q, 2, none⟩ = some (.int .i64 3) := BW.cell 2
  have x3 : W.cell? ⟨q, 3, none⟩ = some (.slice (some ⟨g, 0, none⟩) 4 c) := BW.cell 3
  have x4 : W.cell? ⟨q, 4, none⟩ = some (.slice none 0 0) := BW.cell 4
  have HH := hide HN0
  have HNN := hide NN
  have KA := hide ka
  have HQ : Hid (w.heap.size = q) := hide hq.symm
  obtain ⟨tt, htt⟩ : ∃ z, z = N.term := ⟨_, rfl⟩
  rw [← htt] at hlt hdl
  have HTT := hide htt
  clear h hN hz ht hf1 hf2 hf3 hkn bg HN0 NN ka BW htt
  go_enter Tryz.func11, Tryz.ntmps11
  go_wp2_with fail
  rw [← hW, ← hq]
  clear hW hq
  refine ST.out.mono ?_
  rintro e w0 ⟨rfl, rfl⟩
  clear ST
  go_wp2_with fail
  refine ME.out.mono ?_
  rintro e w1 ⟨rfl, k1⟩
  have B1 := HB.out w1 k1
  have y0 : w1.cell? ⟨q, 0, none⟩ = some (.int .i64 f) := B1.cell 0
  have y1 : w1.cell? ⟨q, 1, none⟩ = some (.int .i64 t) := B1.cell 1
  have y2 : w1.cell? ⟨q, 2, none⟩ = some (.int .i64 3) := B1.cell 2
  have y3 : w1.cell? ⟨q, 3, none⟩ = some (.slice (some ⟨g, 0, none⟩) 4 c) := B1.cell 3
  have y4 : w1.cell? ⟨q, 4, none⟩ = some (.slice none 0 0) := B1.cell 4
  have K1 := hide k1
  have EN := hide (entries_none f t 3 g 4 c none 0 w1)
  unfold msgV at EN
  clear k1 B1 x0 x1 x2 x3 x4 ME
  go_wp2_with fail
  refine EN.out.mono ?_
  rintro e w2 ⟨rfl, k2⟩
  have K2 := hide (K1.out.trans (k2.mono K1.out.size))
  have B2 := HB.out w2 K2.out
  have H2 := hide (HH.out.below K2.out)
  have N2 := hide (HNN.out.keep K2.out)
  have u3 : w2.cell? ⟨q, 3, none⟩ = some (.slice (some ⟨g, 0, none⟩) 4 c) := B2.cell 3
  have u4 : w2.cell? ⟨r, 4, none⟩ = some (.int .i64 (N.term : Int)) := nds_cell H2.out 4
  have u5 : w2.cell? ⟨g, 0, none⟩ = some (.int .i64 z0) := N2.out 0 (by simp)
  rw [← HTT.out] at u4
  clear k2 K1 y0 y1 y2 y3 y4 EN B2 HH HNN
  go_wp2_with fail
  refine heldT_top (fun W' : World => W'.cell? ⟨q, 3, none⟩ = some (.slice (some ⟨g, 0, none⟩) 4 c) ∧ W'.cell? ⟨r, 4, none⟩ = some (.int .i64 (tt : Int)) ∧ W'.cell? ⟨g, 0, none⟩ = some (.int .i64 z0)) 22 #[false, false, false, false, false, false, false, false, false, false, false, false, false, false, false, false, false, false, false, false, false, false] (by kernel_rfl) (by kernel_rfl) (by kernel_rfl) ?_
  have hHeld : (fun W' : World => W'.cell? ⟨q, 3, none⟩ = some (.slice (some ⟨g, 0, none⟩) 4 c) ∧ W'.cell? ⟨r, 4, none⟩ = some (.int .i64 (tt : Int)) ∧ W'.cell? ⟨g, 0, none⟩ = some (.int .i64 z0)) (w2.drewN 1) := ⟨u3, u4, u5⟩
  have H2 := hide (H2.out.below (below_drewN (Below.refl _ _) 1))
  have N2 := hide (N2.out.keep (below_drewN (Below.refl _ _) 1))
  have K2 := hide (K2.out.trans ((below_drewN (Below.refl w2.heap.size w2) 1).mono K2.out.size))
  clear u3 u4 u5
  change wpAnyH _ _ _ _ _ _ _ _ (w2.drewN 1)
  generalize w2.drewN 1 = U at *
  refine' wpAnyH_take (i := 0) (oi := ⟨_, _, _, _, _, _⟩) (v := _) rfl (by kernel_rfl) (by kernel_rfl) (by kernel_rfl) (fun _ _ _ h => h) (Or.inl ⟨rfl, ?_⟩) hHeld ?_
  rotate_left
  · (intro W' hW; (try dsimp only at hW); obtain ⟨z3', z4', z5'⟩ := hW; go_simp; (try with_reducible rfl))
  try simp only [Act.put, List.setIfInBounds_toArray, List.set_cons_zero, List.set_cons_succ]
  refine' wpAnyH_take (i := 1) (oi := ⟨_, _, _, _, _, _⟩) (v := _) rfl (by kernel_rfl) (by kernel_rfl) (by kernel_rfl) (fun _ _ _ h => h) (Or.inl ⟨rfl, ?_⟩) hHeld ?_
  rotate_left
  · (intro W' hW; (try dsimp only at hW); obtain ⟨z3', z4', z5'⟩ := hW; go_simp; (try with_reducible rfl))
  try simp only [Act.put, List.setIfInBounds_toArray, List.set_cons_zero, List.set_cons_succ]
  refine' wpAnyH_take (i := 2) (oi := ⟨_, _, _, _, _, _⟩) (v := _) rfl (by kernel_rfl) (by kernel_rfl) (by kernel_rfl) (fun _ _ _ h => h) (Or.inl ⟨rfl, ?_⟩) hHeld ?_
  rotate_left
  · (intro W' hW; (try dsimp only at hW); obtain ⟨z3', z4', z5'⟩ := hW; go_simp; (try with_reducible rfl))
  try simp only [Act.put, List.setIfInBounds_toArray, List.set_cons_zero, List.set_cons_succ]
  refine' wpAnyH_take (i := 3) (oi := ⟨_, _, _, _, _, _⟩) (v := _) rfl (by kernel_rfl) (by kernel_rfl) (by kernel_rfl) (fun _ _ _ h => h) (Or.inl ⟨rfl, ?_⟩) hHeld ?_
  rotate_left
  · (intro W' hW; (try dsimp only at hW); obtain ⟨z3', z4', z5'⟩ := hW; go_simp; (try with_reducible rfl))
  try simp only [Act.put, List.setIfInBounds_toArray, List.set_cons_zero, List.set_cons_succ]
  refine' wpAnyH_take (i := 4) (oi := ⟨_, _, _, _, _, _⟩) (v := _) rfl (by kernel_rfl) (by kernel_rfl) (by kernel_rfl) (fun _ _ _ h => h) (Or.inl ⟨rfl, ?_⟩) hHeld ?_
  rotate_left
  · (intro W' hW; (try dsimp only at hW); obtain ⟨z3', z4', z5'⟩ := hW; go_simp; (try with_reducible rfl))
  try simp only [Act.put, List.setIfInBounds_toArray, List.set_cons_zero, List.set_cons_succ]
  refine' wpAnyH_take (i := 5) (oi := ⟨_, _, _, _, _, _⟩) (v := _) rfl (by kernel_rfl) (by kernel_rfl) (by kernel_rfl) (fun _ _ _ h => h) (Or.inl ⟨rfl, ?_⟩) hHeld ?_
  rotate_left
  · (intro W' hW; (try dsimp only at hW); obtain ⟨z3', z4', z5'⟩ := hW; go_simp; (try with_reducible rfl))
  try simp only [Act.put, List.setIfInBounds_toArray, List.set_cons_zero, List.set_cons_succ]
  refine' wpAnyH_take (i := 6) (oi := ⟨_, _, _, _, _, _⟩) (v := _) rfl (by kernel_rfl) (by kernel_rfl) (by kernel_rfl) (fun _ _ _ h => h) (Or.inl ⟨rfl, ?_⟩) hHeld ?_
  rotate_left
  · (intro W' hW; (try dsimp only at hW); obtain ⟨z3', z4', z5'⟩ := hW; go_simp; (try with_reducible rfl))
  try simp only [Act.put, List.setIfInBounds_toArray, List.set_cons_zero, List.set_cons_succ]
  refine' wpAnyH_take (i := 7) (oi := ⟨_, _, _, _, _, _⟩) (v := _) rfl (by kernel_rfl) (by kernel_rfl) (by kernel_rfl) (fun _ _ _ h => h) (Or.inl ⟨rfl, ?_⟩) hHeld ?_
  rotate_left
  · (intro W' hW; (try dsimp only at hW); obtain ⟨z3', z4', z5'⟩ := hW; go_simp; (try with_reducible rfl))
  try simp only [Act.put, List.setIfInBounds_toArray, List.set_cons_zero, List.set_cons_succ]
  refine' wpAnyH_take (i := 8) (oi := ⟨_, _, _, _, _, _⟩) (v := _) rfl (by kernel_rfl) (by kernel_rfl) (by kernel_rfl) (fun _ _ _ h => h) (Or.inl ⟨rfl, ?_⟩) hHeld ?_
  rotate_left
  · (intro W' hW; (try dsimp only at hW); obtain ⟨z3', z4', z5'⟩ := hW; go_simp; (try with_reducible rfl))
  try simp only [Act.put, List.setIfInBounds_toArray, List.set_cons_zero, List.set_cons_succ]
  refine' wpAnyH_take (i := 9) (oi := ⟨_, _, _, _, _, _⟩) (v := _) rfl (by kernel_rfl) (by kernel_rfl) (by kernel_rfl) (fun _ _ _ h => h) (Or.inl ⟨rfl, ?_⟩) hHeld ?_
  rotate_left
  · (intro W' hW; (try dsimp only at hW); obtain ⟨z3', z4', z5'⟩ := hW; go_simp; (try with_reducible rfl))
  try simp only [Act.put, List.setIfInBounds_toArray, List.set_cons_zero, List.set_cons_succ]
  refine' wpAnyH_take (i := 10) (oi := ⟨_, _, _, _, _, _⟩) (v := _) rfl (by kernel_rfl) (by kernel_rfl) (by kernel_rfl) (fun _ _ _ h => h) (Or.inl ⟨rfl, ?_⟩) hHeld ?_
  rotate_left
  · (intro W' hW; (try dsimp only at hW); obtain ⟨z3', z4', z5'⟩ := hW; go_simp; (try with_reducible rfl))
  try simp only [Act.put, List.setIfInBounds_toArray, List.set_cons_zero, List.set_cons_succ]
  refine' wpAnyH_take (i := 11) (oi := ⟨_, _, _, _, _, _⟩) (v := _) rfl (by kernel_rfl) (by kernel_rfl) (by kernel_rfl) (fun _ _ _ h => h) (Or.inl ⟨rfl, ?_⟩) hHeld ?_
  rotate_left
  · (intro W' hW; (try dsimp only at hW); obtain ⟨z3', z4', z5'⟩ := hW; go_simp; (try with_reducible rfl))
  try simp only [Act.put, List.setIfInBounds_toArray, List.set_cons_zero, List.set_cons_succ]
  refine' wpAnyH_take (i := 12) (oi := ⟨_, _, _, _, _, _⟩) (v := _) rfl (by kernel_rfl) (by kernel_rfl) (by kernel_rfl) (fun _ _ _ h => h) (Or.inl ⟨rfl, ?_⟩) hHeld ?_
  rotate_left
  · (intro W' hW; (try dsimp only at hW); obtain ⟨z3', z4', z5'⟩ := hW; go_simp; (try with_reducible rfl))
  try simp only [Act.put, List.setIfInBounds_toArray, List.set_cons_zero, List.set_cons_succ]
  refine' wpAnyH_take (i := 13) (oi := ⟨_, _, _, _, _, _⟩) (v := undef) rfl (by kernel_rfl) (by kernel_rfl) (by kernel_rfl) (fun _ _ _ h => h) (Or.inr ⟨rfl, rfl⟩) hHeld ?_
  try simp only [Act.put, List.setIfInBounds_toArray, List.set_cons_zero, List.set_cons_succ]
  refine' wpAnyH_take (i := 14) (oi := ⟨_, _, _, _, _, _⟩) (v := undef) rfl (by kernel_rfl) (by kernel_rfl) (by kernel_rfl) (fun _ _ _ h => h) (Or.inr ⟨rfl, rfl⟩) hHeld ?_
  try simp only [Act.put, List.setIfInBounds_toArray, List.set_cons_zero, List.set_cons_succ]
  refine' wpAnyH_take (i := 15) (oi := ⟨_, _, _, _, _, _⟩) (v := undef) rfl (by kernel_rfl) (by kernel_rfl) (by kernel_rfl) (fun _ _ _ h => h) (Or.inr ⟨rfl, rfl⟩) hHeld ?_
  try simp only [Act.put, List.setIfInBounds_toArray, List.set_cons_zero, List.set_cons_succ]
  refine' wpAnyH_take (i := 16) (oi := ⟨_, _, _, _, _, _⟩) (v := undef) rfl (by kernel_rfl) (by kernel_rfl) (by kernel_rfl) (fun _ _ _ h => h) (Or.inr ⟨rfl, rfl⟩) hHeld ?_
  try simp only [Act.put, List.setIfInBounds_toArray, List.set_cons_zero, List.set_cons_succ]
  refine' wpAnyH_take (i := 17) (oi := ⟨_, _, _, _, _, _⟩) (v := undef) rfl (by kernel_rfl) (by kernel_rfl) (by kernel_rfl) (fun _ _ _ h => h) (Or.inr ⟨rfl, rfl⟩) hHeld ?_
  try simp only [Act.put, List.setIfInBounds_toArray, List.set_cons_zero, List.set_cons_succ]
  refine' wpAnyH_take (i := 18) (oi := ⟨_, _, _, _, _, _⟩) (v := undef) rfl (by kernel_rfl) (by kernel_rfl) (by kernel_rfl) (fun _ _ _ h => h) (Or.inr ⟨rfl, rfl⟩) hHeld ?_
  try simp only [Act.put, List.setIfInBounds_toArray, List.set_cons_zero, List.set_cons_succ]
  refine' wpAnyH_take (i := 19) (oi := ⟨_, _, _, _, _, _⟩) (v := undef) rfl (by kernel_rfl) (by kernel_rfl) (by kernel_rfl) (fun _ _ _ h => h) (Or.inr ⟨rfl, rfl⟩) hHeld ?_
  try simp only [Act.put, List.setIfInBounds_toArray, List.set_cons_zero, List.set_cons_succ]
  refine' wpAnyH_take (i := 20) (oi := ⟨_, _, _, _, _, _⟩) (v := _) rfl (by kernel_rfl) (by kernel_rfl) (by kernel_rfl) (fun _ _ _ h => h) (Or.inl ⟨rfl, ?_⟩) hHeld ?_
  rotate_left
  · (intro W' hW; (try dsimp only at hW); obtain ⟨z3', z4', z5'⟩ := hW; go_simp; (try with_reducible rfl))
  try simp only [Act.put, List.setIfInBounds_toArray, List.set_cons_zero, List.set_cons_succ]
  refine' wpAnyH_take (i := 21) (oi := ⟨_, _, _, _, _, _⟩) (v := _) rfl (by kernel_rfl) (by kernel_rfl) (by kernel_rfl) (fun _ _ _ h => h) (Or.inl ⟨rfl, ?_⟩) hHeld ?_
  rotate_left
  · (intro W' hW; (try dsimp only at hW); obtain ⟨z3', z4', z5'⟩ := hW; go_simp; (try with_reducible rfl))
  try simp only [Act.put, List.setIfInBounds_toArray, List.set_cons_zero, List.set_cons_succ]
  refine wpAnyH_done (by kernel_rfl) ?_ _
  clear hHeld
  have B3 := HB.out U K2.out
  have v0 : U.cell? ⟨q, 0, none⟩ = some (.int .i64 f) := B3.cell 0
  have v1 : U.cell? ⟨q, 1, none⟩ = some (.int .i64 t) := B3.cell 1
  have v2 : U.cell? ⟨q, 2, none⟩ = some (.int .i64 3) := B3.cell 2
  have v3 : U.cell? ⟨q, 3, none⟩ = some (.slice (some ⟨g, 0, none⟩) 4 c) := B3.cell 3
  have v4 : U.cell? ⟨q, 4, none⟩ = some (.slice none 0 0) := B3.cell 4
  have CA := hide (told_old H2.out f t 3 draw g c none 0 0 z0 z1 z2 z3 N2.out (by rw [← HTT.out]; exact hlt))
  unfold msgV at CA
  rw [HTT.out] at hlt
  clear B3
  go_wp2_with fail
  refine CA.out.mono ?_
  rintro e w5 ⟨v, ga, rfl, oa, na, k5⟩
  have KK := hide ((KA.out.trans (K2.out.mono KA.out.size)).trans (k5.mono (Nat.le_trans KA.out.size K2.out.size)))
  have OA := hide oa
  have NA := hide na
  clear oa na k5
  go_wp2_with fail
  go_ret
  exact ⟨v, ga, rfl, OA.out, NA.out, KK.out⟩
set_option maxRecDepth 100000 in
set_option maxHeartbeats 6400000 in
theorem hear_old4 {w : World} {S : Nat → Prop} {r d l room : Nat} {N : Nd} {M : LogL} {L : DiskL} (h : NdS w S r d l room N M L) (f t draw : Int) (g c : Nat) (z0 z1 z2 : Int) (hc : 3 ≤ c) (hN : NumsAt w g [z0, z1, z2]) (hz : okN [z0, z1, z2]) (ht : t = (N.id : Int)) (hf1 : f ≠ (N.id : Int)) (hf2 : 0 ≤ f) (hf3 : f < (N.n : Int)) (hkn : kindN 4 [z0, z1, z2]) (hlt : z0 < (N.term : Int)) (hro : N.role = 0) :
    Calls Tryz.prog 11 #[.pointer (some ⟨r, 0, none⟩), .agg #[.int .i64 f, .int .i64 t, .int .i64 4, .slice (some ⟨g, 0, none⟩) 3 c, .slice none 0 0], .int .i64 draw] w fun e w' => e = .returned (.slice none 0 0) ∧ Below w.heap.size w w' := by
  have hdl : decide ((N.term : Int) < z0) = false := by simp; omega
  have ka := below_alloc w (.cells #[.int .i64 f, .int .i64 t, .int .i64 4, .slice (some ⟨g, 0, none⟩) 3 c, .slice none 0 0] 34)
  have bg := Blk.new w (B := 0) 34 #[.int .i64 f, .int .i64 t, .int .i64 4, .slice (some ⟨g, 0, none⟩) 3 c, .slice none 0 0] (Nat.zero_le _)
  obtain ⟨q, hq⟩ : ∃ q, q = w.heap.size := ⟨_, rfl⟩
  obtain ⟨W, hW⟩ : ∃ W, W = w.alloc (.cells #[.int .i64 f, .int .i64 t, .int .i64 4, .slice (some ⟨g, 0, none⟩) 3 c, .slice none 0 0] 34) := ⟨_, rfl⟩
  have HN0 := h.below ka
  have NN := hN.keep ka
  have HB := hide (fun Z (kz : Below W.heap.size W Z) => (by rw [hW] at kz; exact bg.keep kz : Blk Z 0 34 w.heap.size [.int .i64 f, .int .i64 t, .int .i64 4, .slice (some ⟨g, 0, none⟩) 3 c, .slice none 0 0]))
  rw [← hq] at HB
  rw [← hW] at ka HN0 NN
  have ST := hide (stopped_no HN0)
  have ME := hide (meant_ok HN0 f t 4 g 3 c none 0 0 [z0, z1, z2] rfl hc NN hz ht hf1 hf2 hf3 hkn)
  unfold msgV at ME
  have BW := HB.out W (Below.refl _ _)
  have x0 : W.cell? ⟨q, 0, none⟩ = some (.int .i64 f) := BW.cell 0
  have x1 : W.cell? ⟨q, 1, none⟩ = some (.int .i64 t) := BW.cell 1
  have x2 : W.cell? ⟨q, 2, none⟩ = some (.int .i64 4) := BW.cell 2
  have x3 : W.cell? ⟨q, 3, none⟩ = some (.slice (some ⟨g, 0, none⟩) 3 c) := BW.cell 3
  have x4 : W.cell? ⟨q, 4, none⟩ = some (.slice none 0 0) := BW.cell 4
  have HH := hide HN0
  have HNN := hide NN
  have KA := hide ka
  have HQ : Hid (w.heap.size = q) := hide hq.symm
  obtain ⟨tt, htt⟩ : ∃ z, z = N.term := ⟨_, rfl⟩
  rw [← htt] at hlt hdl
  have HTT := hide htt
  clear h hN hz ht hf1 hf2 hf3 hkn bg HN0 NN ka BW htt
  go_enter Tryz.func11, Tryz.ntmps11
  go_wp2_with fail
  rw [← hW, ← hq]
  clear hW hq
  refine ST.out.mono ?_
  rintro e w0 ⟨rfl, rfl⟩
  clear ST
  go_wp2_with fail
  refine ME.out.mono ?_
  rintro e w1 ⟨rfl, k1⟩
  have B1 := HB.out w1 k1
  have y0 : w1.cell? ⟨q, 0, none⟩ = some (.int .i64 f) := B1.cell 0
  have y1 : w1.cell? ⟨q, 1, none⟩ = some (.int .i64 t) := B1.cell 1
  have y2 : w1.cell? ⟨q, 2, none⟩ = some (.int .i64 4) := B1.cell 2
  have y3 : w1.cell? ⟨q, 3, none⟩ = some (.slice (some ⟨g, 0, none⟩) 3 c) := B1.cell 3
  have y4 : w1.cell? ⟨q, 4, none⟩ = some (.slice none 0 0) := B1.cell 4
  have K1 := hide k1
  have EN := hide (entries_none f t 4 g 3 c none 0 w1)
  unfold msgV at EN
  clear k1 B1 x0 x1 x2 x3 x4 ME
  go_wp2_with fail
  refine EN.out.mono ?_
  rintro e w2 ⟨rfl, k2⟩
  have K2 := hide (K1.out.trans (k2.mono K1.out.size))
  have B2 := HB.out w2 K2.out
  have H2 := hide (HH.out.below K2.out)
  have N2 := hide (HNN.out.keep K2.out)
  have u3 : w2.cell? ⟨q, 3, none⟩ = some (.slice (some ⟨g, 0, none⟩) 3 c) := B2.cell 3
  have u4 : w2.cell? ⟨r, 4, none⟩ = some (.int .i64 (N.term : Int)) := nds_cell H2.out 4
  have u5 : w2.cell? ⟨g, 0, none⟩ = some (.int .i64 z0) := N2.out 0 (by simp)
  rw [← HTT.out] at u4
  clear k2 K1 y0 y1 y2 y3 y4 EN B2 HH HNN
  go_wp2_with fail
  refine heldT_top (fun W' : World => W'.cell? ⟨q, 3, none⟩ = some (.slice (some ⟨g, 0, none⟩) 3 c) ∧ W'.cell? ⟨r, 4, none⟩ = some (.int .i64 (tt : Int)) ∧ W'.cell? ⟨g, 0, none⟩ = some (.int .i64 z0)) 22 #[false, false, false, false, false, false, false, false, false, false, false, false, false, false, false, false, false, false, false, false, false, false] (by kernel_rfl) (by kernel_rfl) (by kernel_rfl) ?_
  have hHeld : (fun W' : World => W'.cell? ⟨q, 3, none⟩ = some (.slice (some ⟨g, 0, none⟩) 3 c) ∧ W'.cell? ⟨r, 4, none⟩ = some (.int .i64 (tt : Int)) ∧ W'.cell? ⟨g, 0, none⟩ = some (.int .i64 z0)) (w2.drewN 1) := ⟨u3, u4, u5⟩
  have H2 := hide (H2.out.below (below_drewN (Below.refl _ _) 1))
  have N2 := hide (N2.out.keep (below_drewN (Below.refl _ _) 1))
  have K2 := hide (K2.out.trans ((below_drewN (Below.refl w2.heap.size w2) 1).mono K2.out.size))
  clear u3 u4 u5
  change wpAnyH _ _ _ _ _ _ _ _ (w2.drewN 1)
  generalize w2.drewN 1 = U at *
  refine' wpAnyH_take (i := 0) (oi := ⟨_, _, _, _, _, _⟩) (v := _) rfl (by kernel_rfl) (by kernel_rfl) (by kernel_rfl) (fun _ _ _ h => h) (Or.inl ⟨rfl, ?_⟩) hHeld ?_
  rotate_left
  · (intro W' hW; (try dsimp only at hW); obtain ⟨z3', z4', z5'⟩ := hW; go_simp; (try with_reducible rfl))
  try simp only [Act.put, List.setIfInBounds_toArray, List.set_cons_zero, List.set_cons_succ]
  refine' wpAnyH_take (i := 1) (oi := ⟨_, _, _, _, _, _⟩) (v := _) rfl (by kernel_rfl) (by kernel_rfl) (by kernel_rfl) (fun _ _ _ h => h) (Or.inl ⟨rfl, ?_⟩) hHeld ?_
  rotate_left
  · (intro W' hW; (try dsimp only at hW); obtain ⟨z3', z4', z5'⟩ := hW; go_simp; (try with_reducible rfl))
  try simp only [Act.put, List.setIfInBounds_toArray, List.set_cons_zero, List.set_cons_succ]
  refine' wpAnyH_take (i := 2) (oi := ⟨_, _, _, _, _, _⟩) (v := _) rfl (by kernel_rfl) (by kernel_rfl) (by kernel_rfl) (fun _ _ _ h => h) (Or.inl ⟨rfl, ?_⟩) hHeld ?_
  rotate_left
  · (intro W' hW; (try dsimp only at hW); obtain ⟨z3', z4', z5'⟩ := hW; go_simp; (try with_reducible rfl))
  try simp only [Act.put, List.setIfInBounds_toArray, List.set_cons_zero, List.set_cons_succ]
  refine' wpAnyH_take (i := 3) (oi := ⟨_, _, _, _, _, _⟩) (v := _) rfl (by kernel_rfl) (by kernel_rfl) (by kernel_rfl) (fun _ _ _ h => h) (Or.inl ⟨rfl, ?_⟩) hHeld ?_
  rotate_left
  · (intro W' hW; (try dsimp only at hW); obtain ⟨z3', z4', z5'⟩ := hW; go_simp; (try with_reducible rfl))
  try simp only [Act.put, List.setIfInBounds_toArray, List.set_cons_zero, List.set_cons_succ]
  refine' wpAnyH_take (i := 4) (oi := ⟨_, _, _, _, _, _⟩) (v := _) rfl (by kernel_rfl) (by kernel_rfl) (by kernel_rfl) (fun _ _ _ h => h) (Or.inl ⟨rfl, ?_⟩) hHeld ?_
  rotate_left
  · (intro W' hW; (try dsimp only at hW); obtain ⟨z3', z4', z5'⟩ := hW; go_simp; (try with_reducible rfl))
  try simp only [Act.put, List.setIfInBounds_toArray, List.set_cons_zero, List.set_cons_succ]
  refine' wpAnyH_take (i := 5) (oi := ⟨_, _, _, _, _, _⟩) (v := _) rfl (by kernel_rfl) (by kernel_rfl) (by kernel_rfl) (fun _ _ _ h => h) (Or.inl ⟨rfl, ?_⟩) hHeld ?_
  rotate_left
  · (intro W' hW; (try dsimp only at hW); obtain ⟨z3', z4', z5'⟩ := hW; go_simp; (try with_reducible rfl))
  try simp only [Act.put, List.setIfInBounds_toArray, List.set_cons_zero, List.set_cons_succ]
  refine' wpAnyH_take (i := 6) (oi := ⟨_, _, _, _, _, _⟩) (v := _) rfl (by kernel_rfl) (by kernel_rfl) (by kernel_rfl) (fun _ _ _ h => h) (Or.inl ⟨rfl, ?_⟩) hHeld ?_
  rotate_left
  · (intro W' hW; (try dsimp only at hW); obtain ⟨z3', z4', z5'⟩ := hW; go_simp; (try with_reducible rfl))
  try simp only [Act.put, List.setIfInBounds_toArray, List.set_cons_zero, List.set_cons_succ]
  refine' wpAnyH_take (i := 7) (oi := ⟨_, _, _, _, _, _⟩) (v := _) rfl (by kernel_rfl) (by kernel_rfl) (by kernel_rfl) (fun _ _ _ h => h) (Or.inl ⟨rfl, ?_⟩) hHeld ?_
  rotate_left
  · (intro W' hW; (try dsimp only at hW); obtain ⟨z3', z4', z5'⟩ := hW; go_simp; (try with_reducible rfl))
  try simp only [Act.put, List.setIfInBounds_toArray, List.set_cons_zero, List.set_cons_succ]
  refine' wpAnyH_take (i := 8) (oi := ⟨_, _, _, _, _, _⟩) (v := _) rfl (by kernel_rfl) (by kernel_rfl) (by kernel_rfl) (fun _ _ _ h => h) (Or.inl ⟨rfl, ?_⟩) hHeld ?_
  rotate_left
  · (intro W' hW; (try dsimp only at hW); obtain ⟨z3', z4', z5'⟩ := hW; go_simp; (try with_reducible rfl))
  try simp only [Act.put, List.setIfInBounds_toArray, List.set_cons_zero, List.set_cons_succ]
  refine' wpAnyH_take (i := 9) (oi := ⟨_, _, _, _, _, _⟩) (v := _) rfl (by kernel_rfl) (by kernel_rfl) (by kernel_rfl) (fun _ _ _ h => h) (Or.inl ⟨rfl, ?_⟩) hHeld ?_
  rotate_left
  · (intro W' hW; (try dsimp only at hW); obtain ⟨z3', z4', z5'⟩ := hW; go_simp; (try with_reducible rfl))
  try simp only [Act.put, List.setIfInBounds_toArray, List.set_cons_zero, List.set_cons_succ]
  refine' wpAnyH_take (i := 10) (oi := ⟨_, _, _, _, _, _⟩) (v := _) rfl (by kernel_rfl) (by kernel_rfl) (by kernel_rfl) (fun _ _ _ h => h) (Or.inl ⟨rfl, ?_⟩) hHeld ?_
  rotate_left
  · (intro W' hW; (try dsimp only at hW); obtain ⟨z3', z4', z5'⟩ := hW; go_simp; (try with_reducible rfl))
  try simp only [Act.put, List.setIfInBounds_toArray, List.set_cons_zero, List.set_cons_succ]
  refine' wpAnyH_take (i := 11) (oi := ⟨_, _, _, _, _, _⟩) (v := _) rfl (by kernel_rfl) (by kernel_rfl) (by kernel_rfl) (fun _ _ _ h => h) (Or.inl ⟨rfl, ?_⟩) hHeld ?_
  rotate_left
  · (intro W' hW; (try dsimp only at hW); obtain ⟨z3', z4', z5'⟩ := hW; go_simp; (try with_reducible rfl))
  try simp only [Act.put, List.setIfInBounds_toArray, List.set_cons_zero, List.set_cons_succ]
  refine' wpAnyH_take (i := 12) (oi := ⟨_, _, _, _, _, _⟩) (v := _) rfl (by kernel_rfl) (by kernel_rfl) (by kernel_rfl) (fun _ _ _ h => h) (Or.inl ⟨rfl, ?_⟩) hHeld ?_
  rotate_left
  · (intro W' hW; (try dsimp only at hW); obtain ⟨z3', z4', z5'⟩ := hW; go_simp; (try with_reducible rfl))
  try simp only [Act.put, List.setIfInBounds_toArray, List.set_cons_zero, List.set_cons_succ]
  refine' wpAnyH_take (i := 13) (oi := ⟨_, _, _, _, _, _⟩) (v := undef) rfl (by kernel_rfl) (by kernel_rfl) (by kernel_rfl) (fun _ _ _ h => h) (Or.inr ⟨rfl, rfl⟩) hHeld ?_
  try simp only [Act.put, List.setIfInBounds_toArray, List.set_cons_zero, List.set_cons_succ]
  refine' wpAnyH_take (i := 14) (oi := ⟨_, _, _, _, _, _⟩) (v := undef) rfl (by kernel_rfl) (by kernel_rfl) (by kernel_rfl) (fun _ _ _ h => h) (Or.inr ⟨rfl, rfl⟩) hHeld ?_
  try simp only [Act.put, List.setIfInBounds_toArray, List.set_cons_zero, List.set_cons_succ]
  refine' wpAnyH_take (i := 15) (oi := ⟨_, _, _, _, _, _⟩) (v := undef) rfl (by kernel_rfl) (by kernel_rfl) (by kernel_rfl) (fun _ _ _ h => h) (Or.inr ⟨rfl, rfl⟩) hHeld ?_
  try simp only [Act.put, List.setIfInBounds_toArray, List.set_cons_zero, List.set_cons_succ]
  refine' wpAnyH_take (i := 16) (oi := ⟨_, _, _, _, _, _⟩) (v := undef) rfl (by kernel_rfl) (by kernel_rfl) (by kernel_rfl) (fun _ _ _ h => h) (Or.inr ⟨rfl, rfl⟩) hHeld ?_
  try simp only [Act.put, List.setIfInBounds_toArray, List.set_cons_zero, List.set_cons_succ]
  refine' wpAnyH_take (i := 17) (oi := ⟨_, _, _, _, _, _⟩) (v := undef) rfl (by kernel_rfl) (by kernel_rfl) (by kernel_rfl) (fun _ _ _ h => h) (Or.inr ⟨rfl, rfl⟩) hHeld ?_
  try simp only [Act.put, List.setIfInBounds_toArray, List.set_cons_zero, List.set_cons_succ]
  refine' wpAnyH_take (i := 18) (oi := ⟨_, _, _, _, _, _⟩) (v := undef) rfl (by kernel_rfl) (by kernel_rfl) (by kernel_rfl) (fun _ _ _ h => h) (Or.inr ⟨rfl, rfl⟩) hHeld ?_
  try simp only [Act.put, List.setIfInBounds_toArray, List.set_cons_zero, List.set_cons_succ]
  refine' wpAnyH_take (i := 19) (oi := ⟨_, _, _, _, _, _⟩) (v := undef) rfl (by kernel_rfl) (by kernel_rfl) (by kernel_rfl) (fun _ _ _ h => h) (Or.inr ⟨rfl, rfl⟩) hHeld ?_
  try simp only [Act.put, List.setIfInBounds_toArray, List.set_cons_zero, List.set_cons_succ]
  refine' wpAnyH_take (i := 20) (oi := ⟨_, _, _, _, _, _⟩) (v := _) rfl (by kernel_rfl) (by kernel_rfl) (by kernel_rfl) (fun _ _ _ h => h) (Or.inl ⟨rfl, ?_⟩) hHeld ?_
  rotate_left
  · (intro W' hW; (try dsimp only at hW); obtain ⟨z3', z4', z5'⟩ := hW; go_simp; (try with_reducible rfl))
  try simp only [Act.put, List.setIfInBounds_toArray, List.set_cons_zero, List.set_cons_succ]
  refine' wpAnyH_take (i := 21) (oi := ⟨_, _, _, _, _, _⟩) (v := _) rfl (by kernel_rfl) (by kernel_rfl) (by kernel_rfl) (fun _ _ _ h => h) (Or.inl ⟨rfl, ?_⟩) hHeld ?_
  rotate_left
  · (intro W' hW; (try dsimp only at hW); obtain ⟨z3', z4', z5'⟩ := hW; go_simp; (try with_reducible rfl))
  try simp only [Act.put, List.setIfInBounds_toArray, List.set_cons_zero, List.set_cons_succ]
  refine wpAnyH_done (by kernel_rfl) ?_ _
  clear hHeld
  have B3 := HB.out U K2.out
  have v0 : U.cell? ⟨q, 0, none⟩ = some (.int .i64 f) := B3.cell 0
  have v1 : U.cell? ⟨q, 1, none⟩ = some (.int .i64 t) := B3.cell 1
  have v2 : U.cell? ⟨q, 2, none⟩ = some (.int .i64 4) := B3.cell 2
  have v3 : U.cell? ⟨q, 3, none⟩ = some (.slice (some ⟨g, 0, none⟩) 3 c) := B3.cell 3
  have v4 : U.cell? ⟨q, 4, none⟩ = some (.slice none 0 0) := B3.cell 4
  have CA := hide (took_old H2.out f t 4 g c none 0 0 z0 z1 z2 N2.out hro)
  unfold msgV at CA
  rw [HTT.out] at hlt
  clear B3
  go_wp2_with fail
  refine CA.out.mono ?_
  rintro e w5 ⟨rfl, k5⟩
  have KK := hide ((KA.out.trans (K2.out.mono KA.out.size)).trans (k5.mono (Nat.le_trans KA.out.size K2.out.size)))
  clear k5
  go_wp2_with fail
  go_ret
  exact ⟨rfl, KK.out⟩
end Go.Proofs.YtejhoefmcldpnaaGreat
