/- The contracts of told, asked, voted and took at a message of an older term. Condition: as each says. The contracts of voted and took at one that is a follower, of told at a message of its own term without entries. Condition: as each says. -/
import Derived.Test.YtejhoefmcldpnaaGreatRk40
namespace Go.Proofs.YtejhoefmcldpnaaGreat
open Go.RowKit Go.Maps
theorem build_nums (w : World) (cs : Array Value) (zs : List Int) (h : cs.toList = zs.map fun z : Int => Value.int .i64 z) : NumsAt (w.alloc (.cells cs 3)) w.heap.size zs := by
  intro i hi
  have bg := Blk.new w (B := 0) 3 cs (Nat.zero_le _)
  rw [bg.cell i, h]
  simp [hi]
set_option maxRecDepth 100000 in
set_option maxHeartbeats 3200000 in
theorem told_old {w : World} {S : Nat → Prop} {r d l room : Nat} {N : Nd} {M : LogL} {L : DiskL} (h : NdS w S r d l room N M L) (f t k draw : Int) (g c : Nat) (D : Option Addr) (m dc : Nat) (z0 z1 z2 z3 : Int) (hN : NumsAt w g [z0, z1, z2, z3]) (hlt : z0 < (N.term : Int)) :
    Calls Tryz.prog 29 #[.pointer (some ⟨r, 0, none⟩), msgV f t k g 4 c D m dc, .slice none 0 0, .int .i64 draw] w fun e w' => ∃ v ga, e = .returned v ∧ OneA w' v (N.id : Int) f 4 ga 3 3 ∧ NumsAt w' ga [(N.term : Int), 0, 0] ∧ Below w.heap.size w w' := by
  have ka := below_alloc w (.cells #[.int .i64 f, .int .i64 t, .int .i64 k, .slice (some ⟨g, 0, none⟩) 4 c, .slice D m dc] 34)
  have bg := Blk.new w (B := 0) 34 #[.int .i64 f, .int .i64 t, .int .i64 k, .slice (some ⟨g, 0, none⟩) 4 c, .slice D m dc] (Nat.zero_le _)
  obtain ⟨q, hq⟩ : ∃ q, q = w.heap.size := ⟨_, rfl⟩
  obtain ⟨W, hW⟩ : ∃ W, W = w.alloc (.cells #[.int .i64 f, .int .i64 t, .int .i64 k, .slice (some ⟨g, 0, none⟩) 4 c, .slice D m dc] 34) := ⟨_, rfl⟩
  have HN0 := h.below ka
  have NN := hN.keep ka
  rw [← hW] at ka bg HN0 NN
  rw [← hq] at bg
  have x0 : W.cell? ⟨q, 0, none⟩ = some (.int .i64 f) := bg.cell 0
  have x1 : W.cell? ⟨q, 1, none⟩ = some (.int .i64 t) := bg.cell 1
  have x2 : W.cell? ⟨q, 2, none⟩ = some (.int .i64 k) := bg.cell 2
  have x3 : W.cell? ⟨q, 3, none⟩ = some (.slice (some ⟨g, 0, none⟩) 4 c) := bg.cell 3
  have x4 : W.cell? ⟨q, 4, none⟩ = some (.slice D m dc) := bg.cell 4
  have c0 : W.cell? ⟨g, 0, none⟩ = some (.int .i64 z0) := NN 0 (by simp)
  have c1 : W.cell? ⟨g, 1, none⟩ = some (.int .i64 z1) := NN 1 (by simp)
  have c2 : W.cell? ⟨g, 2, none⟩ = some (.int .i64 z2) := NN 2 (by simp)
  have c3 : W.cell? ⟨g, 3, none⟩ = some (.int .i64 z3) := NN 3 (by simp)
  have r4 : W.cell? ⟨r, 4, none⟩ = some (.int .i64 (N.term : Int)) := nds_cell HN0 4
  obtain ⟨tt, htt⟩ : ∃ z, z = N.term := ⟨_, rfl⟩
  obtain ⟨nid, hid⟩ : ∃ z, z = N.id := ⟨_, rfl⟩
  rw [← htt] at r4 hlt ⊢
  rw [← hid]
  have HID := hide hid
  have KA := hide ka
  have HN := hide HN0
  have BG := hide bg
  clear h hN htt hid HN0 NN ka bg
  unfold msgV
  go_enter Tryz.func29, Tryz.ntmps29
  go_wp2_with fail
  rw [← hW, ← hq]
  clear hW hq
  go_quiet (fail)
  have HNd := hide (HN.out.below (below_drewN (Below.refl _ _) nq))
  have KAd := hide (KA.out.trans ((below_drewN (Below.refl W.heap.size W) nq).mono KA.out.size))
  have BGd := hide (BG.out.drewN nq)
  have y0 : (W.drewN nq).cell? ⟨q, 0, none⟩ = some (.int .i64 f) := x0
  have y1 : (W.drewN nq).cell? ⟨q, 1, none⟩ = some (.int .i64 t) := x1
  have y2 : (W.drewN nq).cell? ⟨q, 2, none⟩ = some (.int .i64 k) := x2
  have y3 : (W.drewN nq).cell? ⟨q, 3, none⟩ = some (.slice (some ⟨g, 0, none⟩) 4 c) := x3
  have y4 : (W.drewN nq).cell? ⟨q, 4, none⟩ = some (.slice D m dc) := x4
  have s4 : (W.drewN nq).cell? ⟨r, 4, none⟩ = some (.int .i64 (tt : Int)) := r4
  clear x0 x1 x2 x3 x4 r4 c0 c1 c2 c3 HN KA BG
  generalize W.drewN nq = U at *
  go_wp2_with fail
  have kb := below_alloc U (.cells #[.int .i64 (tt : Int), .int .i64 0, .int .i64 0] 3)
  have NB := hide (build_nums U #[.int .i64 (tt : Int), .int .i64 0, .int .i64 0] [(tt : Int), 0, 0] rfl)
  have KB := hide (kb.trans ((below_drew _).mono kb.size))
  clear kb
  go_region_held3 (fun W' => W'.cell? ⟨q, 0, none⟩ = some (.int .i64 f) ∧ W'.cell? ⟨q, 1, none⟩ = some (.int .i64 t) ∧ W'.cell? ⟨q, 2, none⟩ = some (.int .i64 k) ∧ W'.cell? ⟨q, 3, none⟩ = some (.slice (some ⟨g, 0, none⟩) 4 c) ∧ W'.cell? ⟨q, 4, none⟩ = some (.slice D m dc) ∧ W'.cell? ⟨r, 4, none⟩ = some (.int .i64 (tt : Int))) (go_keep)
    (first
      | (go_at_call 54; refine (answer_any (HNd.out.below KB.out) f t k 4 g 4 c D m dc _ _ _).mono ?_; rintro e w2 ⟨v, rfl, oa, k2⟩; rw [← HID.out] at oa; have K2 := hide (KB.out.trans (k2.mono KB.out.size)); have B2 := BGd.out.keep K2.out; have v0 : w2.cell? ⟨q, 0, none⟩ = some (.int .i64 f) := B2.cell 0; have v1 : w2.cell? ⟨q, 1, none⟩ = some (.int .i64 t) := B2.cell 1; have v2 : w2.cell? ⟨q, 2, none⟩ = some (.int .i64 k) := B2.cell 2; have v3 : w2.cell? ⟨q, 3, none⟩ = some (.slice (some ⟨g, 0, none⟩) 4 c) := B2.cell 3; have v4 : w2.cell? ⟨q, 4, none⟩ = some (.slice D m dc) := B2.cell 4; have v5 := (K2.out.cell (cell_lt s4)).trans s4; have NA := hide (NumsAt.keep (by exact NB.out) k2); have OA := hide oa; clear oa k2 B2))
  go_wp2_with fail
  go_ret
  exact ⟨v, U.heap.size, rfl, OA.out, NA.out, KAd.out.trans (K2.out.mono KAd.out.size)⟩
set_option maxRecDepth 100000 in
set_option maxHeartbeats 3200000 in
theorem asked_old {w : World} {S : Nat → Prop} {r d l room : Nat} {N : Nd} {M : LogL} {L : DiskL} (h : NdS w S r d l room N M L) (f t k draw : Int) (g c : Nat) (D : Option Addr) (m dc : Nat) (z0 z1 z2 : Int) (hN : NumsAt w g [z0, z1, z2]) (hlt : z0 < (N.term : Int)) :
    Calls Tryz.prog 27 #[.pointer (some ⟨r, 0, none⟩), msgV f t k g 3 c D m dc, .int .i64 draw] w fun e w' => ∃ v ga, e = .returned v ∧ OneA w' v (N.id : Int) f 2 ga 2 2 ∧ NumsAt w' ga [(N.term : Int), 0] ∧ Below w.heap.size w w' := by
  have ka := below_alloc w (.cells #[.int .i64 f, .int .i64 t, .int .i64 k, .slice (some ⟨g, 0, none⟩) 3 c, .slice D m dc] 34)
  have bg := Blk.new w (B := 0) 34 #[.int .i64 f, .int .i64 t, .int .i64 k, .slice (some ⟨g, 0, none⟩) 3 c, .slice D m dc] (Nat.zero_le _)
  obtain ⟨q, hq⟩ : ∃ q, q = w.heap.size := ⟨_, rfl⟩
  obtain ⟨W, hW⟩ : ∃ W, W = w.alloc (.cells #[.int .i64 f, .int .i64 t, .int .i64 k, .slice (some ⟨g, 0, none⟩) 3 c, .slice D m dc] 34) := ⟨_, rfl⟩
  have HN0 := h.below ka
  have NN := hN.keep ka
  rw [← hW] at ka bg HN0 NN
  rw [← hq] at bg
  have x0 : W.cell? ⟨q, 0, none⟩ = some (.int .i64 f) := bg.cell 0
  have x1 : W.cell? ⟨q, 1, none⟩ = some (.int .i64 t) := bg.cell 1
  have x2 : W.cell? ⟨q, 2, none⟩ = some (.int .i64 k) := bg.cell 2
  have x3 : W.cell? ⟨q, 3, none⟩ = some (.slice (some ⟨g, 0, none⟩) 3 c) := bg.cell 3
  have x4 : W.cell? ⟨q, 4, none⟩ = some (.slice D m dc) := bg.cell 4
  have c0 : W.cell? ⟨g, 0, none⟩ = some (.int .i64 z0) := NN 0 (by simp)
  have c1 : W.cell? ⟨g, 1, none⟩ = some (.int .i64 z1) := NN 1 (by simp)
  have c2 : W.cell? ⟨g, 2, none⟩ = some (.int .i64 z2) := NN 2 (by simp)
  have r4 : W.cell? ⟨r, 4, none⟩ = some (.int .i64 (N.term : Int)) := nds_cell HN0 4
  obtain ⟨tt, htt⟩ : ∃ z, z = N.term := ⟨_, rfl⟩
  obtain ⟨nid, hid⟩ : ∃ z, z = N.id := ⟨_, rfl⟩
  rw [← htt] at r4 hlt ⊢
  rw [← hid]
  have hne : ((z0 : Int) != (tt : Int)) = true := by simp; omega
  have HID := hide hid
  have KA := hide ka
  have HN := hide HN0
  have BG := hide bg
  clear h hN htt hid HN0 NN ka bg
  unfold msgV
  go_enter Tryz.func27, Tryz.ntmps27
  go_wp2_with fail
  rw [← hW, ← hq]
  clear hW hq
  go_quiet (fail)
  have HNd := hide (HN.out.below (below_drewN (Below.refl _ _) nq))
  have KAd := hide (KA.out.trans ((below_drewN (Below.refl W.heap.size W) nq).mono KA.out.size))
  have BGd := hide (BG.out.drewN nq)
  have y0 : (W.drewN nq).cell? ⟨q, 0, none⟩ = some (.int .i64 f) := x0
  have y1 : (W.drewN nq).cell? ⟨q, 1, none⟩ = some (.int .i64 t) := x1
  have y2 : (W.drewN nq).cell? ⟨q, 2, none⟩ = some (.int .i64 k) := x2
  have y3 : (W.drewN nq).cell? ⟨q, 3, none⟩ = some (.slice (some ⟨g, 0, none⟩) 3 c) := x3
  have y4 : (W.drewN nq).cell? ⟨q, 4, none⟩ = some (.slice D m dc) := x4
  have s4 : (W.drewN nq).cell? ⟨r, 4, none⟩ = some (.int .i64 (tt : Int)) := r4
  clear x0 x1 x2 x3 x4 r4 c0 c1 c2 HN KA BG
  generalize W.drewN nq = U at *
  go_wp2_with fail
  refine heldT_top (fun W' : World => W'.cell? ⟨r, 4, none⟩ = some (.int .i64 (tt : Int))) 29 #[false, false, false, false, false, false, false, false, false, false, false, false, false, false, false, false, false, false, false, false, false, false, false, false, false, false, false, false, false] (by kernel_rfl) (by kernel_rfl) (by kernel_rfl) ?_
  have hHeld : (fun W' : World => W'.cell? ⟨r, 4, none⟩ = some (.int .i64 (tt : Int))) (U.drewN 1) := s4
  have HNd := hide (HNd.out.below (below_drewN (Below.refl _ _) 1))
  have KAd := hide (KAd.out.trans ((below_drewN (Below.refl U.heap.size U) 1).mono KAd.out.size))
  have BGd := hide (BGd.out.drewN 1)
  have y0' : (U.drewN 1).cell? ⟨q, 0, none⟩ = some (.int .i64 f) := y0
  have y1' : (U.drewN 1).cell? ⟨q, 1, none⟩ = some (.int .i64 t) := y1
  have y2' : (U.drewN 1).cell? ⟨q, 2, none⟩ = some (.int .i64 k) := y2
  have y3' : (U.drewN 1).cell? ⟨q, 3, none⟩ = some (.slice (some ⟨g, 0, none⟩) 3 c) := y3
  have y4' : (U.drewN 1).cell? ⟨q, 4, none⟩ = some (.slice D m dc) := y4
  have s4' : (U.drewN 1).cell? ⟨r, 4, none⟩ = some (.int .i64 (tt : Int)) := s4
  clear y0 y1 y2 y3 y4 s4
  change wpAnyH _ _ _ _ _ _ _ _ (U.drewN 1)
  generalize U.drewN 1 = V at *
  refine' wpAnyH_take (i := 0) (oi := ⟨_, _, _, _, _, _⟩) (v := _) rfl (by kernel_rfl) (by kernel_rfl) (by kernel_rfl) (fun _ _ _ h => h) (Or.inl ⟨rfl, ?_⟩) hHeld ?_
  rotate_left
  · (intro W' hW; (try dsimp only at hW); obtain z4 := hW; go_simp; (try with_reducible rfl))
  try simp only [Act.put, List.setIfInBounds_toArray, List.set_cons_zero, List.set_cons_succ]
  refine' wpAnyH_take (i := 1) (oi := ⟨_, _, _, _, _, _⟩) (v := _) rfl (by kernel_rfl) (by kernel_rfl) (by kernel_rfl) (fun _ _ _ h => h) (Or.inl ⟨rfl, ?_⟩) hHeld ?_
  rotate_left
  · (intro W' hW; (try dsimp only at hW); obtain z4 := hW; go_simp; (try with_reducible rfl))
  try simp only [Act.put, List.setIfInBounds_toArray, List.set_cons_zero, List.set_cons_succ]
  refine' wpAnyH_take (i := 2) (oi := ⟨_, _, _, _, _, _⟩) (v := _) rfl (by kernel_rfl) (by kernel_rfl) (by kernel_rfl) (fun _ _ _ h => h) (Or.inl ⟨rfl, ?_⟩) hHeld ?_
  rotate_left
  · (intro W' hW; (try dsimp only at hW); obtain z4 := hW; go_simp; (try with_reducible rfl))
  try simp only [Act.put, List.setIfInBounds_toArray, List.set_cons_zero, List.set_cons_succ]
  refine' wpAnyH_take (i := 3) (oi := ⟨_, _, _, _, _, _⟩) (v := _) rfl (by kernel_rfl) (by kernel_rfl) (by kernel_rfl) (fun _ _ _ h => h) (Or.inl ⟨rfl, ?_⟩) hHeld ?_
  rotate_left
  · (intro W' hW; (try dsimp only at hW); obtain z4 := hW; go_simp; (try with_reducible rfl))
  try simp only [Act.put, List.setIfInBounds_toArray, List.set_cons_zero, List.set_cons_succ]
  refine' wpAnyH_take (i := 4) (oi := ⟨_, _, _, _, _, _⟩) (v := _) rfl (by kernel_rfl) (by kernel_rfl) (by kernel_rfl) (fun _ _ _ h => h) (Or.inl ⟨rfl, ?_⟩) hHeld ?_
  rotate_left
  · (intro W' hW; (try dsimp only at hW); obtain z4 := hW; go_simp; (try with_reducible rfl))
  try simp only [Act.put, List.setIfInBounds_toArray, List.set_cons_zero, List.set_cons_succ]
  refine' wpAnyH_take (i := 5) (oi := ⟨_, _, _, _, _, _⟩) (v := _) rfl (by kernel_rfl) (by kernel_rfl) (by kernel_rfl) (fun _ _ _ h => h) (Or.inl ⟨rfl, ?_⟩) hHeld ?_
  rotate_left
  · (intro W' hW; (try dsimp only at hW); obtain z4 := hW; go_simp; (try with_reducible rfl))
  try simp only [Act.put, List.setIfInBounds_toArray, List.set_cons_zero, List.set_cons_succ]
  refine' wpAnyH_take (i := 6) (oi := ⟨_, _, _, _, _, _⟩) (v := _) rfl (by kernel_rfl) (by kernel_rfl) (by kernel_rfl) (fun _ _ _ h => h) (Or.inl ⟨rfl, ?_⟩) hHeld ?_
  rotate_left
  · (intro W' hW; (try dsimp only at hW); obtain z4 := hW; go_simp; (try with_reducible rfl))
  try simp only [Act.put, List.setIfInBounds_toArray, List.set_cons_zero, List.set_cons_succ]
  refine' wpAnyH_take (i := 7) (oi := ⟨_, _, _, _, _, _⟩) (v := undef) rfl (by kernel_rfl) (by kernel_rfl) (by kernel_rfl) (fun _ _ _ h => h) (Or.inr ⟨rfl, rfl⟩) hHeld ?_
  try simp only [Act.put, List.setIfInBounds_toArray, List.set_cons_zero, List.set_cons_succ]
  refine' wpAnyH_take (i := 8) (oi := ⟨_, _, _, _, _, _⟩) (v := undef) rfl (by kernel_rfl) (by kernel_rfl) (by kernel_rfl) (fun _ _ _ h => h) (Or.inr ⟨rfl, rfl⟩) hHeld ?_
  try simp only [Act.put, List.setIfInBounds_toArray, List.set_cons_zero, List.set_cons_succ]
  refine' wpAnyH_take (i := 9) (oi := ⟨_, _, _, _, _, _⟩) (v := undef) rfl (by kernel_rfl) (by kernel_rfl) (by kernel_rfl) (fun _ _ _ h => h) (Or.inr ⟨rfl, rfl⟩) hHeld ?_
  try simp only [Act.put, List.setIfInBounds_toArray, List.set_cons_zero, List.set_cons_succ]
  refine' wpAnyH_take (i := 10) (oi := ⟨_, _, _, _, _, _⟩) (v := undef) rfl (by kernel_rfl) (by kernel_rfl) (by kernel_rfl) (fun _ _ _ h => h) (Or.inr ⟨rfl, rfl⟩) hHeld ?_
  try simp only [Act.put, List.setIfInBounds_toArray, List.set_cons_zero, List.set_cons_succ]
  refine' wpAnyH_take (i := 11) (oi := ⟨_, _, _, _, _, _⟩) (v := undef) rfl (by kernel_rfl) (by kernel_rfl) (by kernel_rfl) (fun _ _ _ h => h) (Or.inr ⟨rfl, rfl⟩) hHeld ?_
  try simp only [Act.put, List.setIfInBounds_toArray, List.set_cons_zero, List.set_cons_succ]
  refine' wpAnyH_take (i := 12) (oi := ⟨_, _, _, _, _, _⟩) (v := undef) rfl (by kernel_rfl) (by kernel_rfl) (by kernel_rfl) (fun _ _ _ h => h) (Or.inr ⟨rfl, rfl⟩) hHeld ?_
  try simp only [Act.put, List.setIfInBounds_toArray, List.set_cons_zero, List.set_cons_succ]
  refine' wpAnyH_take (i := 13) (oi := ⟨_, _, _, _, _, _⟩) (v := undef) rfl (by kernel_rfl) (by kernel_rfl) (by kernel_rfl) (fun _ _ _ h => h) (Or.inr ⟨rfl, rfl⟩) hHeld ?_
  try simp only [Act.put, List.setIfInBounds_toArray, List.set_cons_zero, List.set_cons_succ]
  refine' wpAnyH_take (i := 14) (oi := ⟨_, _, _, _, _, _⟩) (v := undef) rfl (by kernel_rfl) (by kernel_rfl) (by kernel_rfl) (fun _ _ _ h => h) (Or.inr ⟨rfl, rfl⟩) hHeld ?_
  try simp only [Act.put, List.setIfInBounds_toArray, List.set_cons_zero, List.set_cons_succ]
  refine' wpAnyH_take (i := 15) (oi := ⟨_, _, _, _, _, _⟩) (v := undef) rfl (by kernel_rfl) (by kernel_rfl) (by kernel_rfl) (fun _ _ _ h => h) (Or.inr ⟨rfl, rfl⟩) hHeld ?_
  try simp only [Act.put, List.setIfInBounds_toArray, List.set_cons_zero, List.set_cons_succ]
  refine' wpAnyH_take (i := 16) (oi := ⟨_, _, _, _, _, _⟩) (v := undef) rfl (by kernel_rfl) (by kernel_rfl) (by kernel_rfl) (fun _ _ _ h => h) (Or.inr ⟨rfl, rfl⟩) hHeld ?_
  try simp only [Act.put, List.setIfInBounds_toArray, List.set_cons_zero, List.set_cons_succ]
  refine' wpAnyH_take (i := 17) (oi := ⟨_, _, _, _, _, _⟩) (v := undef) rfl (by kernel_rfl) (by kernel_rfl) (by kernel_rfl) (fun _ _ _ h => h) (Or.inr ⟨rfl, rfl⟩) hHeld ?_
  try simp only [Act.put, List.setIfInBounds_toArray, List.set_cons_zero, List.set_cons_succ]
  refine' wpAnyH_take (i := 18) (oi := ⟨_, _, _, _, _, _⟩) (v := undef) rfl (by kernel_rfl) (by kernel_rfl) (by kernel_rfl) (fun _ _ _ h => h) (Or.inr ⟨rfl, rfl⟩) hHeld ?_
  try simp only [Act.put, List.setIfInBounds_toArray, List.set_cons_zero, List.set_cons_succ]
  refine' wpAnyH_take (i := 19) (oi := ⟨_, _, _, _, _, _⟩) (v := undef) rfl (by kernel_rfl) (by kernel_rfl) (by kernel_rfl) (fun _ _ _ h => h) (Or.inr ⟨rfl, rfl⟩) hHeld ?_
  try simp only [Act.put, List.setIfInBounds_toArray, List.set_cons_zero, List.set_cons_succ]
  refine' wpAnyH_take (i := 20) (oi := ⟨_, _, _, _, _, _⟩) (v := undef) rfl (by kernel_rfl) (by kernel_rfl) (by kernel_rfl) (fun _ _ _ h => h) (Or.inr ⟨rfl, rfl⟩) hHeld ?_
  try simp only [Act.put, List.setIfInBounds_toArray, List.set_cons_zero, List.set_cons_succ]
  refine' wpAnyH_take (i := 21) (oi := ⟨_, _, _, _, _, _⟩) (v := _) rfl (by kernel_rfl) (by kernel_rfl) (by kernel_rfl) (fun _ _ _ h => h) (Or.inl ⟨rfl, ?_⟩) hHeld ?_
  rotate_left
  · (intro W' hW; (try dsimp only at hW); obtain z4 := hW; go_simp; (try with_reducible rfl))
  try simp only [Act.put, List.setIfInBounds_toArray, List.set_cons_zero, List.set_cons_succ]
  refine' wpAnyH_take (i := 22) (oi := ⟨_, _, _, _, _, _⟩) (v := _) rfl (by kernel_rfl) (by kernel_rfl) (by kernel_rfl) (fun _ _ _ h => h) (Or.inl ⟨rfl, ?_⟩) hHeld ?_
  rotate_left
  · (intro W' hW; (try dsimp only at hW); obtain z4 := hW; go_simp; (try with_reducible rfl))
  try simp only [Act.put, List.setIfInBounds_toArray, List.set_cons_zero, List.set_cons_succ]
  refine' wpAnyH_take (i := 23) (oi := ⟨_, _, _, _, _, _⟩) (v := undef) rfl (by kernel_rfl) (by kernel_rfl) (by kernel_rfl) (fun _ _ _ h => h) (Or.inr ⟨rfl, rfl⟩) hHeld ?_
  try simp only [Act.put, List.setIfInBounds_toArray, List.set_cons_zero, List.set_cons_succ]
  refine' wpAnyH_take (i := 24) (oi := ⟨_, _, _, _, _, _⟩) (v := undef) rfl (by kernel_rfl) (by kernel_rfl) (by kernel_rfl) (fun _ _ _ h => h) (Or.inr ⟨rfl, rfl⟩) hHeld ?_
  try simp only [Act.put, List.setIfInBounds_toArray, List.set_cons_zero, List.set_cons_succ]
  refine' wpAnyH_take (i := 25) (oi := ⟨_, _, _, _, _, _⟩) (v := undef) rfl (by kernel_rfl) (by kernel_rfl) (by kernel_rfl) (fun _ _ _ h => h) (Or.inr ⟨rfl, rfl⟩) hHeld ?_
  try simp only [Act.put, List.setIfInBounds_toArray, List.set_cons_zero, List.set_cons_succ]
  refine' wpAnyH_take (i := 26) (oi := ⟨_, _, _, _, _, _⟩) (v := undef) rfl (by kernel_rfl) (by kernel_rfl) (by kernel_rfl) (fun _ _ _ h => h) (Or.inr ⟨rfl, rfl⟩) hHeld ?_
  try simp only [Act.put, List.setIfInBounds_toArray, List.set_cons_zero, List.set_cons_succ]
  refine' wpAnyH_take (i := 27) (oi := ⟨_, _, _, _, _, _⟩) (v := undef) rfl (by kernel_rfl) (by kernel_rfl) (by kernel_rfl) (fun _ _ _ h => h) (Or.inr ⟨rfl, rfl⟩) hHeld ?_
  try simp only [Act.put, List.setIfInBounds_toArray, List.set_cons_zero, List.set_cons_succ]
  refine' wpAnyH_take (i := 28) (oi := ⟨_, _, _, _, _, _⟩) (v := _) rfl (by kernel_rfl) (by kernel_rfl) (by kernel_rfl) (fun _ _ _ h => h) (Or.inl ⟨rfl, ?_⟩) hHeld ?_
  rotate_left
  · (intro W' hW; (try dsimp only at hW); obtain z4 := hW; go_simp; (try with_reducible rfl))
  try simp only [Act.put, List.setIfInBounds_toArray, List.set_cons_zero, List.set_cons_succ]
  refine wpAnyH_done (by kernel_rfl) ?_ _
  clear hHeld
  go_wp2_with fail
  have kb := below_alloc V (.cells #[.int .i64 (tt : Int), .int .i64 0] 3)
  have NB := hide (build_nums V #[.int .i64 (tt : Int), .int .i64 0] [(tt : Int), 0] rfl)
  have KB := hide (kb.trans ((below_drew _).mono kb.size))
  clear kb
  go_region_held3 (fun W' => W'.cell? ⟨q, 0, none⟩ = some (.int .i64 f) ∧ W'.cell? ⟨q, 1, none⟩ = some (.int .i64 t) ∧ W'.cell? ⟨q, 2, none⟩ = some (.int .i64 k) ∧ W'.cell? ⟨q, 3, none⟩ = some (.slice (some ⟨g, 0, none⟩) 3 c) ∧ W'.cell? ⟨q, 4, none⟩ = some (.slice D m dc) ∧ W'.cell? ⟨r, 4, none⟩ = some (.int .i64 (tt : Int))) (go_keep)
    (first
      | (go_at_call 54; refine (answer_any (HNd.out.below KB.out) f t k 2 g 3 c D m dc _ _ _).mono ?_; rintro e w2 ⟨v, rfl, oa, k2⟩; rw [← HID.out] at oa; have K2 := hide (KB.out.trans (k2.mono KB.out.size)); have B2 := BGd.out.keep K2.out; have v0 : w2.cell? ⟨q, 0, none⟩ = some (.int .i64 f) := B2.cell 0; have v1 : w2.cell? ⟨q, 1, none⟩ = some (.int .i64 t) := B2.cell 1; have v2 : w2.cell? ⟨q, 2, none⟩ = some (.int .i64 k) := B2.cell 2; have v3 : w2.cell? ⟨q, 3, none⟩ = some (.slice (some ⟨g, 0, none⟩) 3 c) := B2.cell 3; have v4 : w2.cell? ⟨q, 4, none⟩ = some (.slice D m dc) := B2.cell 4; have v5 := (K2.out.cell (cell_lt s4')).trans s4'; have NA := hide (NumsAt.keep (by exact NB.out) k2); have OA := hide oa; clear oa k2 B2))
  go_wp2_with fail
  go_ret
  exact ⟨v, V.heap.size, rfl, OA.out, NA.out, KAd.out.trans (K2.out.mono KAd.out.size)⟩
end Go.Proofs.YtejhoefmcldpnaaGreat
namespace Go.Proofs.YtejhoefmcldpnaaGreat
open Go.RowKit Go.Maps
set_option maxRecDepth 100000 in
set_option maxHeartbeats 3200000 in
theorem voted_old {w : World} {S : Nat → Prop} {r d l room : Nat} {N : Nd} {M : LogL} {L : DiskL} (h : NdS w S r d l room N M L) (f t k : Int) (g c : Nat) (D : Option Addr) (m dc : Nat) (z0 z1 : Int) (hN : NumsAt w g [z0, z1]) (hr : N.role = 0) :
    Calls Tryz.prog 28 #[.pointer (some ⟨r, 0, none⟩), msgV f t k g 2 c D m dc] w fun e w' => e = .returned (.slice none 0 0) ∧ Below w.heap.size w w' := by
  have ka := below_alloc w (.cells #[.int .i64 f, .int .i64 t, .int .i64 k, .slice (some ⟨g, 0, none⟩) 2 c, .slice D m dc] 34)
  have bg := Blk.new w (B := 0) 34 #[.int .i64 f, .int .i64 t, .int .i64 k, .slice (some ⟨g, 0, none⟩) 2 c, .slice D m dc] (Nat.zero_le _)
  obtain ⟨q, hq⟩ : ∃ q, q = w.heap.size := ⟨_, rfl⟩
  obtain ⟨W, hW⟩ : ∃ W, W = w.alloc (.cells #[.int .i64 f, .int .i64 t, .int .i64 k, .slice (some ⟨g, 0, none⟩) 2 c, .slice D m dc] 34) := ⟨_, rfl⟩
  have HN0 := h.below ka
  have NN := hN.keep ka
  rw [← hW] at ka bg HN0 NN
  rw [← hq] at bg
  have x0 : W.cell? ⟨q, 0, none⟩ = some (.int .i64 f) := bg.cell 0
  have x1 : W.cell? ⟨q, 1, none⟩ = some (.int .i64 t) := bg.cell 1
  have x2 : W.cell? ⟨q, 2, none⟩ = some (.int .i64 k) := bg.cell 2
  have x3 : W.cell? ⟨q, 3, none⟩ = some (.slice (some ⟨g, 0, none⟩) 2 c) := bg.cell 3
  have x4 : W.cell? ⟨q, 4, none⟩ = some (.slice D m dc) := bg.cell 4
  have c0 : W.cell? ⟨g, 0, none⟩ = some (.int .i64 z0) := NN 0 (by simp)
  have c1 : W.cell? ⟨g, 1, none⟩ = some (.int .i64 z1) := NN 1 (by simp)
  have r6 : W.cell? ⟨r, 6, none⟩ = some (.int .i64 (N.role : Int)) := nds_cell HN0 6
  rw [hr] at r6
  have KA := hide ka
  clear h hN hr HN0 NN ka bg
  unfold msgV
  go_enter Tryz.func28, Tryz.ntmps28
  go_wp2_with fail
  rw [← hW, ← hq]
  clear hW hq
  go_quiet (fail)
  have KAd := hide (KA.out.trans ((below_drewN (Below.refl W.heap.size W) nq).mono KA.out.size))
  have s6 : (W.drewN nq).cell? ⟨r, 6, none⟩ = some (.int .i64 ((0 : Nat) : Int)) := r6
  clear x0 x1 x2 x3 x4 r6 c0 c1 KA
  generalize W.drewN nq = U at *
  go_wp2_with fail
  go_ret
  exact ⟨rfl, KAd.out⟩
set_option maxRecDepth 100000 in
set_option maxHeartbeats 3200000 in
theorem took_old {w : World} {S : Nat → Prop} {r d l room : Nat} {N : Nd} {M : LogL} {L : DiskL} (h : NdS w S r d l room N M L) (f t k : Int) (g c : Nat) (D : Option Addr) (m dc : Nat) (z0 z1 z2 : Int) (hN : NumsAt w g [z0, z1, z2]) (hr : N.role = 0) :
    Calls Tryz.prog 30 #[.pointer (some ⟨r, 0, none⟩), msgV f t k g 3 c D m dc] w fun e w' => e = .returned (.slice none 0 0) ∧ Below w.heap.size w w' := by
  have ka := below_alloc w (.cells #[.int .i64 f, .int .i64 t, .int .i64 k, .slice (some ⟨g, 0, none⟩) 3 c, .slice D m dc] 34)
  have bg := Blk.new w (B := 0) 34 #[.int .i64 f, .int .i64 t, .int .i64 k, .slice (some ⟨g, 0, none⟩) 3 c, .slice D m dc] (Nat.zero_le _)
  obtain ⟨q, hq⟩ : ∃ q, q = w.heap.size := ⟨_, rfl⟩
  obtain ⟨W, hW⟩ : ∃ W, W = w.alloc (.cells #[.int .i64 f, .int .i64 t, .int .i64 k, .slice (some ⟨g, 0, none⟩) 3 c, .slice D m dc] 34) := ⟨_, rfl⟩
  have HN0 := h.below ka
  have NN := hN.keep ka
  rw [← hW] at ka bg HN0 NN
  rw [← hq] at bg
  have x0 : W.cell? ⟨q, 0, none⟩ = some (.int .i64 f) := bg.cell 0
  have x1 : W.cell? ⟨q, 1, none⟩ = some (.int .i64 t) := bg.cell 1
  have x2 : W.cell? ⟨q, 2, none⟩ = some (.int .i64 k) := bg.cell 2
  have x3 : W.cell? ⟨q, 3, none⟩ = some (.slice (some ⟨g, 0, none⟩) 3 c) := bg.cell 3
  have x4 : W.cell? ⟨q, 4, none⟩ = some (.slice D m dc) := bg.cell 4
  have c0 : W.cell? ⟨g, 0, none⟩ = some (.int .i64 z0) := NN 0 (by simp)
  have c1 : W.cell? ⟨g, 1, none⟩ = some (.int .i64 z1) := NN 1 (by simp)
  have c2 : W.cell? ⟨g, 2, none⟩ = some (.int .i64 z2) := NN 2 (by simp)
  have r6 : W.cell? ⟨r, 6, none⟩ = some (.int .i64 (N.role : Int)) := nds_cell HN0 6
  rw [hr] at r6
  have KA := hide ka
  clear h hN hr HN0 NN ka bg
  unfold msgV
  go_enter Tryz.func30, Tryz.ntmps30
  go_wp2_with fail
  rw [← hW, ← hq]
  clear hW hq
  go_quiet (fail)
  have KAd := hide (KA.out.trans ((below_drewN (Below.refl W.heap.size W) nq).mono KA.out.size))
  have s6 : (W.drewN nq).cell? ⟨r, 6, none⟩ = some (.int .i64 ((0 : Nat) : Int)) := r6
  clear x0 x1 x2 x3 x4 r6 c0 c1 c2 KA
  generalize W.drewN nq = U at *
  go_wp2_with fail
  go_ret
  exact ⟨rfl, KAd.out⟩
set_option maxRecDepth 100000 in
set_option maxHeartbeats 3200000 in
theorem told_new {w : World} {S : Nat → Prop} {r d l room : Nat} {N : Nd} {M : LogL} {L : DiskL} (h : NdS w S r d l room N M L) (f t k draw : Int) (g c : Nat) (D : Option Addr) (m dc : Nat) (z0 z1 z2 z3 : Int) (hN : NumsAt w g [z0, z1, z2, z3]) (hz0 : z0 = (N.term : Int)) (hz1 : z1 = 0) (hz2 : z2 = 0) (hz3 : z3 = 0) (hcm : N.comm = 0) (h1 : 1 ≤ M.next) (h2 : M.next ≤ 1099511627776) (ht : TermE M 0 0) :
    Calls Tryz.prog 29 #[.pointer (some ⟨r, 0, none⟩), msgV f t k g 4 c D m dc, .slice none 0 0, .int .i64 draw] w fun e w' => ∃ v, e = .returned v ∧ NdS w' S r d l room { N with role := 0, lead := f, wait := waitOf draw, comm := 0 } M L ∧ Next S w S w' := by
  have ka := below_alloc w (.cells #[.int .i64 f, .int .i64 t, .int .i64 k, .slice (some ⟨g, 0, none⟩) 4 c, .slice D m dc] 34)
  have bg := Blk.new w (B := 0) 34 #[.int .i64 f, .int .i64 t, .int .i64 k, .slice (some ⟨g, 0, none⟩) 4 c, .slice D m dc] (Nat.zero_le _)
  obtain ⟨q, hq⟩ : ∃ q, q = w.heap.size := ⟨_, rfl⟩
  obtain ⟨W, hW⟩ : ∃ W, W = w.alloc (.cells #[.int .i64 f, .int .i64 t, .int .i64 k, .slice (some ⟨g, 0, none⟩) 4 c, .slice D m dc] 34) := ⟨_, rfl⟩
  have HN0 := h.below ka
  have NN := hN.keep ka
  rw [← hW] at ka bg HN0 NN
  rw [← hq] at bg
  have x0 : W.cell? ⟨q, 0, none⟩ = some (.int .i64 f) := bg.cell 0
  have x1 : W.cell? ⟨q, 1, none⟩ = some (.int .i64 t) := bg.cell 1
  have x2 : W.cell? ⟨q, 2, none⟩ = some (.int .i64 k) := bg.cell 2
  have x3 : W.cell? ⟨q, 3, none⟩ = some (.slice (some ⟨g, 0, none⟩) 4 c) := bg.cell 3
  have x4 : W.cell? ⟨q, 4, none⟩ = some (.slice D m dc) := bg.cell 4
  have c0 : W.cell? ⟨g, 0, none⟩ = some (.int .i64 z0) := NN 0 (by simp)
  have c1 : W.cell? ⟨g, 1, none⟩ = some (.int .i64 z1) := NN 1 (by simp)
  have c2 : W.cell? ⟨g, 2, none⟩ = some (.int .i64 z2) := NN 2 (by simp)
  have c3 : W.cell? ⟨g, 3, none⟩ = some (.int .i64 z3) := NN 3 (by simp)
  have r4 : W.cell? ⟨r, 4, none⟩ = some (.int .i64 (N.term : Int)) := nds_cell HN0 4
  obtain ⟨tt, htt⟩ : ∃ z, z = N.term := ⟨_, rfl⟩
  rw [← htt] at r4 hz0
  subst hz0 hz1 hz2 hz3
  have HTT := hide (And.intro htt (And.intro h1 (And.intro h2 (And.intro ht hcm))))
  have HQ : Hid (w.heap.size ≤ q) := hide (by rw [hq]; exact Nat.le_refl _)
  have hlow := h.low
  have HQS : Hid (¬ S q) := hide (fun hs => by have := hlow q hs; omega)
  have KA := hide ka
  have HN := hide HN0
  have BG := hide bg
  have hlt : ¬ (tt : Int) < (tt : Int) := by omega
  clear h hN htt HN0 NN ka bg hcm h1 h2 ht hlow
  unfold msgV
  go_enter Tryz.func29, Tryz.ntmps29
  go_wp2_with fail
  rw [← hW, ← hq]
  clear hW hq
  go_quiet (fail)
  have HNd := hide (HN.out.below (below_drewN (Below.refl _ _) nq))
  have KAd := hide (KA.out.trans ((below_drewN (Below.refl W.heap.size W) nq).mono KA.out.size))
  have BGd := hide (BG.out.drewN nq)
  have s4 : (W.drewN nq).cell? ⟨r, 4, none⟩ = some (.int .i64 (tt : Int)) := r4
  have y0 : (W.drewN nq).cell? ⟨q, 0, none⟩ = some (.int .i64 f) := x0
  clear x0 x1 x2 x3 x4 r4 c0 c1 c2 c3 HN KA BG
  generalize W.drewN nq = U at *
  have s6 : U.cell? ⟨r, 6, none⟩ = some (.int .i64 (N.role : Int)) := nds_cell HNd.out 6
  have s7 : U.cell? ⟨r, 7, none⟩ = some (.int .i64 N.lead) := nds_cell HNd.out 7
  have f6 := HNd.out.blk.frozen 6
  have f7 := HNd.out.blk.frozen 7
  go_wp2_with fail
  go_region
  have S1 := HNd.out.set (N' := { N with role := 0 }) 6 (.int .i64 0) rfl HNd.out.fit
  have S2 := S1.set (N' := { N with role := 0, lead := f }) 7 (.int .i64 f) rfl HNd.out.fit
  have n2 : Next S U S _ := (set_next (u := .int .i64 0) (i := 6) HNd.out.self).trans ((set_next (u := .int .i64 f) (i := 7) S1.self).trans (Next.of_below S (below_drew _)))
  obtain ⟨W4, hW4⟩ : ∃ Z, Z = ((U.setCell ⟨r, 6, none⟩ (.int .i64 0)).setCell ⟨r, 7, none⟩ (.int .i64 f)).drew := ⟨_, rfl⟩
  have D4 : NdS W4 S r d l room { N with role := 0, lead := f } M L := by rw [hW4]; exact S2.below (below_drew _)
  rw [← hW4] at n2 ⊢
  have D4 := hide D4
  have N4 := hide ((Next.of_below S KAd.out).trans n2)
  have B4 := hide (BGd.out.turn n2.turn HQS.out)
  clear S1 S2 n2 hW4 s6 s7 f6 f7 y0 s4 HNd KAd BGd
  go_wp2_with fail
  refine (wait_anew D4.out draw).mono ?_
  rintro e w5 ⟨rfl, d5, n5⟩
  have D5 := hide d5
  have N5 := hide (N4.out.trans n5)
  have B5 := hide (B4.out.turn n5.turn HQS.out)
  clear d5 n5 D4 N4 B4
  go_wp2_with fail
  refine (has_start D5.out HTT.out.2.1 HTT.out.2.2.1 HTT.out.2.2.2.1).mono ?_
  rintro e w6 ⟨rfl, k6⟩
  have D6 := hide (D5.out.below k6)
  have N6 := hide (N5.out.trans (Next.of_below S k6))
  have B6 := hide (B5.out.keep k6)
  clear k6 D5 N5 B5
  go_wp2_with fail
  refine (join_none r _ w6).mono ?_
  rintro e w7 ⟨rfl, rfl⟩
  have s8 : w6.cell? ⟨r, 8, none⟩ = some (.int .i64 ((N.comm : Nat) : Int)) := nds_cell D6.out 8
  rw [HTT.out.2.2.2.2] at s8
  have f8 := D6.out.blk.frozen 8
  have S8 := hide (D6.out.set (N' := { N with role := 0, lead := f, wait := waitOf draw, comm := 0 }) 8 (.int .i64 0) rfl D6.out.fit)
  have n8 : Next S w6 S _ := set_next (u := .int .i64 0) (i := 8) D6.out.self
  have N8 := hide (N6.out.trans n8)
  have B8 := hide (B6.out.turn n8.turn HQS.out)
  obtain ⟨V, hV⟩ : ∃ Z, Z = w6.setCell ⟨r, 8, none⟩ (.int .i64 0) := ⟨_, rfl⟩
  rw [← hV] at S8 N8 B8
  clear n8 D6 N6 B6
  go_wp2_with fail
  rw [← hV]
  clear hV s8 f8
  have v0 : V.cell? ⟨q, 0, none⟩ = some (.int .i64 f) := B8.out.cell 0
  have v1 : V.cell? ⟨q, 1, none⟩ = some (.int .i64 t) := B8.out.cell 1
  have v2 : V.cell? ⟨q, 2, none⟩ = some (.int .i64 k) := B8.out.cell 2
  have v3 : V.cell? ⟨q, 3, none⟩ = some (.slice (some ⟨g, 0, none⟩) 4 c) := B8.out.cell 3
  have v4 : V.cell? ⟨q, 4, none⟩ = some (.slice D m dc) := B8.out.cell 4
  have s4 : V.cell? ⟨r, 4, none⟩ = some (.int .i64 (N.term : Int)) := nds_cell S8.out 4
  rw [← HTT.out.1] at s4
  have kb := below_alloc V (.cells #[.int .i64 (tt : Int), .int .i64 1, .int .i64 0] 3)
  have KB := hide (kb.trans ((below_drew _).mono kb.size))
  clear kb
  go_region_held3 (fun W' => W'.cell? ⟨q, 0, none⟩ = some (.int .i64 f) ∧ W'.cell? ⟨q, 1, none⟩ = some (.int .i64 t) ∧ W'.cell? ⟨q, 2, none⟩ = some (.int .i64 k) ∧ W'.cell? ⟨q, 3, none⟩ = some (.slice (some ⟨g, 0, none⟩) 4 c) ∧ W'.cell? ⟨q, 4, none⟩ = some (.slice D m dc) ∧ W'.cell? ⟨r, 4, none⟩ = some (.int .i64 (tt : Int))) (go_keep)
    (first
      | (go_at_call 54; refine (answer_any (S8.out.below KB.out) f t k 4 g 4 c D m dc _ _ _).mono ?_; rintro e w9 ⟨v, rfl, _, k9⟩; have K9 := hide (KB.out.trans (k9.mono KB.out.size)); have B9 := B8.out.keep K9.out; have u0 : w9.cell? ⟨q, 0, none⟩ = some (.int .i64 f) := B9.cell 0; have u1 : w9.cell? ⟨q, 1, none⟩ = some (.int .i64 t) := B9.cell 1; have u2 : w9.cell? ⟨q, 2, none⟩ = some (.int .i64 k) := B9.cell 2; have u3 : w9.cell? ⟨q, 3, none⟩ = some (.slice (some ⟨g, 0, none⟩) 4 c) := B9.cell 3; have u4 : w9.cell? ⟨q, 4, none⟩ = some (.slice D m dc) := B9.cell 4; have u5 := (K9.out.cell (cell_lt s4)).trans s4; clear k9 B9))
  go_wp2_with fail
  go_ret
  exact ⟨v, rfl, S8.out.below K9.out, N8.out.trans (Next.of_below S K9.out)⟩
end Go.Proofs.YtejhoefmcldpnaaGreat
