/- The contract of a node's Hear at a leader's message of a newer term without entries. Condition: the message is meant, the disk takes the term. The contract of raft.Open. Condition: the file of the term and the log are as a node wrote them. What the law's own known() comes to, by lists. It names nothing of the program but the lists. The walk of the law's own known(): one that is alone leads. No condition. -/
import Derived.Test.YtejhoefmcldpnaaGreatRk42
import Derived.Test.YtejhoefmcldpnaaGreatRk4
import Derived.Test.YtejhoefmcldpnaaGreatRk40
import Derived.Test.YtejhoefmcldpnaaGreatRk39
namespace Go.Proofs.YtejhoefmcldpnaaGreat
open Go.RowKit Go.Maps
set_option maxRecDepth 100000 in
set_option maxHeartbeats 6400000 in
theorem hear_new {w : World} {S : Nat → Prop} {r d l room : Nat} {N : Nd} {M : LogL} {L : DiskL} (h : NdS w S r d l room N M L) (f t draw : Int) (g c t1 : Nat) (z0 z1 z2 z3 : Int) (hc : 4 ≤ c) (hN : NumsAt w g [z0, z1, z2, z3]) (hg : ¬ S g) (hz : okN [z0, z1, z2, z3]) (ht : t = (N.id : Int)) (hf1 : f ≠ (N.id : Int)) (hf2 : 0 ≤ f) (hf3 : f < (N.n : Int)) (hkn : kindN 3 [z0, z1, z2, z3]) (hlt : (N.term : Int) < z0)
    (hz0 : z0 = (t1 : Int)) (hz1 : z1 = 0) (hz2 : z2 = 0) (hz3 : z3 = 0) (ht1 : t1 < 9223372036854775808) (hd : (draftL room termK (numsL [t1, 0]) L).2 = 0) (hcm : N.comm = 0) (h1 : 1 ≤ M.next) (h2 : M.next ≤ 1099511627776) (hte : TermE M 0 0) :
    Calls Tryz.prog 11 #[.pointer (some ⟨r, 0, none⟩), .agg #[.int .i64 f, .int .i64 t, .int .i64 3, .slice (some ⟨g, 0, none⟩) 4 c, .slice none 0 0], .int .i64 draw] w fun e w' => ∃ v, e = .returned v ∧ ∃ S', NdS w' S' r d l room { N with term := t1, vote := -1, role := 0, lead := f, wait := waitOf draw, comm := 0 } M (termP (numsL [t1, 0]) L) ∧ Next S w S' w' := by
  have hdl : decide ((N.term : Int) < z0) = true := by simp; omega
  have FO : Hid (∀ U, NdS U S r d l room N M L → Calls Tryz.prog 26 #[.pointer (some ⟨r, 0, none⟩), .int .i64 z0] U fun e w' => e = .returned (.bool true) ∧ ∃ S', NdS w' S' r d l room { N with term := t1, vote := -1, role := 0, lead := -1 } M (termP (numsL [t1, 0]) L) ∧ Next S U S' w') := hide (fun U hu => by rw [hz0]; exact follow_ok hu t1 ht1 hd)
  have HZ := hide (And.intro hz0 (And.intro hz1 (And.intro hz2 hz3)))
  have HM := hide (And.intro hcm (And.intro h1 (And.intro h2 hte)))
  have HG := hide hg
  have hlow := h.low
  have HLO := hide hlow
  clear hz0 hz1 hz2 hz3 hcm h1 h2 hte hg hlow ht1 hd
  have ka := below_alloc w (.cells #[.int .i64 f, .int .i64 t, .int .i64 3, .slice (some ⟨g, 0, none⟩) 4 c, .slice none 0 0] 34)
  have bg := Blk.new w (B := 0) 34 #[.int .i64 f, .int .i64 t, .int .i64 3, .slice (some ⟨g, 0, none⟩) 4 c, .slice none 0 0] (Nat.zero_le _)
  obtain ⟨q, hq⟩ : ∃ q, q = w.heap.size := ⟨_, rfl⟩
  obtain ⟨W, hW⟩ : ∃ W, W = w.alloc (.cells #[.int .i64 f, .int .i64 t, .int .i64 3, .slice (some ⟨g, 0, none⟩) 4 c, .slice none 0 0] 34) := ⟨_, rfl⟩
  have HN0 := h.below ka
  have NN := hN.keep ka
  have HB := hide (fun Z (kz : Below W.heap.size W Z) => (by rw [hW] at kz; exact bg.keep kz : Blk Z 0 34 w.heap.size [.int .i64 f, .int .i64 t, .int .i64 3, .slice (some ⟨g, 0, none⟩) 4 c, .slice none 0 0]))
  rw [← hq] at HB
  rw [← hW] at ka HN0 NN
  have ST := hide (stopped_no HN0)
  have ME := hide (meant_ok HN0 f t 3 g 4 c none 0 0 [z0, z1, z2, z3] rfl hc NN hz ht hf1 hf2 hf3 hkn)
  unfold msgV at ME
  have BW := HB.out W (Below.refl _ _)
  have x0 : W.cell? ⟨q, 0, none⟩ = some (.int .i64 f) := BW.cell 0
  have x1 : W.cell? ⟨q, 1, none⟩ = some (.int .i64 t) := BW.cell 1
  have x2 : W.cell? ⟨q, 2, none⟩ = some (.int .i64 3) := BW.cell 2
  have x3 : W.cell? ⟨q, 3, none⟩ = some (.slice (some ⟨g, 0, none⟩) 4 c) := BW.cell 3
  have x4 : W.cell? ⟨q, 4, none⟩ = some (.slice none 0 0) := BW.cell 4
  have HH := hide HN0
  have HNN := hide NN
  have KA := hide ka
  have HQ : Hid (w.heap.size = q) := hide hq.symm
  obtain ⟨tt, htt⟩ : ∃ z, z = N.term := ⟨_, rfl⟩
  rw [← htt] at hlt hdl
  have HTT := hide htt
  clear h hN hz ht hf1 hf2 hf3 hkn bg HN0 NN ka BW htt
  go_enter Tryz.func11, Tryz.ntmps11
  go_wp2_with fail
  rw [← hW, ← hq]
  clear hW hq
  refine ST.out.mono ?_
  rintro e w0 ⟨rfl, rfl⟩
  clear ST
  go_wp2_with fail
  refine ME.out.mono ?_
  rintro e w1 ⟨rfl, k1⟩
  have B1 := HB.out w1 k1
  have y0 : w1.cell? ⟨q, 0, none⟩ = some (.int .i64 f) := B1.cell 0
  have y1 : w1.cell? ⟨q, 1, none⟩ = some (.int .i64 t) := B1.cell 1
  have y2 : w1.cell? ⟨q, 2, none⟩ = some (.int .i64 3) := B1.cell 2
  have y3 : w1.cell? ⟨q, 3, none⟩ = some (.slice (some ⟨g, 0, none⟩) 4 c) := B1.cell 3
  have y4 : w1.cell? ⟨q, 4, none⟩ = some (.slice none 0 0) := B1.cell 4
  have K1 := hide k1
  have EN := hide (entries_none f t 3 g 4 c none 0 w1)
  unfold msgV at EN
  clear k1 B1 x0 x1 x2 x3 x4 ME
  go_wp2_with fail
  refine EN.out.mono ?_
  rintro e w2 ⟨rfl, k2⟩
  have K2 := hide (K1.out.trans (k2.mono K1.out.size))
  have B2 := HB.out w2 K2.out
  have H2 := hide (HH.out.below K2.out)
  have N2 := hide (HNN.out.keep K2.out)
  have u3 : w2.cell? ⟨q, 3, none⟩ = some (.slice (some ⟨g, 0, none⟩) 4 c) := B2.cell 3
  have u4 : w2.cell? ⟨r, 4, none⟩ = some (.int .i64 (N.term : Int)) := nds_cell H2.out 4
  have u5 : w2.cell? ⟨g, 0, none⟩ = some (.int .i64 z0) := N2.out 0 (by simp)
  rw [← HTT.out] at u4
  clear k2 K1 y0 y1 y2 y3 y4 EN B2 HH HNN
  go_wp2_with fail
  refine WaysT.start (fun W' : World => W'.cell? ⟨q, 3, none⟩ = some (.slice (some ⟨g, 0, none⟩) 4 c) ∧ W'.cell? ⟨r, 4, none⟩ = some (.int .i64 (tt : Int)) ∧ W'.cell? ⟨g, 0, none⟩ = some (.int .i64 z0)) 18 22 #[false, false, false, false, false, false, false, false, false, false, false, false, false, false, false, false, false, false, false, false, false, false] (by kernel_rfl) (by kernel_rfl) (by kernel_rfl) ?_
  have hHeld : (fun W' : World => W'.cell? ⟨q, 3, none⟩ = some (.slice (some ⟨g, 0, none⟩) 4 c) ∧ W'.cell? ⟨r, 4, none⟩ = some (.int .i64 (tt : Int)) ∧ W'.cell? ⟨g, 0, none⟩ = some (.int .i64 z0)) (w2.drewN 1) := ⟨u3, u4, u5⟩
  have H2 := hide (H2.out.below (below_drewN (Below.refl _ _) 1))
  have N2 := hide (N2.out.keep (below_drewN (Below.refl _ _) 1))
  have K2 := hide (K2.out.trans ((below_drewN (Below.refl w2.heap.size w2) 1).mono K2.out.size))
  clear u3 u4 u5
  change WaysT _ _ _ _ _ _ _ _ _ (w2.drewN 1)
  generalize w2.drewN 1 = U at *
  refine' tkT 0 (v := _) rfl hHeld rfl ?_ ?_
  rotate_left
  · (intro W' hW; (try dsimp only at hW); obtain ⟨z3', z4', z5'⟩ := hW; go_simp; (try with_reducible rfl))
  try simp only [Act.put, List.setIfInBounds_toArray, List.set_cons_zero, List.set_cons_succ]
  refine' tkT 1 (v := _) rfl hHeld rfl ?_ ?_
  rotate_left
  · (intro W' hW; (try dsimp only at hW); obtain ⟨z3', z4', z5'⟩ := hW; go_simp; (try with_reducible rfl))
  try simp only [Act.put, List.setIfInBounds_toArray, List.set_cons_zero, List.set_cons_succ]
  refine' tkT 2 (v := _) rfl hHeld rfl ?_ ?_
  rotate_left
  · (intro W' hW; (try dsimp only at hW); obtain ⟨z3', z4', z5'⟩ := hW; go_simp; (try with_reducible rfl))
  try simp only [Act.put, List.setIfInBounds_toArray, List.set_cons_zero, List.set_cons_succ]
  refine' tkT 3 (v := _) rfl hHeld rfl ?_ ?_
  rotate_left
  · (intro W' hW; (try dsimp only at hW); obtain ⟨z3', z4', z5'⟩ := hW; go_simp; (try with_reducible rfl))
  try simp only [Act.put, List.setIfInBounds_toArray, List.set_cons_zero, List.set_cons_succ]
  refine' tkT 4 (v := _) rfl hHeld rfl ?_ ?_
  rotate_left
  · (intro W' hW; (try dsimp only at hW); obtain ⟨z3', z4', z5'⟩ := hW; go_simp; (try with_reducible rfl))
  try simp only [Act.put, List.setIfInBounds_toArray, List.set_cons_zero, List.set_cons_succ]
  refine' tkT 5 (v := _) rfl hHeld rfl ?_ ?_
  rotate_left
  · (intro W' hW; (try dsimp only at hW); obtain ⟨z3', z4', z5'⟩ := hW; go_simp; (try with_reducible rfl))
  try simp only [Act.put, List.setIfInBounds_toArray, List.set_cons_zero, List.set_cons_succ]
  refine' tkT 6 (v := _) rfl hHeld rfl ?_ ?_
  rotate_left
  · (intro W' hW; (try dsimp only at hW); obtain ⟨z3', z4', z5'⟩ := hW; go_simp; (try with_reducible rfl))
  try simp only [Act.put, List.setIfInBounds_toArray, List.set_cons_zero, List.set_cons_succ]
  refine' tkT 7 (v := _) rfl hHeld rfl ?_ ?_
  rotate_left
  · (intro W' hW; (try dsimp only at hW); obtain ⟨z3', z4', z5'⟩ := hW; go_simp; (try with_reducible rfl))
  try simp only [Act.put, List.setIfInBounds_toArray, List.set_cons_zero, List.set_cons_succ]
  refine' tkT 8 (v := _) rfl hHeld rfl ?_ ?_
  rotate_left
  · (intro W' hW; (try dsimp only at hW); obtain ⟨z3', z4', z5'⟩ := hW; go_simp; (try with_reducible rfl))
  try simp only [Act.put, List.setIfInBounds_toArray, List.set_cons_zero, List.set_cons_succ]
  refine' tkT 9 (v := _) rfl hHeld rfl ?_ ?_
  rotate_left
  · (intro W' hW; (try dsimp only at hW); obtain ⟨z3', z4', z5'⟩ := hW; go_simp; (try with_reducible rfl))
  try simp only [Act.put, List.setIfInBounds_toArray, List.set_cons_zero, List.set_cons_succ]
  refine' tkT 10 (v := _) rfl hHeld rfl ?_ ?_
  rotate_left
  · (intro W' hW; (try dsimp only at hW); obtain ⟨z3', z4', z5'⟩ := hW; go_simp; (try with_reducible rfl))
  try simp only [Act.put, List.setIfInBounds_toArray, List.set_cons_zero, List.set_cons_succ]
  refine' tkT 11 (v := _) rfl hHeld rfl ?_ ?_
  rotate_left
  · (intro W' hW; (try dsimp only at hW); obtain ⟨z3', z4', z5'⟩ := hW; go_simp; (try with_reducible rfl))
  try simp only [Act.put, List.setIfInBounds_toArray, List.set_cons_zero, List.set_cons_succ]
  refine' tkT 12 (v := _) rfl hHeld rfl ?_ ?_
  rotate_left
  · (intro W' hW; (try dsimp only at hW); obtain ⟨z3', z4', z5'⟩ := hW; go_simp; (try with_reducible rfl))
  try simp only [Act.put, List.setIfInBounds_toArray, List.set_cons_zero, List.set_cons_succ]
  refine' tkT 13 (v := _) rfl hHeld rfl ?_ ?_
  rotate_left
  · (intro W' hW; (try dsimp only at hW); obtain ⟨z3', z4', z5'⟩ := hW; go_simp; (try with_reducible rfl))
  try simp only [Act.put, List.setIfInBounds_toArray, List.set_cons_zero, List.set_cons_succ]
  refine' tkT 14 (v := _) rfl hHeld rfl ?_ ?_
  rotate_left
  · (intro W' hW; (try dsimp only at hW); obtain ⟨z3', z4', z5'⟩ := hW; go_simp; (try with_reducible rfl))
  try simp only [Act.put, List.setIfInBounds_toArray, List.set_cons_zero, List.set_cons_succ]
  refine' tkT 15 (v := _) rfl hHeld rfl ?_ ?_
  rotate_left
  · (intro W' hW; (try dsimp only at hW); obtain ⟨z3', z4', z5'⟩ := hW; go_simp; (try with_reducible rfl))
  try simp only [Act.put, List.setIfInBounds_toArray, List.set_cons_zero, List.set_cons_succ]
  refine' tkT 16 (v := _) rfl hHeld rfl ?_ ?_
  rotate_left
  · (intro W' hW; (try dsimp only at hW); obtain ⟨z3', z4', z5'⟩ := hW; go_simp; (try with_reducible rfl))
  try simp only [Act.put, List.setIfInBounds_toArray, List.set_cons_zero, List.set_cons_succ]
  refine' tkT 17 (v := _) rfl hHeld rfl ?_ ?_
  rotate_left
  · (intro W' hW; (try dsimp only at hW); obtain ⟨z3', z4', z5'⟩ := hW; go_simp; (try with_reducible rfl))
  try simp only [Act.put, List.setIfInBounds_toArray, List.set_cons_zero, List.set_cons_succ]
  clear hHeld
  refine WaysT.turn (by kernel_rfl) rfl (fun K' hK => ?_)
  go_simp
  go_at_call 26
  refine (FO.out U H2.out).mono ?_
  rintro e w3 ⟨rfl, S3, d3, n3⟩
  refine hK.out _ _ ?_
  clear hK
  try simp only [List.setIfInBounds_toArray, List.set_cons_zero, List.set_cons_succ]
  refine WaysT.then (i := 19) rfl (by kernel_rfl) rfl (fun K' hK => ?_)
  go_simp
  refine hK.out _ _ ?_
  clear hK
  try simp only [List.setIfInBounds_toArray, List.set_cons_zero, List.set_cons_succ]
  refine WaysT.then (i := 20) rfl (by kernel_rfl) rfl (fun K' hK => ?_)
  go_simp
  refine hK.out _ _ ?_
  clear hK
  try simp only [List.setIfInBounds_toArray, List.set_cons_zero, List.set_cons_succ]
  refine WaysT.then (i := 21) rfl (by kernel_rfl) rfl (fun K' hK => ?_)
  go_simp
  refine hK.out _ _ ?_
  clear hK
  try simp only [List.setIfInBounds_toArray, List.set_cons_zero, List.set_cons_succ]
  refine WaysT.done (by kernel_rfl) ?_
  have HQS : ¬ S q := fun hs => by have h7 := HLO.out q hs; have h8 := HQ.out; omega
  have B3 := (HB.out U K2.out).turn n3.turn HQS
  have v0 : w3.cell? ⟨q, 0, none⟩ = some (.int .i64 f) := B3.cell 0
  have v1 : w3.cell? ⟨q, 1, none⟩ = some (.int .i64 t) := B3.cell 1
  have v2 : w3.cell? ⟨q, 2, none⟩ = some (.int .i64 3) := B3.cell 2
  have v3 : w3.cell? ⟨q, 3, none⟩ = some (.slice (some ⟨g, 0, none⟩) 4 c) := B3.cell 3
  have v4 : w3.cell? ⟨q, 4, none⟩ = some (.slice none 0 0) := B3.cell 4
  have CA := hide (told_new d3 f t 3 draw g c none 0 0 z0 z1 z2 z3 (N2.out.turn n3.turn HG.out) HZ.out.1 HZ.out.2.1 HZ.out.2.2.1 HZ.out.2.2.2 HM.out.1 HM.out.2.1 HM.out.2.2.1 HM.out.2.2.2)
  unfold msgV at CA
  have N3 := hide (((Next.of_below S KA.out).trans (Next.of_below S K2.out)).trans n3)
  clear B3 HQS d3 n3 hlt hdl
  go_wp2_with fail
  refine CA.out.mono ?_
  rintro e w5 ⟨v, rfl, d5, n5⟩
  have D5 := hide d5
  have N5 := hide (N3.out.trans n5)
  clear d5 n5 CA
  go_wp2_with fail
  go_ret
  exact ⟨v, rfl, S3, D5.out, N5.out⟩
end Go.Proofs.YtejhoefmcldpnaaGreat
namespace Go.Proofs.YtejhoefmcldpnaaGreat
open Go.RowKit Go.Maps
def noPeers : List Nat := [0, 0, 0, 0, 0, 0, 0, 0, 0, 0]
/-- A node behind Open. -/
def ndNew (id n t v1 : Nat) (draw : Int) : Nd := ⟨id, n, t, (v1 : Int) - 1, 0, -1, 0, 0, waitOf draw, 0, noPeers⟩
theorem ropen_new (F4 G4 : Nat → Prop) (w4 : World) (d l room id n t : Nat) (vz : Int) (M : LogL) (L1 : DiskL) (p : Pro w4 F4 G4 d l room logS ⟨M.segs, M.next, []⟩ (syncsL logK M.dirty L1)) (h1 : id < n) (h2 : n ≤ 5) :
    NdS (w4.alloc (.cells #[.int .i64 (id : Int), .int .i64 (n : Int), .pointer (some ⟨d, 0, none⟩), .pointer (some ⟨l, 0, none⟩), .int .i64 (t : Int), .int .i64 vz, .int .i64 0, .int .i64 (-1), .int .i64 0, .int .i64 0, .int .i64 0, .int .u64 0, .int .i64 0, .int .i64 0, .int .i64 0, .int .i64 0, .int .i64 0, .int .i64 0, .int .i64 0, .int .i64 0, .int .i64 0, .int .i64 0] 70)) (fun k => (F4 k ∨ G4 k) ∨ k = w4.heap.size) w4.heap.size d l room ⟨id, n, t, vz, 0, -1, 0, 0, 0, 0, noPeers⟩ ⟨M.segs, M.next, []⟩ (syncsL logK M.dirty L1) := by
  have hlow := p.low
  refine ⟨F4, G4, ⟨Blk.new w4 (B := 0) _ _ (Nat.zero_le _), p.below (below_alloc w4 _), fun h => ?_, fun h => ?_, ⟨h1, h2, rfl⟩⟩, fun _ => Iff.rfl⟩
  · have := hlow.1 _ h; omega
  · have := hlow.2 _ h; omega
theorem ropen_next {F F4 G4 : Nat → Prop} {w w3 w4 w5 : World} (K : Below w.heap.size w w3) (t : Turn F w3 w4) (hf : ∀ k, F4 k → F k ∨ w3.heap.size ≤ k) (hg : ∀ k, G4 k → w3.heap.size ≤ k) (kb : Below w4.heap.size w4 w5) : Next F w (fun k => (F4 k ∨ G4 k) ∨ k = w4.heap.size) w5 := by
  have h1 := K.size
  have h2 := t.size
  refine ⟨((Turn.of_below F K).trans t).trans (Turn.of_below F kb), ?_⟩
  rintro k ((h | h) | h)
  · exact (hf k h).elim .inl (fun h => .inr (by omega))
  · exact .inr (Nat.le_trans h1 (hg k h))
  · exact .inr (by omega)
set_option maxRecDepth 100000 in
set_option maxHeartbeats 3200000 in
theorem ropen_any (F : Nat → Prop) (d room : Nat) (L : DiskL) (id n t v1 : Nat) (draw : Int) (w : World) (hD : DiskAt w F d room L) (hn : n = 1 ∨ n = 3 ∨ n = 5) (hid : id < n) (ht : TermD L t v1) (ht9 : t ≤ 9223372036854775807) (hv : v1 ≤ n) (h1 : firstL (openR logK L).log = 1) (hA : AllE (openR logK L).log) :
    Calls Tryz.prog 10 #[.int .i64 (id : Int), .int .i64 (n : Int), .pointer (some ⟨d, 0, none⟩), .int .i64 draw] w fun e w' => ∃ r l, e = .returned (.tuple #[.pointer (some ⟨r, 0, none⟩), .int .i64 0]) ∧ ∃ S', NdS w' S' r d l room (ndNew id n t v1 draw) ⟨(openR logK L).log.segs, (openR logK L).log.next, []⟩ (syncsL logK (openR logK L).log.dirty (openR logK L).disk) ∧ Next F w S' w' := by
  have LD := hide (rload_any F d room L n t v1 w hD ht ht9 hv (by omega))
  have HD := hide hD
  have H1 := hide (And.intro h1 hA)
  have hn5 : n ≤ 5 := by omega
  have hidz : ¬ ((id : Int) < 0) := by omega
  have hidn : ¬ ((n : Int) ≤ (id : Int)) := by omega
  have hnn : ((n : Int) != 1) = false ∨ ((n : Int) != 1) = true ∧ (((n : Int) != 3) = false ∨ ((n : Int) != 3) = true ∧ ((n : Int) != 5) = false) := by
    rcases hn with rfl | rfl | rfl <;> simp
  have HID := hide (And.intro hid hn5)
  have HVW := hide (And.intro hv ht9)
  obtain ⟨vz, hvz⟩ : ∃ z : Int, z = (v1 : Int) - 1 := ⟨_, rfl⟩
  rw [← hvz] at LD
  have HVZ := hide hvz
  clear hD ht ht9 hv h1 hA hn hid hvz
  have main : ∀ _ : Unit, Calls Tryz.prog 10 #[.int .i64 (id : Int), .int .i64 (n : Int), .pointer (some ⟨d, 0, none⟩), .int .i64 draw] w fun e w' => ∃ r l, e = .returned (.tuple #[.pointer (some ⟨r, 0, none⟩), .int .i64 0]) ∧ ∃ S', NdS w' S' r d l room (ndNew id n t v1 draw) ⟨(openR logK L).log.segs, (openR logK L).log.next, []⟩ (syncsL logK (openR logK L).log.dirty (openR logK L).disk) ∧ Next F w S' w' := by
    intro _
    obtain ⟨M, hM⟩ : ∃ M, M = (openR logK L).log := ⟨_, rfl⟩
    obtain ⟨L1, hL1⟩ : ∃ M, M = (openR logK L).disk := ⟨_, rfl⟩
    have HML := hide (And.intro hM hL1)
    rw [← hM, ← hL1]
    clear hM hL1
    rcases hnn with h1 | ⟨h1, h3 | ⟨h3, h5⟩⟩
    all_goals (
      go_enter Tryz.func10, Tryz.ntmps10
      go_wp2_with fail
      refine LD.out.mono ?_
      rintro e w1 ⟨rfl, k1⟩
      have D1 := hide (HD.out.below k1)
      have K1 := hide k1
      clear k1 LD
      go_wp2_with fail
      refine (copy_any F d room L w1 D1.out).mono ?_
      rintro e w2 ⟨d2, Fc, rfl, dc, fc, kc⟩
      have DC := hide dc
      have FC := hide fc
      have K2 := hide kc
      have D2 := hide (D1.out.below kc)
      clear dc fc kc
      go_wp2_with fail
      refine (rlogOf_any Fc d2 room L w2 DC.out H1.out.1 H1.out.2).mono ?_
      rintro e w3 ⟨l3, rfl, F3, G3, _, t3, _, _⟩
      have K3 : Hid (Below w1.heap.size w1 w3) := hide (K2.out.trans (t3.below K2.out.size FC.out))
      have D3 := hide (D1.out.below K3.out)
      clear t3 DC FC K2 D2
      go_wp2_with fail
      refine (rlogOf_any F d room L w3 D3.out H1.out.1 H1.out.2).mono ?_
      rintro e w4 ⟨l, rfl, F4, G4, p4, t4, hf4, hg4⟩
      rw [← HML.out.1, ← HML.out.2] at p4
      have P4 := hide p4
      have T4 := hide t4
      have HF4 := hide hf4
      have HG4 := hide hg4
      clear p4 t4 hf4 hg4
      go_wp2_with fail
      have kb := below_alloc w4 (.cells #[.int .i64 (id : Int), .int .i64 (n : Int), .pointer (some ⟨d, 0, none⟩), .pointer (some ⟨l, 0, none⟩), .int .i64 (t : Int), .int .i64 vz, .int .i64 0, .int .i64 (-1), .int .i64 0, .int .i64 0, .int .i64 0, .int .u64 0, .int .i64 0, .int .i64 0, .int .i64 0, .int .i64 0, .int .i64 0, .int .i64 0, .int .i64 0, .int .i64 0, .int .i64 0, .int .i64 0] 70)
      have br := Blk.new w4 (B := 0) 70 #[.int .i64 (id : Int), .int .i64 (n : Int), .pointer (some ⟨d, 0, none⟩), .pointer (some ⟨l, 0, none⟩), .int .i64 (t : Int), .int .i64 vz, .int .i64 0, .int .i64 (-1), .int .i64 0, .int .i64 0, .int .i64 0, .int .u64 0, .int .i64 0, .int .i64 0, .int .i64 0, .int .i64 0, .int .i64 0, .int .i64 0, .int .i64 0, .int .i64 0, .int .i64 0, .int .i64 0] (Nat.zero_le _)
      have hlow := P4.out.low
      have NN := ropen_new F4 G4 w4 d l room id n t vz M L1 P4.out HID.out.1 HID.out.2
      have nx : Next F w (fun k => (F4 k ∨ G4 k) ∨ k = w4.heap.size) _ := ropen_next (F4 := F4) (G4 := G4) (K1.out.trans (K3.out.mono K1.out.size)) T4.out HF4.out HG4.out kb
      have NX := hide nx
      have HN := hide NN
      clear kb br hlow NN nx
      refine (wait_anew HN.out draw).mono ?_
      rintro e w5 ⟨rfl, d5, n5⟩
      have D5 := hide d5
      have N5 := hide (NX.out.trans n5)
      clear d5 n5
      go_wp2_with fail
      go_ret2
      refine ⟨w4.heap.size, l, rfl, _, ?_, N5.out⟩
      unfold ndNew
      rw [← HVZ.out]
      exact D5.out)
  exact main ()
end Go.Proofs.YtejhoefmcldpnaaGreat
namespace Go.Proofs.YtejhoefmcldpnaaGreat
open Go.RowKit Go.Maps
def kM0 : LogL := ⟨[], 1, []⟩
def kL1 : DiskL := termP [1, 1] []
def kA : (LogL × DiskL) × Nat × Nat := addL 10000 logK [1] kM0 kL1
theorem k_uvl : uvl 1 = [1] := uvl_low (by decide)
theorem k_nums : numsL [1, 1] = [1, 1] := by simp [numsL, k_uvl]
theorem k_draft : (draftL 10000 termK [1, 1] []).2 = 0 := by decide +kernel
theorem k_add : kA.2.2 = 0 ∧ kA.1.1.next = 2 ∧ getE ⟨kA.1.1.segs, kA.1.1.next, []⟩ 1 = ([1], 0) := by decide +kernel
theorem k_open : (openR logK []).log = kM0 ∧ (openR logK []).disk = [] := ⟨rfl, rfl⟩
theorem k_term : TermD [] 0 0 := .inl ⟨loadL_none rfl, rfl, rfl⟩
theorem k_all : AllE kM0 := fun i h1 h2 => by
  have h3 : i < 1 := h2
  omega
theorem k_has : HasE (addE 10000 1 kM0 kL1).1 1 1 [] := by
  refine ⟨?_, by decide, fun x hx => by cases hx⟩
  unfold addE
  rw [k_uvl]
  exact k_add.2.2
end Go.Proofs.YtejhoefmcldpnaaGreat
namespace Go.Proofs.YtejhoefmcldpnaaGreat
open Go.RowKit Go.Maps
/-- The node behind j ticks of its first wait. -/
def kN (j : Nat) : Nd := { ndNew 0 1 0 0 0 with wait := ((10 - j : Nat) : Int) }
/-- .. and behind the tenth one. -/
def kN9 (vt : Nat) : Nd := ⟨0, 1, 1, 0, 2, 0, 1, 0, 3, vt, pairsL 1 5⟩
theorem kN_zero : ndNew 0 1 0 0 0 = kN 0 := rfl
theorem k_ents : ∀ i (hi : i < ([(1, [])] : List (Nat × List Nat)).length), HasE (addE 10000 1 kM0 kL1).1 ((0 + 1 + i : Nat) : Int) (([(1, [])] : List (Nat × List Nat))[i]).1 (([(1, [])] : List (Nat × List Nat))[i]).2 := by
  intro i hi
  have hi0 : i = 0 := by simpa using hi
  subst hi0
  exact k_has
theorem ktick_wait {w : World} {j : Nat} {S : Nat → Prop} {r d l : Nat} (h : NdS w S r d l 10000 (kN j) kM0 []) (hj : j < 9) :
    Calls Tryz.prog 16 #[.pointer (some ⟨r, 0, none⟩), .int .i64 0] w fun e w' => (∃ A n c, e = .returned (.slice A n c)) ∧ NdS w' S r d l 10000 (kN (j + 1)) kM0 [] ∧ Next S w S w' := by
  refine (tick_wait h 0 (10 - j) rfl (by omega) (by omega)).mono ?_
  rintro e w' ⟨rfl, h2, n2⟩
  refine ⟨⟨_, _, _, rfl⟩, ?_, n2⟩
  have e9 : (10 - j - 1 : Nat) = 10 - (j + 1) := by omega
  rw [e9] at h2
  exact h2
theorem ktick_last {w : World} {S : Nat → Prop} {r d l : Nat} (h : NdS w S r d l 10000 (kN 9) kM0 []) :
    Calls Tryz.prog 16 #[.pointer (some ⟨r, 0, none⟩), .int .i64 0] w fun e w' => (∃ A n c, e = .returned (.slice A n c)) ∧ ∃ S' vt, NdS w' S' r d l 10000 (kN9 vt) (addE 10000 1 kM0 kL1).1 (addE 10000 1 kM0 kL1).2 ∧ Next S w S' w' := by
  refine tick_stand h 0 rfl (.inl rfl) (fun w1 h1 n1 => ?_)
  have hL : termP (numsL [1, 1]) [] = kL1 := by rw [k_nums]; rfl
  have h9 := stand_one h1 0 rfl rfl rfl rfl rfl (by decide) (by show (draftL 10000 termK (numsL [1, 1]) []).2 = 0; rw [k_nums]; exact k_draft)
    (by show (addL 10000 logK (uvl 1) kM0 (termP (numsL [1, 1]) [])).2.2 = 0; rw [hL, k_uvl]; exact k_add.1)
    (by show (addE 10000 1 kM0 (termP (numsL [1, 1]) [])).1.next = 2; rw [hL]; unfold addE; rw [k_uvl]; exact k_add.2.1)
    (by show TermE (addE 10000 1 kM0 (termP (numsL [1, 1]) [])).1 1 1; rw [hL]; exact .inl ⟨[], k_has⟩)
  refine h9.mono ?_
  rintro e w2 ⟨rfl, S2, vt, h2, n2⟩
  refine ⟨_, _, _, rfl, ⟨_, _, _, rfl⟩, S2, vt, ?_, n1.trans n2⟩
  have h3 : NdS w2 S2 r d l 10000 (kN9 vt) (addE 10000 1 kM0 (termP (numsL [1, 1]) [])).1 (addE 10000 1 kM0 (termP (numsL [1, 1]) [])).2 := h2
  rw [hL] at h3
  exact h3
set_option maxRecDepth 100000 in
set_option maxHeartbeats 3200000 in
theorem known_any (w : World) : Calls Tryz.prog 8 #[] w fun e w' => e = .returned (.bool true) ∧ Below w.heap.size w w' := by
  go_enter Tryz.func8, Tryz.ntmps8
  go_wp2_with fail
  refine (new_any 10000 w (by decide)).mono ?_
  rintro e w1 ⟨d, F1, rfl, d1, l1, k1⟩
  have D1 := hide d1
  have K1 := hide k1
  have L1 := hide l1
  clear d1 l1 k1
  go_wp2_with fail
  have hop := ropen_any F1 d 10000 [] 0 1 0 0 0 w1 D1.out (.inl rfl) (by decide) k_term (by decide) (by decide) rfl (by rw [k_open.1]; exact k_all)
  rw [k_open.1, k_open.2] at hop
  refine Calls.mono (show Calls Tryz.prog 10 #[.int .i64 0, .int .i64 1, .pointer (some ⟨d, 0, none⟩), .int .i64 0] w1 _ from hop) ?_
  rintro e w2 ⟨r, l, rfl, S2, h2, n2⟩
  have H2 := hide (show NdS w2 S2 r d l 10000 (kN 0) kM0 [] from h2)
  have K2 := hide (K1.out.trans (n2.below K1.out.size L1.out))
  have HS2 := hide (n2.up K1.out.size L1.out)
  clear h2 n2 hop
  go_wp2_with fail
  go_loopw [5] (fun i wr => ∃ (j : Nat) (S : Nat → Prop), j ≤ 10 ∧ i = .int .i64 (j : Int) ∧ Hid (∀ k, S k → w.heap.size ≤ k) ∧ Hid (Below w.heap.size w wr) ∧ (j < 10 → Hid (NdS wr S r d l 10000 (kN j) kM0 [])) ∧ (j = 10 → Hid (∃ vt, NdS wr S r d l 10000 (kN9 vt) (addE 10000 1 kM0 kL1).1 (addE 10000 1 kM0 kL1).2))) (fun i _ => 10 - (intOf i).toNat)
  case atStart => exact ⟨0, S2, by omega, rfl, HS2, K2, fun _ => H2, fun h => by omega⟩
  case round =>
    obtain ⟨j, S, hj, rfl, HS, HK, HA, HB⟩ := hrel
    by_cases hlt : j < 10
    · have hjz : (j : Int) < 10 := by omega
      by_cases h9 : j < 9
      · have TW := hide (ktick_wait (HA hlt).out h9)
        clear HA HB
        go_wp2_with fail
        refine TW.out.mono ?_
        rintro e w3 ⟨⟨A, n, c, rfl⟩, h3, n3⟩
        have H3 := hide h3
        have N3 := hide n3
        clear h3 n3 TW
        go_wp2_with fail
        go_roundw
        case rel => exact ⟨j + 1, S, by omega, by go_num, HS, hide (HK.out.trans (N3.out.below HK.out.size HS.out)), fun _ => H3, fun h => by omega⟩
        case measure => simp [intOf]; omega
      · obtain rfl : j = 9 := by omega
        have TW := hide (ktick_last (HA hlt).out)
        clear HA HB
        go_wp2_with fail
        refine TW.out.mono ?_
        rintro e w3 ⟨⟨A, n, c, rfl⟩, S3, vt, h3, n3⟩
        have H3 : Hid (∃ vt, NdS w3 S3 r d l 10000 (kN9 vt) (addE 10000 1 kM0 kL1).1 (addE 10000 1 kM0 kL1).2) := hide ⟨vt, h3⟩
        have N3 := hide n3
        clear h3 n3 TW
        go_wp2_with fail
        go_roundw
        case rel => exact ⟨10, S3, by omega, by go_num, hide (N3.out.up HK.out.size HS.out), hide (HK.out.trans (N3.out.below HK.out.size HS.out)), fun h => by omega, fun _ => H3⟩
        case measure => simp [intOf]
    · obtain rfl : j = 10 := by omega
      obtain ⟨vt, h9⟩ := (HB rfl).out
      have H9 := hide h9
      clear h9 HA HB
      go_wp2_with fail
      refine (state_any H9.out).mono ?_
      rintro e w3 ⟨rfl, k3⟩
      have H3 := hide (H9.out.below k3)
      have K3 := hide (HK.out.trans (k3.mono HK.out.size))
      clear k3
      go_wp2_with fail
      refine (rtake_any H3.out [(1, [])] 1 0 rfl rfl rfl (by decide) (by decide) k_ents).mono ?_
      rintro e w4 ⟨v, rfl, r4, _, n4⟩
      have K4 := hide (K3.out.trans (n4.below K3.out.size HS.out))
      clear n4
      rcases r4.form with ⟨h0, _⟩ | ⟨g, c, rfl, _, _, hf⟩
      · cases h0
      obtain ⟨A, n, cc, _, c1, _, hn⟩ := hf 0 (by decide)
      have hn0 : n = 0 := hn.symm
      subst hn0
      have c1 : w4.cell? ⟨g, 1, none⟩ = some (.slice A 0 cc) := c1
      clear hf hn r4
      go_wp2_with fail
      go_ret
      exact ⟨rfl, K4.out⟩
end Go.Proofs.YtejhoefmcldpnaaGreat
