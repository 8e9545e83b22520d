/- The contract of a node's Hear at a leader's message of a newer term with entries that are laid behind all that it has. Condition: the message is meant, the disk -/
import Derived.Test.YtedlibkkeegnaaaGreatRp36
namespace Go.Proofs.YtedlibkkeegnaaaGreat
open Go.RowKit Go.Maps
variable {w w3 w4 w5 : World} {F : Nat -> Prop} {L : DiskL} {M : LogL} {room l d : Nat}
set_option maxRecDepth 100000 in
set_option maxHeartbeats 6400000 in
theorem hear_lay {S : Nat -> Prop} {r : Nat} {N : Nd} (h : NdS w S r d l room N M L) (f t draw : Int) (g c t1 : Nat) (D : Option Addr) (m dc : Nat) (z0 z1 z2 z3 : Int) (hc : 4 <= c) (hN : NumsAt w g [z0, z1, z2, z3]) (hg : ¬ S g) (hz : okN [z0, z1, z2, z3]) (ht : t = (N.id : Int)) (hf1 : f ≠ (N.id : Int)) (hf2 : 0 <= f) (hf3 : f < (N.n : Int)) (hkn : kindN 3 [z0, z1, z2, z3]) (hlt : (N.term : Int) < z0)
  (hz0 : z0 = (t1 : Int)) (a ta zc en : Nat) (hz1 : z1 = (a : Int)) (hz2 : z2 = (ta : Int)) (hz3 : z3 = (zc : Int)) (ht1 : t1 < 9223372036854775808) (hd : (draftL room termK (numsL [t1, 0]) L).2 = 0) (hcm : N.comm <= a) (h1 : M.next = a + 1) (h2 : M.next <= 1099511627776) (hte : TermE M (a : Int) ta)
  (es : List (Nat × List Nat)) (ne : Nat) (hne : es.length = ne) (hn1 : 1 <= ne) (hn8 : ne <= 8) (hen : en = a + ne) (hzc : N.comm <= zc /\ zc <= en) (hfi : firstL M <= a + 1) (hcut : cutW logK (a + 1) M (termP (numsL [t1, 0]) L) = (M, termP (numsL [t1, 0]) L)) (hfE : ∀ x ∈ es, FitE x) (hLB : LowB w w.heap.size D m dc (sentL es)) (hDS : ∀ b, D = some b -> ¬ S b.block)
  (hok : ∀ j (hj : j < es.length), (addL room logK (uvl (es[j]).1 ++ (es[j]).2) (layS room (es.take j) (M, termP (numsL [t1, 0]) L)).1 (layS room (es.take j) (M, termP (numsL [t1, 0]) L)).2).2.2 = 0) :
  Calls Tryz.prog 8 #[.pointer (some ⟨r, 0, none⟩), .agg #[.int .i64 f, .int .i64 t, .int .i64 3, .slice (some ⟨g, 0, none⟩) 4 c, .slice D m dc], .int .i64 draw] w fun e w' => ∃ v ga, e = .returned v /\ OneA w' v (N.id : Int) f 4 ga 3 3 /\ NumsAt w' ga [(t1 : Int), 1, (en : Int)] /\ ∃ S', NdS w' S' r d l room { N with term := t1, vote := -1, role := 0, lead := f, wait := waitOf draw, comm := zc } ⟨(layS room es (M, termP (numsL [t1, 0]) L)).1.segs, (layS room es (M, termP (numsL [t1, 0]) L)).1.next, []⟩ (syncsL logK (layS room es (M, termP (numsL [t1, 0]) L)).1.dirty (layS room es (M, termP (numsL [t1, 0]) L)).2) /\ Next S w S' w' := by
 have hdl : decide ((N.term : Int) < z0) = true := by simp; omega
 have FO : Hid (∀ U, NdS U S r d l room N M L -> Calls Tryz.prog 22 #[.pointer (some ⟨r, 0, none⟩), .int .i64 z0] U fun e w' => e = .returned (.bool true) /\ ∃ S', NdS w' S' r d l room { N with term := t1, vote := -1, role := 0, lead := -1 } M (termP (numsL [t1, 0]) L) /\ Next S U S' w') := hide (fun U hu => by rw [hz0]; exact follow_ok hu t1 ht1 hd);have HZ := hide (And.intro hz0 (And.intro hz1 (And.intro hz2 hz3)));have HM := hide (And.intro hcm (And.intro h1 (And.intro h2 hte)));have HJ := hide (And.intro hne (And.intro hn1 (And.intro hn8 (And.intro hen (And.intro hzc (And.intro hfi (And.intro hcut (And.intro hfE hok))))))));have HLB := hide hLB;have HDS := hide hDS;clear hne hn1 hn8 hen hzc hfi hcut hfE hok hLB hDS;have HG := hide hg;have hlow := h.low;have HLO := hide hlow;clear hz0 hz1 hz2 hz3 hcm h1 h2 hte hg hlow ht1 hd;have ka := below_alloc w (.cells #[.int .i64 f, .int .i64 t, .int .i64 3, .slice (some ⟨g, 0, none⟩) 4 c, .slice D m dc] 34);have bg := Blk.new w (B := 0) 34 #[.int .i64 f, .int .i64 t, .int .i64 3, .slice (some ⟨g, 0, none⟩) 4 c, .slice D m dc] (Nat.zero_le _);obtain ⟨q, hq⟩ : ∃ q, q = w.heap.size := ⟨_, rfl⟩;obtain ⟨W, hW⟩ : ∃ W, W = w.alloc (.cells #[.int .i64 f, .int .i64 t, .int .i64 3, .slice (some ⟨g, 0, none⟩) 4 c, .slice D m dc] 34) := ⟨_, rfl⟩;have HN0 := h.below ka;have NN := hN.keep ka;have HB := hide (fun Z (kz : Below W.heap.size W Z) => (by rw [hW] at kz; exact bg.keep kz : Blk Z 0 34 w.heap.size [.int .i64 f, .int .i64 t, .int .i64 3, .slice (some ⟨g, 0, none⟩) 4 c, .slice D m dc]));rw [<- hq] at HB;rw [<- hW] at ka HN0 NN;have ST := hide (stopped_no HN0);have ME := hide (meant_ok HN0 f t 3 g 4 c D m dc [z0, z1, z2, z3] rfl hc NN hz ht hf1 hf2 hf3 hkn);unfold msgV at ME;have BW := HB.out W (Below.refl _ _);have x0 : W.cell? ⟨q, 0, none⟩ = some (.int .i64 f) := BW.cell 0;have x1 : W.cell? ⟨q, 1, none⟩ = some (.int .i64 t) := BW.cell 1;have x2 : W.cell? ⟨q, 2, none⟩ = some (.int .i64 3) := BW.cell 2;have x3 : W.cell? ⟨q, 3, none⟩ = some (.slice (some ⟨g, 0, none⟩) 4 c) := BW.cell 3;have x4 : W.cell? ⟨q, 4, none⟩ = some (.slice D m dc) := BW.cell 4;have HH := hide HN0;have HNN := hide NN;have KA := hide ka;have HQ : Hid (w.heap.size = q) := hide hq.symm;obtain ⟨tt, htt⟩ : ∃ z, z = N.term := ⟨_, rfl⟩;rw [<- htt] at hlt hdl;have HTT := hide htt;clear h hN hz ht hf1 hf2 hf3 hkn bg HN0 NN ka BW htt;go_enter Tryz.func8, Tryz.ntmps8;go_wp2_with fail
 rw [<- hW, <- hq];clear hW hq;refine ST.out.mono ?_;rintro e w0 ⟨rfl, rfl⟩;clear ST;go_wp2_with fail
 refine ME.out.mono ?_;rintro e w1 ⟨rfl, k1⟩;have B1 := HB.out w1 k1;have y0 : w1.cell? ⟨q, 0, none⟩ = some (.int .i64 f) := B1.cell 0;have y1 : w1.cell? ⟨q, 1, none⟩ = some (.int .i64 t) := B1.cell 1;have y2 : w1.cell? ⟨q, 2, none⟩ = some (.int .i64 3) := B1.cell 2;have y3 : w1.cell? ⟨q, 3, none⟩ = some (.slice (some ⟨g, 0, none⟩) 4 c) := B1.cell 3;have y4 : w1.cell? ⟨q, 4, none⟩ = some (.slice D m dc) := B1.cell 4;have K1 := hide k1;have K01 := KA.out.trans (k1.mono KA.out.size);have EN := hide (entries_some f t (some ⟨g, 0, none⟩) 4 c D m dc es w1 ((HLB.out.keep K01).up K01.size) (by have h1 := HJ.out.1; have h2 := HJ.out.2.2.1; omega) HJ.out.2.2.2.2.2.2.2.1);have HSZ := hide K01.size;clear K01;clear k1 B1 x0 x1 x2 x3 x4 ME;go_wp2_with fail
 refine EN.out.mono ?_;rintro e w2 ⟨lv, rfl, eq2, k2⟩;have hne' : es ≠ [] := fun e => by have h1 := HJ.out.1; have h2 := HJ.out.2.1; rw [e] at h1; simp at h1; omega
 have K02 := KA.out.trans ((K1.out.trans (k2.mono K1.out.size)).mono KA.out.size);obtain ⟨ge, ce, elv, _, hge, ea⟩ := eq2.at_ (S := S) hne' (fun g hg hs => by have h1 := (eq2.lt g hg).1; have h2 := HLO.out g hs; have h3 := HSZ.out; omega) (fun b hb => ⟨HDS.out b hb, by
  rcases HLB.out.low with h | ⟨b', o', e, h⟩
  ·rw [h] at hb; cases hb
  ·rw [e] at hb; cases hb; have := K02.size; show b' < _; omega⟩)
 rw [HJ.out.1] at elv;subst elv;have EA := hide ea;have GA := hide hge;clear eq2 hne' K02 ea hge HSZ;have K2 := hide (K1.out.trans (k2.mono K1.out.size));have B2 := HB.out w2 K2.out;have H2 := hide (HH.out.below K2.out);have N2 := hide (HNN.out.keep K2.out);have u3 : w2.cell? ⟨q, 3, none⟩ = some (.slice (some ⟨g, 0, none⟩) 4 c) := B2.cell 3;have u4 : w2.cell? ⟨r, 4, none⟩ = some (.int .i64 (N.term : Int)) := nds_cell H2.out 4;have u5 : w2.cell? ⟨g, 0, none⟩ = some (.int .i64 z0) := N2.out 0 (by simp);rw [<- HTT.out] at u4;clear k2 K1 y0 y1 y2 y3 y4 EN B2 HH HNN;go_wp2_with fail
 refine WaysT.start (fun W' : World => W'.cell? ⟨q, 3, none⟩ = some (.slice (some ⟨g, 0, none⟩) 4 c) /\ W'.cell? ⟨r, 4, none⟩ = some (.int .i64 (tt : Int)) /\ W'.cell? ⟨g, 0, none⟩ = some (.int .i64 z0)) 18 22 #[false, false, false, false, false, false, false, false, false, false, false, false, false, false, false, false, false, false, false, false, false, false] (by kernel_rfl) (by kernel_rfl) (by kernel_rfl) ?_;have hHeld : (fun W' : World => W'.cell? ⟨q, 3, none⟩ = some (.slice (some ⟨g, 0, none⟩) 4 c) /\ W'.cell? ⟨r, 4, none⟩ = some (.int .i64 (tt : Int)) /\ W'.cell? ⟨g, 0, none⟩ = some (.int .i64 z0)) (w2.drewN 1) := ⟨u3, u4, u5⟩;have H2 := hide (H2.out.below (below_drewN (Below.refl _ _) 1));have N2 := hide (N2.out.keep (below_drewN (Below.refl _ _) 1));have EA := hide (EA.out.next GA.out (Next.of_below S (below_drewN (Below.refl w2.heap.size w2) 1)));have GA := hide (show ge < (w2.drewN 1).heap.size from GA.out);have K2 := hide (K2.out.trans ((below_drewN (Below.refl w2.heap.size w2) 1).mono K2.out.size));clear u3 u4 u5;change WaysT _ _ _ _ _ _ _ _ _ (w2.drewN 1);generalize w2.drewN 1 = U at *;refine' tkT 0 (v := _) rfl hHeld rfl ?_ ?_;rotate_left
 ·(intro W' hW; (try dsimp only at hW); obtain ⟨z3', z4', z5'⟩ := hW; go_simp; (try with_reducible rfl))
 try simp only [Act.put, List.setIfInBounds_toArray, List.set_cons_zero, List.set_cons_succ]
 refine' tkT 1 (v := _) rfl hHeld rfl ?_ ?_;rotate_left
 ·(intro W' hW; (try dsimp only at hW); obtain ⟨z3', z4', z5'⟩ := hW; go_simp; (try with_reducible rfl))
 try simp only [Act.put, List.setIfInBounds_toArray, List.set_cons_zero, List.set_cons_succ]
 refine' tkT 2 (v := _) rfl hHeld rfl ?_ ?_;rotate_left
 ·(intro W' hW; (try dsimp only at hW); obtain ⟨z3', z4', z5'⟩ := hW; go_simp; (try with_reducible rfl))
 try simp only [Act.put, List.setIfInBounds_toArray, List.set_cons_zero, List.set_cons_succ]
 refine' tkT 3 (v := _) rfl hHeld rfl ?_ ?_;rotate_left
 ·(intro W' hW; (try dsimp only at hW); obtain ⟨z3', z4', z5'⟩ := hW; go_simp; (try with_reducible rfl))
 try simp only [Act.put, List.setIfInBounds_toArray, List.set_cons_zero, List.set_cons_succ]
 refine' tkT 4 (v := _) rfl hHeld rfl ?_ ?_;rotate_left
 ·(intro W' hW; (try dsimp only at hW); obtain ⟨z3', z4', z5'⟩ := hW; go_simp; (try with_reducible rfl))
 try simp only [Act.put, List.setIfInBounds_toArray, List.set_cons_zero, List.set_cons_succ]
 refine' tkT 5 (v := _) rfl hHeld rfl ?_ ?_;rotate_left
 ·(intro W' hW; (try dsimp only at hW); obtain ⟨z3', z4', z5'⟩ := hW; go_simp; (try with_reducible rfl))
 try simp only [Act.put, List.setIfInBounds_toArray, List.set_cons_zero, List.set_cons_succ]
 refine' tkT 6 (v := _) rfl hHeld rfl ?_ ?_;rotate_left
 ·(intro W' hW; (try dsimp only at hW); obtain ⟨z3', z4', z5'⟩ := hW; go_simp; (try with_reducible rfl))
 try simp only [Act.put, List.setIfInBounds_toArray, List.set_cons_zero, List.set_cons_succ]
 refine' tkT 7 (v := _) rfl hHeld rfl ?_ ?_;rotate_left
 ·(intro W' hW; (try dsimp only at hW); obtain ⟨z3', z4', z5'⟩ := hW; go_simp; (try with_reducible rfl))
 try simp only [Act.put, List.setIfInBounds_toArray, List.set_cons_zero, List.set_cons_succ]
 refine' tkT 8 (v := _) rfl hHeld rfl ?_ ?_;rotate_left
 ·(intro W' hW; (try dsimp only at hW); obtain ⟨z3', z4', z5'⟩ := hW; go_simp; (try with_reducible rfl))
 try simp only [Act.put, List.setIfInBounds_toArray, List.set_cons_zero, List.set_cons_succ]
 refine' tkT 9 (v := _) rfl hHeld rfl ?_ ?_;rotate_left
 ·(intro W' hW; (try dsimp only at hW); obtain ⟨z3', z4', z5'⟩ := hW; go_simp; (try with_reducible rfl))
 try simp only [Act.put, List.setIfInBounds_toArray, List.set_cons_zero, List.set_cons_succ]
 refine' tkT 10 (v := _) rfl hHeld rfl ?_ ?_;rotate_left
 ·(intro W' hW; (try dsimp only at hW); obtain ⟨z3', z4', z5'⟩ := hW; go_simp; (try with_reducible rfl))
 try simp only [Act.put, List.setIfInBounds_toArray, List.set_cons_zero, List.set_cons_succ]
 refine' tkT 11 (v := _) rfl hHeld rfl ?_ ?_;rotate_left
 ·(intro W' hW; (try dsimp only at hW); obtain ⟨z3', z4', z5'⟩ := hW; go_simp; (try with_reducible rfl))
 try simp only [Act.put, List.setIfInBounds_toArray, List.set_cons_zero, List.set_cons_succ]
 refine' tkT 12 (v := _) rfl hHeld rfl ?_ ?_;rotate_left
 ·(intro W' hW; (try dsimp only at hW); obtain ⟨z3', z4', z5'⟩ := hW; go_simp; (try with_reducible rfl))
 try simp only [Act.put, List.setIfInBounds_toArray, List.set_cons_zero, List.set_cons_succ]
 refine' tkT 13 (v := _) rfl hHeld rfl ?_ ?_;rotate_left
 ·(intro W' hW; (try dsimp only at hW); obtain ⟨z3', z4', z5'⟩ := hW; go_simp; (try with_reducible rfl))
 try simp only [Act.put, List.setIfInBounds_toArray, List.set_cons_zero, List.set_cons_succ]
 refine' tkT 14 (v := _) rfl hHeld rfl ?_ ?_;rotate_left
 ·(intro W' hW; (try dsimp only at hW); obtain ⟨z3', z4', z5'⟩ := hW; go_simp; (try with_reducible rfl))
 try simp only [Act.put, List.setIfInBounds_toArray, List.set_cons_zero, List.set_cons_succ]
 refine' tkT 15 (v := _) rfl hHeld rfl ?_ ?_;rotate_left
 ·(intro W' hW; (try dsimp only at hW); obtain ⟨z3', z4', z5'⟩ := hW; go_simp; (try with_reducible rfl))
 try simp only [Act.put, List.setIfInBounds_toArray, List.set_cons_zero, List.set_cons_succ]
 refine' tkT 16 (v := _) rfl hHeld rfl ?_ ?_;rotate_left
 ·(intro W' hW; (try dsimp only at hW); obtain ⟨z3', z4', z5'⟩ := hW; go_simp; (try with_reducible rfl))
 try simp only [Act.put, List.setIfInBounds_toArray, List.set_cons_zero, List.set_cons_succ]
 refine' tkT 17 (v := _) rfl hHeld rfl ?_ ?_;rotate_left
 ·(intro W' hW; (try dsimp only at hW); obtain ⟨z3', z4', z5'⟩ := hW; go_simp; (try with_reducible rfl))
 try simp only [Act.put, List.setIfInBounds_toArray, List.set_cons_zero, List.set_cons_succ]
 clear hHeld;refine WaysT.turn (by kernel_rfl) rfl (fun K' hK => ?_);go_simp;go_at_call 22;refine (FO.out U H2.out).mono ?_;rintro e w3 ⟨rfl, S3, d3, n3⟩;refine hK.out _ _ ?_;clear hK;try simp only [List.setIfInBounds_toArray, List.set_cons_zero, List.set_cons_succ]
 refine WaysT.then (i := 19) rfl (by kernel_rfl) rfl (fun K' hK => ?_)
 go_simp;refine hK.out _ _ ?_;clear hK;try simp only [List.setIfInBounds_toArray, List.set_cons_zero, List.set_cons_succ]
 refine WaysT.then (i := 20) rfl (by kernel_rfl) rfl (fun K' hK => ?_)
 go_simp;refine hK.out _ _ ?_;clear hK;try simp only [List.setIfInBounds_toArray, List.set_cons_zero, List.set_cons_succ]
 refine WaysT.then (i := 21) rfl (by kernel_rfl) rfl (fun K' hK => ?_)
 go_simp;refine hK.out _ _ ?_;clear hK;try simp only [List.setIfInBounds_toArray, List.set_cons_zero, List.set_cons_succ]
 refine WaysT.done (by kernel_rfl) ?_;have HQS : ¬ S q := fun hs => by have h7 := HLO.out q hs; have h8 := HQ.out; omega
 have B3 := (HB.out U K2.out).turn n3.turn HQS;have v0 : w3.cell? ⟨q, 0, none⟩ = some (.int .i64 f) := B3.cell 0;have v1 : w3.cell? ⟨q, 1, none⟩ = some (.int .i64 t) := B3.cell 1;have v2 : w3.cell? ⟨q, 2, none⟩ = some (.int .i64 3) := B3.cell 2;have v3 : w3.cell? ⟨q, 3, none⟩ = some (.slice (some ⟨g, 0, none⟩) 4 c) := B3.cell 3;have v4 : w3.cell? ⟨q, 4, none⟩ = some (.slice D m dc) := B3.cell 4;have CA := hide (told_lay d3 f t 3 draw g c D m dc z0 z1 z2 z3 (N2.out.turn n3.turn HG.out) HZ.out.1 a ta zc en HZ.out.2.1 HZ.out.2.2.1 HZ.out.2.2.2 HM.out.1 HM.out.2.1 HM.out.2.2.1 HM.out.2.2.2 es ge ce ne (EA.out.next GA.out n3) (Nat.lt_of_lt_of_le GA.out n3.turn.size) HJ.out.1 HJ.out.2.1 (by have := HJ.out.2.2.1; omega) HJ.out.2.2.2.1 HJ.out.2.2.2.2.1 HJ.out.2.2.2.2.2.1 HJ.out.2.2.2.2.2.2.1 (fun x hx => by obtain ⟨h1, h2, h3⟩ := HJ.out.2.2.2.2.2.2.2.1 x hx; exact ⟨by omega, by omega, h3⟩) HJ.out.2.2.2.2.2.2.2.2);unfold msgV at CA;have N3 := hide (((Next.of_below S KA.out).trans (Next.of_below S K2.out)).trans n3);clear B3 HQS d3 n3 hlt hdl;go_wp2_with fail
 refine CA.out.mono ?_;rintro e w5 ⟨v, ga, rfl, oa, na, S5, d5, n5⟩;have D5 := hide d5;have OA := hide oa;have NA := hide na;have N5 := hide (N3.out.trans n5);clear d5 n5 oa na CA;go_wp2_with fail
 go_ret;exact ⟨v, ga, rfl, OA.out, NA.out, S5, D5.out, N5.out⟩
set_option maxRecDepth 100000 in
set_option maxHeartbeats 3200000 in
theorem told_none {S : Nat -> Prop} {r : Nat} {N : Nd} (h : NdS w S r d l room N M L) (f t k draw : Int) (g c : Nat) (D : Option Addr) (m dc : Nat) (z0 z1 z2 z3 : Int) (hN : NumsAt w g [z0, z1, z2, z3]) (hz0 : z0 = (N.term : Int)) (a ta zc : Nat) (hz1 : z1 = (a : Int)) (hz2 : z2 = (ta : Int)) (hz3 : z3 = (zc : Int)) (hcm : N.comm <= zc /\ zc <= a) (h1 : M.next = a + 1) (h2 : M.next <= 1099511627776) (ht : TermE M (a : Int) ta) :
  Calls Tryz.prog 25 #[.pointer (some ⟨r, 0, none⟩), msgV f t k g 4 c D m dc, .slice none 0 0, .int .i64 draw] w fun e w' => ∃ v ga, e = .returned v /\ OneA w' v (N.id : Int) f 4 ga 3 3 /\ NumsAt w' ga [(N.term : Int), 1, (a : Int)] /\ NdS w' S r d l room { N with role := 0, lead := f, wait := waitOf draw, comm := zc } M L /\ Next S w S w' := by
 have ka := below_alloc w (.cells #[.int .i64 f, .int .i64 t, .int .i64 k, .slice (some ⟨g, 0, none⟩) 4 c, .slice D m dc] 34);have bg := Blk.new w (B := 0) 34 #[.int .i64 f, .int .i64 t, .int .i64 k, .slice (some ⟨g, 0, none⟩) 4 c, .slice D m dc] (Nat.zero_le _);obtain ⟨q, hq⟩ : ∃ q, q = w.heap.size := ⟨_, rfl⟩;obtain ⟨W, hW⟩ : ∃ W, W = w.alloc (.cells #[.int .i64 f, .int .i64 t, .int .i64 k, .slice (some ⟨g, 0, none⟩) 4 c, .slice D m dc] 34) := ⟨_, rfl⟩;have HN0 := h.below ka;have NN := hN.keep ka;rw [<- hW] at ka bg HN0 NN;rw [<- hq] at bg;have x0 : W.cell? ⟨q, 0, none⟩ = some (.int .i64 f) := bg.cell 0;have x1 : W.cell? ⟨q, 1, none⟩ = some (.int .i64 t) := bg.cell 1;have x2 : W.cell? ⟨q, 2, none⟩ = some (.int .i64 k) := bg.cell 2;have x3 : W.cell? ⟨q, 3, none⟩ = some (.slice (some ⟨g, 0, none⟩) 4 c) := bg.cell 3;have x4 : W.cell? ⟨q, 4, none⟩ = some (.slice D m dc) := bg.cell 4;have c0 : W.cell? ⟨g, 0, none⟩ = some (.int .i64 z0) := NN 0 (by simp);have c1 : W.cell? ⟨g, 1, none⟩ = some (.int .i64 z1) := NN 1 (by simp);have c2 : W.cell? ⟨g, 2, none⟩ = some (.int .i64 z2) := NN 2 (by simp);have c3 : W.cell? ⟨g, 3, none⟩ = some (.int .i64 z3) := NN 3 (by simp);have r4 : W.cell? ⟨r, 4, none⟩ = some (.int .i64 (N.term : Int)) := nds_cell HN0 4;obtain ⟨tt, htt⟩ : ∃ z, z = N.term := ⟨_, rfl⟩;rw [<- htt] at r4 hz0;subst hz0 hz1 hz2 hz3;have HTT := hide (And.intro htt (And.intro h1 (And.intro h2 (And.intro ht hcm))));have HQ : Hid (w.heap.size <= q) := hide (by rw [hq]; exact Nat.le_refl _);have hlow := h.low;have HQS : Hid (¬ S q) := hide (fun hs => by have := hlow q hs; omega);have KA := hide ka;have HN := hide HN0;have BG := hide bg;have hlt : ¬ (tt : Int) < (tt : Int) := by omega
 clear h hN htt HN0 NN ka bg hcm h1 h2 ht hlow;unfold msgV;go_enter Tryz.func25, Tryz.ntmps25;go_wp2_with fail
 rw [<- hW, <- hq];clear hW hq;go_quiet (fail)
 have HNd := hide (HN.out.below (below_drewN (Below.refl _ _) nq));have KAd := hide (KA.out.trans ((below_drewN (Below.refl W.heap.size W) nq).mono KA.out.size));have BGd := hide (BG.out.drewN nq);have s4 : (W.drewN nq).cell? ⟨r, 4, none⟩ = some (.int .i64 (tt : Int)) := r4;have y0 : (W.drewN nq).cell? ⟨q, 0, none⟩ = some (.int .i64 f) := x0;clear x0 x1 x2 x3 x4 r4 c0 c1 c2 c3 HN KA BG;generalize W.drewN nq = U at *;have s6 : U.cell? ⟨r, 6, none⟩ = some (.int .i64 (N.role : Int)) := nds_cell HNd.out 6;have s7 : U.cell? ⟨r, 7, none⟩ = some (.int .i64 N.lead) := nds_cell HNd.out 7;have f6 := HNd.out.blk.frozen 6;have f7 := HNd.out.blk.frozen 7;go_wp2_with fail
 go_region
 have S1 := HNd.out.set (N' := { N with role := 0 }) 6 (.int .i64 0) rfl HNd.out.fit;have S2 := S1.set (N' := { N with role := 0, lead := f }) 7 (.int .i64 f) rfl HNd.out.fit;have n2 : Next S U S _ := (set_next (u := .int .i64 0) (i := 6) HNd.out.self).trans ((set_next (u := .int .i64 f) (i := 7) S1.self).trans (Next.of_below S (below_drew _)));obtain ⟨W4, hW4⟩ : ∃ Z, Z = ((U.setCell ⟨r, 6, none⟩ (.int .i64 0)).setCell ⟨r, 7, none⟩ (.int .i64 f)).drew := ⟨_, rfl⟩;have D4 : NdS W4 S r d l room { N with role := 0, lead := f } M L := by rw [hW4]; exact S2.below (below_drew _)
 rw [<- hW4] at n2 ⊢;have D4 := hide D4;have N4 := hide ((Next.of_below S KAd.out).trans n2);have B4 := hide (BGd.out.turn n2.turn HQS.out);clear S1 S2 n2 hW4 s6 s7 f6 f7 y0 s4 HNd KAd BGd;go_wp2_with fail
 refine (wait_anew D4.out draw).mono ?_;rintro e w5 ⟨rfl, d5, n5⟩;have D5 := hide d5;have N5 := hide (N4.out.trans n5);have B5 := hide (B4.out.turn n5.turn HQS.out);clear d5 n5 D4 N4 B4;go_wp2_with fail
 refine (has_last D5.out a ta HTT.out.2.1 HTT.out.2.2.1 HTT.out.2.2.2.1).mono ?_;rintro e w6 ⟨rfl, k6⟩;have D6 := hide (D5.out.below k6);have N6 := hide (N5.out.trans (Next.of_below S k6));have B6 := hide (B5.out.keep k6);clear k6 D5 N5 B5;have ha9 : a <= 1099511627776 := by have := HTT.out.2.1; have := HTT.out.2.2.1; omega
 go_wp2_with fail
 refine (join_none r _ w6).mono ?_;rintro e w7 ⟨rfl, rfl⟩;have s8 : w6.cell? ⟨r, 8, none⟩ = some (.int .i64 ((N.comm : Nat) : Int)) := nds_cell D6.out 8;have HMM : Hid (max (N.comm : Int) (min (zc : Int) (a : Int)) = (zc : Int)) := hide (by have := HTT.out.2.2.2.2; omega);have f8 := D6.out.blk.frozen 8;have S8 := hide (D6.out.set (N' := { N with role := 0, lead := f, wait := waitOf draw, comm := zc }) 8 (.int .i64 (zc : Int)) rfl D6.out.fit);have n8 : Next S w6 S _ := set_next (u := .int .i64 (zc : Int)) (i := 8) D6.out.self;have N8 := hide (N6.out.trans n8);have B8 := hide (B6.out.turn n8.turn HQS.out);obtain ⟨V, hV⟩ : ∃ Z, Z = w6.setCell ⟨r, 8, none⟩ (.int .i64 (zc : Int)) := ⟨_, rfl⟩;rw [<- hV] at S8 N8 B8;clear n8 D6 N6 B6;go_wp2_with fail
 rw [HMM.out, <- hV];clear hV s8 f8;have v0 : V.cell? ⟨q, 0, none⟩ = some (.int .i64 f) := B8.out.cell 0;have v1 : V.cell? ⟨q, 1, none⟩ = some (.int .i64 t) := B8.out.cell 1;have v2 : V.cell? ⟨q, 2, none⟩ = some (.int .i64 k) := B8.out.cell 2;have v3 : V.cell? ⟨q, 3, none⟩ = some (.slice (some ⟨g, 0, none⟩) 4 c) := B8.out.cell 3;have v4 : V.cell? ⟨q, 4, none⟩ = some (.slice D m dc) := B8.out.cell 4;have s4 : V.cell? ⟨r, 4, none⟩ = some (.int .i64 (N.term : Int)) := nds_cell S8.out 4;rw [<- HTT.out.1] at s4;have kb := below_alloc V (.cells #[.int .i64 (tt : Int), .int .i64 1, .int .i64 (a : Int)] 3);have NB := hide (build_nums V #[.int .i64 (tt : Int), .int .i64 1, .int .i64 (a : Int)] [(tt : Int), 1, (a : Int)] rfl);have KB := hide (kb.trans ((below_drew _).mono kb.size));clear kb
 go_region_held3 (fun W' => W'.cell? ⟨q, 0, none⟩ = some (.int .i64 f) /\ W'.cell? ⟨q, 1, none⟩ = some (.int .i64 t) /\ W'.cell? ⟨q, 2, none⟩ = some (.int .i64 k) /\ W'.cell? ⟨q, 3, none⟩ = some (.slice (some ⟨g, 0, none⟩) 4 c) /\ W'.cell? ⟨q, 4, none⟩ = some (.slice D m dc) /\ W'.cell? ⟨r, 4, none⟩ = some (.int .i64 (tt : Int))) (go_keep)
  (first
   | (go_at_call 49; refine (answer_any (S8.out.below KB.out) f t k 4 g 4 c D m dc _ _ _).mono ?_; rintro e w9 ⟨v, rfl, oa, k9⟩; have NA := hide (NumsAt.keep (by exact NB.out) k9); have OA := hide oa; have K9 := hide (KB.out.trans (k9.mono KB.out.size)); have B9 := B8.out.keep K9.out; have u0 : w9.cell? ⟨q, 0, none⟩ = some (.int .i64 f) := B9.cell 0; have u1 : w9.cell? ⟨q, 1, none⟩ = some (.int .i64 t) := B9.cell 1; have u2 : w9.cell? ⟨q, 2, none⟩ = some (.int .i64 k) := B9.cell 2; have u3 : w9.cell? ⟨q, 3, none⟩ = some (.slice (some ⟨g, 0, none⟩) 4 c) := B9.cell 3; have u4 : w9.cell? ⟨q, 4, none⟩ = some (.slice D m dc) := B9.cell 4; have u5 := (K9.out.cell (cell_lt s4)).trans s4; clear k9 B9 oa))
 go_wp2_with fail
 go_ret;rw [HTT.out.1] at NA;exact ⟨v, _, rfl, OA.out, NA.out, S8.out.below K9.out, N8.out.trans (Next.of_below S K9.out)⟩
set_option maxRecDepth 100000 in
set_option maxHeartbeats 3200000 in
theorem hear_none {S : Nat -> Prop} {r : Nat} {N : Nd} (h : NdS w S r d l room N M L) (f t draw : Int) (g c t1 : Nat) {D : Option Addr} {dc : Nat} (z0 z1 z2 z3 : Int) (hc : 4 <= c) (hN : NumsAt w g [z0, z1, z2, z3]) (hg : ¬ S g) (hz : okN [z0, z1, z2, z3]) (ht : t = (N.id : Int)) (hf1 : f ≠ (N.id : Int)) (hf2 : 0 <= f) (hf3 : f < (N.n : Int)) (hkn : kindN 3 [z0, z1, z2, z3]) (hlt : (N.term : Int) < z0)
  (hz0 : z0 = (t1 : Int)) (a ta zc : Nat) (hz1 : z1 = (a : Int)) (hz2 : z2 = (ta : Int)) (hz3 : z3 = (zc : Int)) (ht1 : t1 < 9223372036854775808) (hd : (draftL room termK (numsL [t1, 0]) L).2 = 0) (hcm : N.comm <= zc /\ zc <= a) (h1 : M.next = a + 1) (h2 : M.next <= 1099511627776) (hte : TermE M (a : Int) ta) :
  Calls Tryz.prog 8 #[.pointer (some ⟨r, 0, none⟩), .agg #[.int .i64 f, .int .i64 t, .int .i64 3, .slice (some ⟨g, 0, none⟩) 4 c, .slice D 0 dc], .int .i64 draw] w fun e w' => ∃ v ga, e = .returned v /\ OneA w' v (N.id : Int) f 4 ga 3 3 /\ NumsAt w' ga [(t1 : Int), 1, (a : Int)] /\ ∃ S', NdS w' S' r d l room { N with term := t1, vote := -1, role := 0, lead := f, wait := waitOf draw, comm := zc } M (termP (numsL [t1, 0]) L) /\ Next S w S' w' := by
 have hdl : decide ((N.term : Int) < z0) = true := by simp; omega
 have FO : Hid (∀ U, NdS U S r d l room N M L -> Calls Tryz.prog 22 #[.pointer (some ⟨r, 0, none⟩), .int .i64 z0] U fun e w' => e = .returned (.bool true) /\ ∃ S', NdS w' S' r d l room { N with term := t1, vote := -1, role := 0, lead := -1 } M (termP (numsL [t1, 0]) L) /\ Next S U S' w') := hide (fun U hu => by rw [hz0]; exact follow_ok hu t1 ht1 hd);have HZ := hide (And.intro hz0 (And.intro hz1 (And.intro hz2 hz3)));have HM := hide (And.intro hcm (And.intro h1 (And.intro h2 hte)));have HG := hide hg;have hlow := h.low;have HLO := hide hlow;clear hz0 hz1 hz2 hz3 hcm h1 h2 hte hg hlow ht1 hd;have ka := below_alloc w (.cells #[.int .i64 f, .int .i64 t, .int .i64 3, .slice (some ⟨g, 0, none⟩) 4 c, .slice D 0 dc] 34);have bg := Blk.new w (B := 0) 34 #[.int .i64 f, .int .i64 t, .int .i64 3, .slice (some ⟨g, 0, none⟩) 4 c, .slice D 0 dc] (Nat.zero_le _);obtain ⟨q, hq⟩ : ∃ q, q = w.heap.size := ⟨_, rfl⟩;obtain ⟨W, hW⟩ : ∃ W, W = w.alloc (.cells #[.int .i64 f, .int .i64 t, .int .i64 3, .slice (some ⟨g, 0, none⟩) 4 c, .slice D 0 dc] 34) := ⟨_, rfl⟩;have HN0 := h.below ka;have NN := hN.keep ka;have HB := hide (fun Z (kz : Below W.heap.size W Z) => (by rw [hW] at kz; exact bg.keep kz : Blk Z 0 34 w.heap.size [.int .i64 f, .int .i64 t, .int .i64 3, .slice (some ⟨g, 0, none⟩) 4 c, .slice D 0 dc]));rw [<- hq] at HB;rw [<- hW] at ka HN0 NN;have ST := hide (stopped_no HN0);have ME := hide (meant_ok HN0 f t 3 g 4 c D 0 dc [z0, z1, z2, z3] rfl hc NN hz ht hf1 hf2 hf3 hkn);unfold msgV at ME;have BW := HB.out W (Below.refl _ _);have x0 : W.cell? ⟨q, 0, none⟩ = some (.int .i64 f) := BW.cell 0;have x1 : W.cell? ⟨q, 1, none⟩ = some (.int .i64 t) := BW.cell 1;have x2 : W.cell? ⟨q, 2, none⟩ = some (.int .i64 3) := BW.cell 2;have x3 : W.cell? ⟨q, 3, none⟩ = some (.slice (some ⟨g, 0, none⟩) 4 c) := BW.cell 3;have x4 : W.cell? ⟨q, 4, none⟩ = some (.slice D 0 dc) := BW.cell 4;have HH := hide HN0;have HNN := hide NN;have KA := hide ka;have HQ : Hid (w.heap.size = q) := hide hq.symm;obtain ⟨tt, htt⟩ : ∃ z, z = N.term := ⟨_, rfl⟩;rw [<- htt] at hlt hdl;have HTT := hide htt;clear h hN hz ht hf1 hf2 hf3 hkn bg HN0 NN ka BW htt;go_enter Tryz.func8, Tryz.ntmps8;go_wp2_with fail
 rw [<- hW, <- hq];clear hW hq;refine ST.out.mono ?_;rintro e w0 ⟨rfl, rfl⟩;clear ST;go_wp2_with fail
 refine ME.out.mono ?_;rintro e w1 ⟨rfl, k1⟩;have B1 := HB.out w1 k1;have y0 : w1.cell? ⟨q, 0, none⟩ = some (.int .i64 f) := B1.cell 0;have y1 : w1.cell? ⟨q, 1, none⟩ = some (.int .i64 t) := B1.cell 1;have y2 : w1.cell? ⟨q, 2, none⟩ = some (.int .i64 3) := B1.cell 2;have y3 : w1.cell? ⟨q, 3, none⟩ = some (.slice (some ⟨g, 0, none⟩) 4 c) := B1.cell 3;have y4 : w1.cell? ⟨q, 4, none⟩ = some (.slice D 0 dc) := B1.cell 4;have K1 := hide k1;have EN := hide (entries_none f t 3 g 4 c D dc w1);unfold msgV at EN;clear k1 B1 x0 x1 x2 x3 x4 ME;go_wp2_with fail
 refine EN.out.mono ?_;rintro e w2 ⟨rfl, k2⟩;have K2 := hide (K1.out.trans (k2.mono K1.out.size));have B2 := HB.out w2 K2.out;have H2 := hide (HH.out.below K2.out);have N2 := hide (HNN.out.keep K2.out);have u3 : w2.cell? ⟨q, 3, none⟩ = some (.slice (some ⟨g, 0, none⟩) 4 c) := B2.cell 3;have u4 : w2.cell? ⟨r, 4, none⟩ = some (.int .i64 (N.term : Int)) := nds_cell H2.out 4;have u5 : w2.cell? ⟨g, 0, none⟩ = some (.int .i64 z0) := N2.out 0 (by simp);rw [<- HTT.out] at u4;clear k2 K1 y0 y1 y2 y3 y4 EN B2 HH HNN;go_wp2_with fail
 refine WaysT.start (fun W' : World => W'.cell? ⟨q, 3, none⟩ = some (.slice (some ⟨g, 0, none⟩) 4 c) /\ W'.cell? ⟨r, 4, none⟩ = some (.int .i64 (tt : Int)) /\ W'.cell? ⟨g, 0, none⟩ = some (.int .i64 z0)) 18 22 #[false, false, false, false, false, false, false, false, false, false, false, false, false, false, false, false, false, false, false, false, false, false] (by kernel_rfl) (by kernel_rfl) (by kernel_rfl) ?_;have hHeld : (fun W' : World => W'.cell? ⟨q, 3, none⟩ = some (.slice (some ⟨g, 0, none⟩) 4 c) /\ W'.cell? ⟨r, 4, none⟩ = some (.int .i64 (tt : Int)) /\ W'.cell? ⟨g, 0, none⟩ = some (.int .i64 z0)) (w2.drewN 1) := ⟨u3, u4, u5⟩;have H2 := hide (H2.out.below (below_drewN (Below.refl _ _) 1));have N2 := hide (N2.out.keep (below_drewN (Below.refl _ _) 1));have K2 := hide (K2.out.trans ((below_drewN (Below.refl w2.heap.size w2) 1).mono K2.out.size));clear u3 u4 u5;change WaysT _ _ _ _ _ _ _ _ _ (w2.drewN 1);generalize w2.drewN 1 = U at *;refine' tkT 0 (v := _) rfl hHeld rfl ?_ ?_;rotate_left
 ·(intro W' hW; (try dsimp only at hW); obtain ⟨z3', z4', z5'⟩ := hW; go_simp; (try with_reducible rfl))
 try simp only [Act.put, List.setIfInBounds_toArray, List.set_cons_zero, List.set_cons_succ]
 refine' tkT 1 (v := _) rfl hHeld rfl ?_ ?_;rotate_left
 ·(intro W' hW; (try dsimp only at hW); obtain ⟨z3', z4', z5'⟩ := hW; go_simp; (try with_reducible rfl))
 try simp only [Act.put, List.setIfInBounds_toArray, List.set_cons_zero, List.set_cons_succ]
 refine' tkT 2 (v := _) rfl hHeld rfl ?_ ?_;rotate_left
 ·(intro W' hW; (try dsimp only at hW); obtain ⟨z3', z4', z5'⟩ := hW; go_simp; (try with_reducible rfl))
 try simp only [Act.put, List.setIfInBounds_toArray, List.set_cons_zero, List.set_cons_succ]
 refine' tkT 3 (v := _) rfl hHeld rfl ?_ ?_;rotate_left
 ·(intro W' hW; (try dsimp only at hW); obtain ⟨z3', z4', z5'⟩ := hW; go_simp; (try with_reducible rfl))
 try simp only [Act.put, List.setIfInBounds_toArray, List.set_cons_zero, List.set_cons_succ]
 refine' tkT 4 (v := _) rfl hHeld rfl ?_ ?_;rotate_left
 ·(intro W' hW; (try dsimp only at hW); obtain ⟨z3', z4', z5'⟩ := hW; go_simp; (try with_reducible rfl))
 try simp only [Act.put, List.setIfInBounds_toArray, List.set_cons_zero, List.set_cons_succ]
 refine' tkT 5 (v := _) rfl hHeld rfl ?_ ?_;rotate_left
 ·(intro W' hW; (try dsimp only at hW); obtain ⟨z3', z4', z5'⟩ := hW; go_simp; (try with_reducible rfl))
 try simp only [Act.put, List.setIfInBounds_toArray, List.set_cons_zero, List.set_cons_succ]
 refine' tkT 6 (v := _) rfl hHeld rfl ?_ ?_;rotate_left
 ·(intro W' hW; (try dsimp only at hW); obtain ⟨z3', z4', z5'⟩ := hW; go_simp; (try with_reducible rfl))
 try simp only [Act.put, List.setIfInBounds_toArray, List.set_cons_zero, List.set_cons_succ]
 refine' tkT 7 (v := _) rfl hHeld rfl ?_ ?_;rotate_left
 ·(intro W' hW; (try dsimp only at hW); obtain ⟨z3', z4', z5'⟩ := hW; go_simp; (try with_reducible rfl))
 try simp only [Act.put, List.setIfInBounds_toArray, List.set_cons_zero, List.set_cons_succ]
 refine' tkT 8 (v := _) rfl hHeld rfl ?_ ?_;rotate_left
 ·(intro W' hW; (try dsimp only at hW); obtain ⟨z3', z4', z5'⟩ := hW; go_simp; (try with_reducible rfl))
 try simp only [Act.put, List.setIfInBounds_toArray, List.set_cons_zero, List.set_cons_succ]
 refine' tkT 9 (v := _) rfl hHeld rfl ?_ ?_;rotate_left
 ·(intro W' hW; (try dsimp only at hW); obtain ⟨z3', z4', z5'⟩ := hW; go_simp; (try with_reducible rfl))
 try simp only [Act.put, List.setIfInBounds_toArray, List.set_cons_zero, List.set_cons_succ]
 refine' tkT 10 (v := _) rfl hHeld rfl ?_ ?_;rotate_left
 ·(intro W' hW; (try dsimp only at hW); obtain ⟨z3', z4', z5'⟩ := hW; go_simp; (try with_reducible rfl))
 try simp only [Act.put, List.setIfInBounds_toArray, List.set_cons_zero, List.set_cons_succ]
 refine' tkT 11 (v := _) rfl hHeld rfl ?_ ?_;rotate_left
 ·(intro W' hW; (try dsimp only at hW); obtain ⟨z3', z4', z5'⟩ := hW; go_simp; (try with_reducible rfl))
 try simp only [Act.put, List.setIfInBounds_toArray, List.set_cons_zero, List.set_cons_succ]
 refine' tkT 12 (v := _) rfl hHeld rfl ?_ ?_;rotate_left
 ·(intro W' hW; (try dsimp only at hW); obtain ⟨z3', z4', z5'⟩ := hW; go_simp; (try with_reducible rfl))
 try simp only [Act.put, List.setIfInBounds_toArray, List.set_cons_zero, List.set_cons_succ]
 refine' tkT 13 (v := _) rfl hHeld rfl ?_ ?_;rotate_left
 ·(intro W' hW; (try dsimp only at hW); obtain ⟨z3', z4', z5'⟩ := hW; go_simp; (try with_reducible rfl))
 try simp only [Act.put, List.setIfInBounds_toArray, List.set_cons_zero, List.set_cons_succ]
 refine' tkT 14 (v := _) rfl hHeld rfl ?_ ?_;rotate_left
 ·(intro W' hW; (try dsimp only at hW); obtain ⟨z3', z4', z5'⟩ := hW; go_simp; (try with_reducible rfl))
 try simp only [Act.put, List.setIfInBounds_toArray, List.set_cons_zero, List.set_cons_succ]
 refine' tkT 15 (v := _) rfl hHeld rfl ?_ ?_;rotate_left
 ·(intro W' hW; (try dsimp only at hW); obtain ⟨z3', z4', z5'⟩ := hW; go_simp; (try with_reducible rfl))
 try simp only [Act.put, List.setIfInBounds_toArray, List.set_cons_zero, List.set_cons_succ]
 refine' tkT 16 (v := _) rfl hHeld rfl ?_ ?_;rotate_left
 ·(intro W' hW; (try dsimp only at hW); obtain ⟨z3', z4', z5'⟩ := hW; go_simp; (try with_reducible rfl))
 try simp only [Act.put, List.setIfInBounds_toArray, List.set_cons_zero, List.set_cons_succ]
 refine' tkT 17 (v := _) rfl hHeld rfl ?_ ?_;rotate_left
 ·(intro W' hW; (try dsimp only at hW); obtain ⟨z3', z4', z5'⟩ := hW; go_simp; (try with_reducible rfl))
 try simp only [Act.put, List.setIfInBounds_toArray, List.set_cons_zero, List.set_cons_succ]
 clear hHeld;refine WaysT.turn (by kernel_rfl) rfl (fun K' hK => ?_);go_simp;go_at_call 22;refine (FO.out U H2.out).mono ?_;rintro e w3 ⟨rfl, S3, d3, n3⟩;refine hK.out _ _ ?_;clear hK;try simp only [List.setIfInBounds_toArray, List.set_cons_zero, List.set_cons_succ]
 refine WaysT.then (i := 19) rfl (by kernel_rfl) rfl (fun K' hK => ?_)
 go_simp;refine hK.out _ _ ?_;clear hK;try simp only [List.setIfInBounds_toArray, List.set_cons_zero, List.set_cons_succ]
 refine WaysT.then (i := 20) rfl (by kernel_rfl) rfl (fun K' hK => ?_)
 go_simp;refine hK.out _ _ ?_;clear hK;try simp only [List.setIfInBounds_toArray, List.set_cons_zero, List.set_cons_succ]
 refine WaysT.then (i := 21) rfl (by kernel_rfl) rfl (fun K' hK => ?_)
 go_simp;refine hK.out _ _ ?_;clear hK;try simp only [List.setIfInBounds_toArray, List.set_cons_zero, List.set_cons_succ]
 refine WaysT.done (by kernel_rfl) ?_;have HQS : ¬ S q := fun hs => by have h7 := HLO.out q hs; have h8 := HQ.out; omega
 have B3 := (HB.out U K2.out).turn n3.turn HQS;have v0 : w3.cell? ⟨q, 0, none⟩ = some (.int .i64 f) := B3.cell 0;have v1 : w3.cell? ⟨q, 1, none⟩ = some (.int .i64 t) := B3.cell 1;have v2 : w3.cell? ⟨q, 2, none⟩ = some (.int .i64 3) := B3.cell 2;have v3 : w3.cell? ⟨q, 3, none⟩ = some (.slice (some ⟨g, 0, none⟩) 4 c) := B3.cell 3;have v4 : w3.cell? ⟨q, 4, none⟩ = some (.slice D 0 dc) := B3.cell 4;have CA := hide (told_none d3 f t 3 draw g c D 0 dc z0 z1 z2 z3 (N2.out.turn n3.turn HG.out) HZ.out.1 a ta zc HZ.out.2.1 HZ.out.2.2.1 HZ.out.2.2.2 HM.out.1 HM.out.2.1 HM.out.2.2.1 HM.out.2.2.2);unfold msgV at CA;have N3 := hide (((Next.of_below S KA.out).trans (Next.of_below S K2.out)).trans n3);clear B3 HQS d3 n3 hlt hdl;go_wp2_with fail
 refine CA.out.mono ?_;rintro e w5 ⟨v, ga, rfl, oa, na, d5, n5⟩;have D5 := hide d5;have OA := hide oa;have NA := hide na;have N5 := hide (N3.out.trans n5);clear d5 n5 oa na CA;go_wp2_with fail
 go_ret;exact ⟨v, ga, rfl, OA.out, NA.out, S3, D5.out, N5.out⟩
def oneD (p : List Nat) : DiskL := [(termK, (frameL p, (frameL p).length))]
theorem draft_nil {p : List Nat} (hp : p.length <= 1000) (hr : 10000 <= room) : (draftL room termK p []).2 = 0 := by
 refine draft_fit termK_len (by simp [delK]) ?_;have : usedL (delK (tildeL termK) ([] : DiskL)) = 0 := rfl;omega
theorem term_one (t v1 : Nat) (h : t < 18446744073709551616) (h2 : v1 < 18446744073709551616) : TermD (oneD (numsL [t, v1])) t v1 := by
 refine .inr (load_one _ ?_);have := numsL_len [t, v1] (by intro z hz; simp at hz; omega);have : (numsL [t, v1]).length <= 20 := this;omega
def payE (x : Nat × List Nat) : List Nat := uvl x.1 ++ x.2
theorem log_before (n : Nat) : bytesBefore (nameL logK n) termK = true := by
 show bytesBefore (108 :: _) (116 :: _) = true
 simp [bytesBefore]
theorem term_num : numL logK termK = none := rfl
theorem totR_snoc (es : List (List Nat)) (p : List Nat) : totR (es ++ [p]) = totR es + (10 + p.length) := by
 unfold totR;rw [List.map_append, List.sum_append];simp
theorem LogI.short {k : Str} {es : List (List Nat)} {T : List Tl} (h : LogI k es T M L) (ht : totR es <= 20000) : L.length < 255 /\ usedL L <= 20000 := by
 have h1 := big_few T (by rw [<- h.fit.segs]; exact h.big);have h2 := h.bytes;rw [h.fit.disk, used_files];unfold filesL;rw [List.length_map, List.length_map];omega
theorem ahead_files (X : List Fl) : Ahead termK (filesL logK X) := fun p hp => by
 obtain ⟨x, _, rfl⟩ := List.mem_map.1 hp;exact log_before x.1
theorem lay1 {fl : List Nat × Nat} (hf : fl.1.length <= 1000) {es : List (List Nat)} {T : List Tl} (h : LogI logK es T M L) (p : List Nat) (ht : totR (es ++ [p]) <= 20000) :
  ∃ T' M' L', addL 1048576 logK p M (L ++ [(termK, fl)]) = ((M', L' ++ [(termK, fl)]), es.length + 1, 0) /\ LogI logK (es ++ [p]) T' M' L' := by
 obtain ⟨T', M', L', e, h', _⟩ := logI_add h (by decide) p ht;have e1 := totR_snoc es p;obtain ⟨s1, s2⟩ := h.short (by omega);have hn := h.next;have hu : (uvl M.next).length <= 2 := uvl_len 1 _ (by have := totR_len es; omega);have hr := rec_len M.next p;refine ⟨T', M', L', ?_, h'⟩;rw [add_beside log_before (by decide) (by omega) (by have := totR_len es; omega) s1 (by omega), e]
theorem lays {fl : List Nat × Nat} (hf : fl.1.length <= 1000) (es : List (Nat × List Nat)) : ∀ j, j <= es.length -> totR (es.map payE) <= 20000 ->
  ∃ T M L, layS 1048576 (es.take j) (⟨[], 1, []⟩, [(termK, fl)]) = (M, L ++ [(termK, fl)]) /\ LogI logK ((es.map payE).take j) T M L
 | 0, _, _ => ⟨[], ⟨[], 1, []⟩, [], rfl, by simpa using LogI.start logK⟩
 | j + 1, hj, ht => by
  obtain ⟨T, M, L, e, h⟩ := lays hf es j (by omega) ht;have hlt : j < es.length := by omega
  have hl2 : j < (es.map payE).length := by simpa using hlt
  have e1 : es.take (j + 1) = es.take j ++ [es[j]] := by rw [List.take_succ_eq_append_getElem hlt]
  have e2 : (es.map payE).take (j + 1) = (es.map payE).take j ++ [payE es[j]] := by rw [List.take_succ_eq_append_getElem hl2]; simp
  have ht2 : totR ((es.map payE).take j ++ [payE es[j]]) <= 20000 := by
   rw [<- e2];exact Nat.le_trans (totR_take _ _) ht
  obtain ⟨T', M', L', a, h'⟩ := lay1 hf h (payE es[j]) ht2;refine ⟨T', M', L', ?_, by rw [e2]; exact h'⟩;rw [e1, layS_snoc, e]
  show (addL 1048576 logK (payE es[j]) M (L ++ [(termK, fl)])).1 = _
  rw [a]
theorem lays_ok {fl : List Nat × Nat} (hf : fl.1.length <= 1000) (es : List (Nat × List Nat)) (ht : totR (es.map payE) <= 20000) (j : Nat) (hj : j < es.length) :
  (addL 1048576 logK (uvl (es[j]).1 ++ (es[j]).2) (layS 1048576 (es.take j) (⟨[], 1, []⟩, [(termK, fl)])).1 (layS 1048576 (es.take j) (⟨[], 1, []⟩, [(termK, fl)])).2).2.2 = 0 := by
 obtain ⟨T, M, L, e, h⟩ := lays hf es j (by omega) ht;have hl2 : j < (es.map payE).length := by simpa using hj
 have e2 : (es.map payE).take (j + 1) = (es.map payE).take j ++ [payE es[j]] := by rw [List.take_succ_eq_append_getElem hl2]; simp
 obtain ⟨T', M', L', a, _⟩ := lay1 hf h (payE es[j]) (by rw [<- e2]; exact Nat.le_trans (totR_take _ _) ht);rw [e]
 show (addL 1048576 logK (payE es[j]) M (L ++ [(termK, fl)])).2.2 = 0
 rw [a]
def AreE (M : LogL) (es : List (Nat × List Nat)) : Prop := M.next = es.length + 1 /\ ∀ i (hi : i < es.length), getE M ((1 + i : Nat) : Int) = (uvl (es[i]).1 ++ (es[i]).2, 0)
theorem AreE.all {es : List (Nat × List Nat)} (h : AreE M es) (hb : ∀ x ∈ es, x.1 <= 9223372036854775807 /\ ∀ y ∈ x.2, y < 256) : AllE M := fun i h1 h2 => by
 have hi : i - 1 < es.length := by have := h.1; omega
 have e := h.2 (i - 1) hi;rw [show 1 + (i - 1) = i by omega] at e;exact ⟨_, _, e, (hb _ (List.getElem_mem hi)).1, (hb _ (List.getElem_mem hi)).2⟩
theorem lays_kept {b : List Nat} (hf : b.length <= 1000) (es : List (Nat × List Nat)) (ht : totR (es.map payE) <= 20000) (z : Nat) :
  AreE ⟨(layS 1048576 es (⟨[], 1, []⟩, [(termK, (b, b.length))])).1.segs, (layS 1048576 es (⟨[], 1, []⟩, [(termK, (b, b.length))])).1.next, []⟩ es /\
  ∃ D, crashD z (syncsL logK (layS 1048576 es (⟨[], 1, []⟩, [(termK, (b, b.length))])).1.dirty (layS 1048576 es (⟨[], 1, []⟩, [(termK, (b, b.length))])).2) = D ++ [(termK, (b, b.length))] /\ Ahead termK D /\
   firstL (openR logK (D ++ [(termK, (b, b.length))])).log = 1 /\ AreE (openR logK (D ++ [(termK, (b, b.length))])).log es := by
 obtain ⟨T, M, L, e, h⟩ := lays (fl := (b, b.length)) hf es es.length (Nat.le_refl _) ht;rw [List.take_length] at e;have elen : (es.map payE).length = es.length := by simp
 rw [show es.length = (es.map payE).length from elen.symm, List.take_length] at h;rw [e];dsimp only;have hn : M.next = es.length + 1 := by have := h.next; rw [elen] at this; exact this
 have hn9 : M.next <= 100000000 := by have := totR_len (es.map payE); rw [elen] at this; omega
 have hs := logI_sync h hn9;have hpay : ∀ i (hi : i < es.length), (es.map payE).getD i [] = uvl (es[i]).1 ++ (es[i]).2 := fun i hi => by
  simp [List.getD_eq_getElem?_getD, hi, payE]
 constructor
 ·refine ⟨hn, fun i hi => ?_⟩;have hc := h.fit.good.chain;have hfl : flatS (T.map segT) = es.map payE := by
   rw [<- h.flat];unfold flatS flatT;rw [List.flatMap_map]
   rfl
  rw [h.fit.segs, getE_chain _ hc, if_pos (by omega), hfl];have : (((1 + i : Nat) : Int) - ((1 : Nat) : Int)).toNat = i := by omega
  rw [this, hpay i hi]
 ·refine ⟨crashD z (syncsL logK M.dirty L), ?_, ?_, ?_⟩
  ·rw [syncs_beside log_before, crash_beside]
  ·intro p hp;have hk := crashTo_keys z (syncsL logK M.dirty L).length (syncsL logK M.dirty L);rw [crashTo_all] at hk;have h1 : p.1 ∈ (crashD z (syncsL logK M.dirty L)).map (·.1) := List.mem_map.2 ⟨p, hp, rfl⟩;rw [hk] at h1;obtain ⟨q, hq, hqe⟩ := List.mem_map.1 h1;rw [<- hqe];rw [hs.fit.disk] at hq;exact ahead_files _ q hq
  ·have hA : Ahead termK (crashD z (syncsL logK M.dirty L)) := by
    intro p hp;have hk := crashTo_keys z (syncsL logK M.dirty L).length (syncsL logK M.dirty L);rw [crashTo_all] at hk;have h1 : p.1 ∈ (crashD z (syncsL logK M.dirty L)).map (·.1) := List.mem_map.2 ⟨p, hp, rfl⟩;rw [hk] at h1;obtain ⟨q, hq, hqe⟩ := List.mem_map.1 h1;rw [<- hqe];rw [hs.fit.disk] at hq;exact ahead_files _ q hq
   have hfl : (flatT (T.map fullT)).length = es.length := by rw [hs.flat, elen]
   obtain ⟨q, S, d, q1, q2, q3, q4, q5⟩ := kept_fit (c := es.length) z hs.fit hn9 (synced_full T _) (by rw [hfl]; exact Nat.le_refl _);have hq : q = es.length := by omega
   subst hq;rw [open_beside hA term_num];dsimp only;rw [q3];refine ⟨q4, by show 1 + es.length = _; omega, fun i hi => ?_⟩;rw [q5 i hi, hs.flat, hpay i hi]
theorem term_kept {tm : Nat} {D : DiskL} (hA : Ahead termK D) (h : tm < 18446744073709551616) : TermD (D ++ oneD (numsL [tm, 0])) tm 0 := by
 have h1 := term_one tm 0 h (by decide);have e : loadL termK (D ++ oneD (numsL [tm, 0])) = loadL termK (oneD (numsL [tm, 0])) := by
  have er : readL termK (D ++ oneD (numsL [tm, 0])) = readL termK (oneD (numsL [tm, 0])) := by
   unfold readL oneD;rw [own_beside hA];have : getK termK [(termK, (frameL (numsL [tm, 0]), (frameL (numsL [tm, 0])).length))] = some (frameL (numsL [tm, 0]), (frameL (numsL [tm, 0])).length) := own_beside (L := []) (fun p hp => by cases hp);rw [this]
  unfold loadL;rw [er]
 rcases h1 with ⟨a, b, c⟩ | a
 ·exact .inl ⟨e.trans a, b, c⟩
 ·exact .inr (e.trans a)
def noPeers : List Nat := [0, 0, 0, 0, 0, 0, 0, 0, 0, 0]
def ndNew (id n t v1 : Nat) (draw : Int) : Nd := ⟨id, n, t, (v1 : Int) - 1, 0, -1, 0, 0, waitOf draw, 0, noPeers⟩
theorem ropen_new (F4 G4 : Nat -> Prop) (w4 : World) (d l room id n t : Nat) (vz : Int) (M : LogL) (L1 : DiskL) (p : Pro w4 F4 G4 d l room logS ⟨M.segs, M.next, []⟩ (syncsL logK M.dirty L1)) (h1 : id < n) (h2 : n <= 5) :
  NdS (w4.alloc (.cells #[.int .i64 (id : Int), .int .i64 (n : Int), .pointer (some ⟨d, 0, none⟩), .pointer (some ⟨l, 0, none⟩), .int .i64 (t : Int), .int .i64 vz, .int .i64 0, .int .i64 (-1), .int .i64 0, .int .i64 0, .int .i64 0, .int .u64 0, .int .i64 0, .int .i64 0, .int .i64 0, .int .i64 0, .int .i64 0, .int .i64 0, .int .i64 0, .int .i64 0, .int .i64 0, .int .i64 0] 64)) (fun k => (F4 k \/ G4 k) \/ k = w4.heap.size) w4.heap.size d l room ⟨id, n, t, vz, 0, -1, 0, 0, 0, 0, noPeers⟩ ⟨M.segs, M.next, []⟩ (syncsL logK M.dirty L1) := by
 have hlow := p.low;refine ⟨F4, G4, ⟨Blk.new w4 (B := 0) _ _ (Nat.zero_le _), p.below (below_alloc w4 _), fun h => ?_, fun h => ?_, ⟨h1, h2, rfl⟩⟩, fun _ => Iff.rfl⟩
 ·have := hlow.1 _ h; omega
 ·have := hlow.2 _ h; omega
theorem ropen_next {F4 G4 : Nat -> Prop} (K : Below w.heap.size w w3) (t : Turn F w3 w4) (hf : ∀ k, F4 k -> F k \/ w3.heap.size <= k) (hg : ∀ k, G4 k -> w3.heap.size <= k) (kb : Below w4.heap.size w4 w5) : Next F w (fun k => (F4 k \/ G4 k) \/ k = w4.heap.size) w5 := by
 have h1 := K.size;have h2 := t.size;refine ⟨((Turn.of_below F K).trans t).trans (Turn.of_below F kb), ?_⟩;rintro k ((h | h) | h)
 ·exact (hf k h).elim .inl (fun h => .inr (by omega))
 ·exact .inr (Nat.le_trans h1 (hg k h))
 ·exact .inr (by omega)
set_option maxRecDepth 100000 in
set_option maxHeartbeats 3200000 in
theorem ropen_any (F : Nat -> Prop) (d room : Nat) (L : DiskL) (id n t v1 : Nat) (draw : Int) (w : World) (hD : DiskAt w F d room L) (hn : n = 1 \/ n = 3 \/ n = 5) (hid : id < n) (ht : TermD L t v1) (ht9 : t <= 9223372036854775807) (hv : v1 <= n) (h1 : firstL (openR logK L).log = 1) (hA : AllE (openR logK L).log) :
  Calls Tryz.prog 7 #[.int .i64 (id : Int), .int .i64 (n : Int), .pointer (some ⟨d, 0, none⟩), .int .i64 draw] w fun e w' => ∃ r l, e = .returned (.tuple #[.pointer (some ⟨r, 0, none⟩), .int .i64 0]) /\ ∃ S', NdS w' S' r d l room (ndNew id n t v1 draw) ⟨(openR logK L).log.segs, (openR logK L).log.next, []⟩ (syncsL logK (openR logK L).log.dirty (openR logK L).disk) /\ Next F w S' w' := by
 have LD := hide (rload_any F d room L n t v1 w hD ht ht9 hv (by omega));have HD := hide hD;have H1 := hide (And.intro h1 hA);have hn5 : n <= 5 := by omega
 have hidz : ¬ ((id : Int) < 0) := by omega
 have hidn : ¬ ((n : Int) <= (id : Int)) := by omega
 have hnn : ((n : Int) != 1) = false \/ ((n : Int) != 1) = true /\ (((n : Int) != 3) = false \/ ((n : Int) != 3) = true /\ ((n : Int) != 5) = false) := by
  rcases hn with rfl | rfl | rfl <;> simp
 have HID := hide (And.intro hid hn5);have HVW := hide (And.intro hv ht9);obtain ⟨vz, hvz⟩ : ∃ z : Int, z = (v1 : Int) - 1 := ⟨_, rfl⟩;rw [<- hvz] at LD;have HVZ := hide hvz;clear hD ht ht9 hv h1 hA hn hid hvz;have main : ∀ _ : Unit, Calls Tryz.prog 7 #[.int .i64 (id : Int), .int .i64 (n : Int), .pointer (some ⟨d, 0, none⟩), .int .i64 draw] w fun e w' => ∃ r l, e = .returned (.tuple #[.pointer (some ⟨r, 0, none⟩), .int .i64 0]) /\ ∃ S', NdS w' S' r d l room (ndNew id n t v1 draw) ⟨(openR logK L).log.segs, (openR logK L).log.next, []⟩ (syncsL logK (openR logK L).log.dirty (openR logK L).disk) /\ Next F w S' w' := by
  intro _;obtain ⟨M, hM⟩ : ∃ M, M = (openR logK L).log := ⟨_, rfl⟩;obtain ⟨L1, hL1⟩ : ∃ M, M = (openR logK L).disk := ⟨_, rfl⟩;have HML := hide (And.intro hM hL1);rw [<- hM, <- hL1];clear hM hL1;rcases hnn with h1 | ⟨h1, h3 | ⟨h3, h5⟩⟩
  all_goals (
   go_enter Tryz.func7, Tryz.ntmps7;go_wp2_with fail
   refine LD.out.mono ?_;rintro e w1 ⟨rfl, k1⟩;have D1 := hide (HD.out.below k1);have K1 := hide k1;clear k1 LD;go_wp2_with fail
   refine (copy_any F d room L w1 D1.out).mono ?_;rintro e w2 ⟨d2, Fc, rfl, dc, fc, kc⟩;have DC := hide dc;have FC := hide fc;have K2 := hide kc;have D2 := hide (D1.out.below kc);clear dc fc kc;go_wp2_with fail
   refine (rlogOf_any Fc d2 room L w2 DC.out H1.out.1 H1.out.2).mono ?_;rintro e w3 ⟨l3, rfl, F3, G3, _, t3, _, _⟩;have K3 : Hid (Below w1.heap.size w1 w3) := hide (K2.out.trans (t3.below K2.out.size FC.out));have D3 := hide (D1.out.below K3.out);clear t3 DC FC K2 D2;go_wp2_with fail
   refine (rlogOf_any F d room L w3 D3.out H1.out.1 H1.out.2).mono ?_;rintro e w4 ⟨l, rfl, F4, G4, p4, t4, hf4, hg4⟩;rw [<- HML.out.1, <- HML.out.2] at p4;have P4 := hide p4;have T4 := hide t4;have HF4 := hide hf4;have HG4 := hide hg4;clear p4 t4 hf4 hg4;go_wp2_with fail
   have kb := below_alloc w4 (.cells #[.int .i64 (id : Int), .int .i64 (n : Int), .pointer (some ⟨d, 0, none⟩), .pointer (some ⟨l, 0, none⟩), .int .i64 (t : Int), .int .i64 vz, .int .i64 0, .int .i64 (-1), .int .i64 0, .int .i64 0, .int .i64 0, .int .u64 0, .int .i64 0, .int .i64 0, .int .i64 0, .int .i64 0, .int .i64 0, .int .i64 0, .int .i64 0, .int .i64 0, .int .i64 0, .int .i64 0] 64);have br := Blk.new w4 (B := 0) 64 #[.int .i64 (id : Int), .int .i64 (n : Int), .pointer (some ⟨d, 0, none⟩), .pointer (some ⟨l, 0, none⟩), .int .i64 (t : Int), .int .i64 vz, .int .i64 0, .int .i64 (-1), .int .i64 0, .int .i64 0, .int .i64 0, .int .u64 0, .int .i64 0, .int .i64 0, .int .i64 0, .int .i64 0, .int .i64 0, .int .i64 0, .int .i64 0, .int .i64 0, .int .i64 0, .int .i64 0] (Nat.zero_le _);have hlow := P4.out.low;have NN := ropen_new F4 G4 w4 d l room id n t vz M L1 P4.out HID.out.1 HID.out.2;have nx : Next F w (fun k => (F4 k \/ G4 k) \/ k = w4.heap.size) _ := ropen_next (F4 := F4) (G4 := G4) (K1.out.trans (K3.out.mono K1.out.size)) T4.out HF4.out HG4.out kb;have NX := hide nx;have HN := hide NN;clear kb br hlow NN nx;refine (wait_anew HN.out draw).mono ?_;rintro e w5 ⟨rfl, d5, n5⟩;have D5 := hide d5;have N5 := hide (NX.out.trans n5);clear d5 n5;go_wp2_with fail
   go_ret2;refine ⟨w4.heap.size, l, rfl, _, ?_, N5.out⟩;unfold ndNew;rw [<- HVZ.out];exact D5.out)
 exact main ()
def kM0 : LogL := ⟨[], 1, []⟩
def kL1 : DiskL := termP [1, 1] []
def kA : (LogL × DiskL) × Nat × Nat := addL 10000 logK [1] kM0 kL1
theorem k_uvl : uvl 1 = [1] := uvl_low (by decide)
theorem k_nums : numsL [1, 1] = [1, 1] := by simp [numsL, k_uvl]
theorem k_draft : (draftL 10000 termK [1, 1] []).2 = 0 := by decide +kernel
theorem k_add : kA.2.2 = 0 /\ kA.1.1.next = 2 /\ getE ⟨kA.1.1.segs, kA.1.1.next, []⟩ 1 = ([1], 0) := by decide +kernel
theorem k_open : (openR logK []).log = kM0 /\ (openR logK []).disk = [] := ⟨rfl, rfl⟩
theorem k_term : TermD [] 0 0 := .inl ⟨loadL_none rfl, rfl, rfl⟩
theorem k_all : AllE kM0 := fun i h1 h2 => by
 have h3 : i < 1 := h2;omega
theorem k_has : HasE (addE 10000 1 kM0 kL1).1 1 1 [] := by
 refine ⟨?_, by decide, fun x hx => by cases hx⟩;unfold addE;rw [k_uvl];exact k_add.2.2
end Go.Proofs.YtedlibkkeegnaaaGreat
