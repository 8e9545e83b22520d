/- The contracts of a node's stand in a group of one, its ticks, its Take. Condition: the log and the disk take what is laid. The contract of a node's Take: the en -/
import Derived.Test.YtedlibkkeegnaaaGreatRp34
import Derived.Test.YtedlibkkeegnaaaGreatRp6
namespace Go.Proofs.YtedlibkkeegnaaaGreat
open Go.RowKit Go.Maps
variable {w w' w1 w2 : World} {L : DiskL} {M : LogL} {B room l d m g : Nat}
set_option maxRecDepth 100000 in
set_option maxHeartbeats 3200000 in
theorem stand_one {S : Nat -> Prop} {r : Nat} {N : Nd} (h : NdS w S r d l room N M L) (draw : Int) (hid : N.id = 0) (hn : N.n = 1) (hc : N.comm = 0) (hp : N.peers = pairsL 1 0) (hM1 : M.next = 1) (ht9 : N.term + 1 < 9223372036854775807) (hd : (draftL room termK (numsL [N.term + 1, 1]) L).2 = 0)
  (hok : (addL room logK (uvl (N.term + 1)) M (termP (numsL [N.term + 1, 1]) L)).2.2 = 0) (hM : (addE room (N.term + 1) M (termP (numsL [N.term + 1, 1]) L)).1.next = 2) (ht : TermE (addE room (N.term + 1) M (termP (numsL [N.term + 1, 1]) L)).1 1 (N.term + 1)) :
  Calls Tryz.prog 34 #[.pointer (some ⟨r, 0, none⟩), .int .i64 draw] w fun e w' => e = .returned (.slice none 0 0) /\ ∃ S' vt, NdS w' S' r d l room { N with role := 2, lead := 0, wait := 3, peers := pairsL 1 5, comm := 1, term := N.term + 1, vote := 0, votes := vt } (addE room (N.term + 1) M (termP (numsL [N.term + 1, 1]) L)).1 (addE room (N.term + 1) M (termP (numsL [N.term + 1, 1]) L)).2 /\ Next S w S' w' := by
 have HW := hide (wait_anew h draw);have HP := hide (And.intro hid (And.intro hn (And.intro hc hp)));obtain ⟨t1, ht1⟩ : ∃ t, t = N.term + 1 := ⟨_, rfl⟩;rw [<- ht1] at ht9 hd hok hM ht ⊢;have HT := hide (And.intro hd (And.intro hok (And.intro hM ht)));have HM1 := hide hM1;have HT1 := hide ht1;obtain ⟨t0, ht0⟩ : ∃ t, t = N.term := ⟨_, rfl⟩;have ht2 : (t0 : Int) + 1 = (t1 : Int) := by omega
 have htm : ((t0 : Int) == 9223372036854775807) = false := by simp; omega
 have htw : IntKind.i64.wrap ((t0 : Int) + 1) = (t1 : Int) := by rw [ht2, IntKind.wrap_i64]; omega
 have HT0 := hide ht0;clear h hid hn hc hp hM1 ht1 hd hok hM ht ht2 ht0;go_enter Tryz.func34, Tryz.ntmps34;go_wp2_with fail
 refine HW.out.mono ?_;rintro e w1 ⟨rfl, d1, n1⟩;have D1 := hide d1;have N1 := hide n1;have q4 : w1.cell? ⟨r, 4, none⟩ = some (.int .i64 (N.term : Int)) := nds_cell d1 4;have q0 : w1.cell? ⟨r, 0, none⟩ = some (.int .i64 (N.id : Int)) := nds_cell d1 0;rw [<- HT0.out] at q4;rw [HP.out.1] at q0;clear d1 n1 HW;go_wp2_with fail
 refine WaysT.start (fun W' : World => W'.cell? ⟨r, 4, none⟩ = some (.int .i64 (t0 : Int)) /\ W'.cell? ⟨r, 0, none⟩ = some (.int .i64 ((0 : Nat) : Int))) 16 19 #[false, false, false, false, false, false, false, false, false, false, false, false, false, false, false, false, false, false, false] (by kernel_rfl) (by kernel_rfl) (by kernel_rfl) ?_;have hHeld : (fun W' : World => W'.cell? ⟨r, 4, none⟩ = some (.int .i64 (t0 : Int)) /\ W'.cell? ⟨r, 0, none⟩ = some (.int .i64 ((0 : Nat) : Int))) (w1.drewN 1) := ⟨q4, q0⟩;have D1 := hide (D1.out.below (below_drewN (Below.refl _ _) 1));have N1 := hide (N1.out.trans (Next.of_below S (below_drewN (Below.refl w1.heap.size w1) 1)));clear q4 q0;change WaysT _ _ _ _ _ _ _ _ _ (w1.drewN 1);generalize w1.drewN 1 = U at *;refine' tkT 0 (v := _) rfl hHeld rfl ?_ ?_;rotate_left
 ·(intro W' hW; (try dsimp only at hW); obtain ⟨z2, z3⟩ := hW; go_simp; (try with_reducible rfl))
 try simp only [Act.put, List.setIfInBounds_toArray, List.set_cons_zero, List.set_cons_succ]
 refine' tkT 1 (v := _) rfl hHeld rfl ?_ ?_;rotate_left
 ·(intro W' hW; (try dsimp only at hW); obtain ⟨z2, z3⟩ := hW; go_simp; (try with_reducible rfl))
 try simp only [Act.put, List.setIfInBounds_toArray, List.set_cons_zero, List.set_cons_succ]
 refine' tkT 2 (v := _) rfl hHeld rfl ?_ ?_;rotate_left
 ·(intro W' hW; (try dsimp only at hW); obtain ⟨z2, z3⟩ := hW; go_simp; (try with_reducible rfl))
 try simp only [Act.put, List.setIfInBounds_toArray, List.set_cons_zero, List.set_cons_succ]
 refine' tkT 3 (v := _) rfl hHeld rfl ?_ ?_;rotate_left
 ·(intro W' hW; (try dsimp only at hW); obtain ⟨z2, z3⟩ := hW; go_simp; (try with_reducible rfl))
 try simp only [Act.put, List.setIfInBounds_toArray, List.set_cons_zero, List.set_cons_succ]
 refine' tkT 4 (v := _) rfl hHeld rfl ?_ ?_;rotate_left
 ·(intro W' hW; (try dsimp only at hW); obtain ⟨z2, z3⟩ := hW; go_simp; (try with_reducible rfl))
 try simp only [Act.put, List.setIfInBounds_toArray, List.set_cons_zero, List.set_cons_succ]
 refine' tkT 5 (v := _) rfl hHeld rfl ?_ ?_;rotate_left
 ·(intro W' hW; (try dsimp only at hW); obtain ⟨z2, z3⟩ := hW; go_simp; (try with_reducible rfl))
 try simp only [Act.put, List.setIfInBounds_toArray, List.set_cons_zero, List.set_cons_succ]
 refine' tkT 6 (v := _) rfl hHeld rfl ?_ ?_;rotate_left
 ·(intro W' hW; (try dsimp only at hW); obtain ⟨z2, z3⟩ := hW; go_simp; (try with_reducible rfl))
 try simp only [Act.put, List.setIfInBounds_toArray, List.set_cons_zero, List.set_cons_succ]
 refine' tkT 7 (v := _) rfl hHeld rfl ?_ ?_;rotate_left
 ·(intro W' hW; (try dsimp only at hW); obtain ⟨z2, z3⟩ := hW; go_simp; (try with_reducible rfl))
 try simp only [Act.put, List.setIfInBounds_toArray, List.set_cons_zero, List.set_cons_succ]
 refine' tkT 8 (v := _) rfl hHeld rfl ?_ ?_;rotate_left
 ·(intro W' hW; (try dsimp only at hW); obtain ⟨z2, z3⟩ := hW; go_simp; (try with_reducible rfl))
 try simp only [Act.put, List.setIfInBounds_toArray, List.set_cons_zero, List.set_cons_succ]
 refine' tkT 9 (v := _) rfl hHeld rfl ?_ ?_;rotate_left
 ·(intro W' hW; (try dsimp only at hW); obtain ⟨z2, z3⟩ := hW; go_simp; (try with_reducible rfl))
 try simp only [Act.put, List.setIfInBounds_toArray, List.set_cons_zero, List.set_cons_succ]
 refine' tkT 10 (v := _) rfl hHeld rfl ?_ ?_;rotate_left
 ·(intro W' hW; (try dsimp only at hW); obtain ⟨z2, z3⟩ := hW; go_simp; (try with_reducible rfl))
 try simp only [Act.put, List.setIfInBounds_toArray, List.set_cons_zero, List.set_cons_succ]
 refine' tkT 11 (v := _) rfl hHeld rfl ?_ ?_;rotate_left
 ·(intro W' hW; (try dsimp only at hW); obtain ⟨z2, z3⟩ := hW; go_simp; (try with_reducible rfl))
 try simp only [Act.put, List.setIfInBounds_toArray, List.set_cons_zero, List.set_cons_succ]
 refine' tkT 12 (v := _) rfl hHeld rfl ?_ ?_;rotate_left
 ·(intro W' hW; (try dsimp only at hW); obtain ⟨z2, z3⟩ := hW; go_simp; (try with_reducible rfl))
 try simp only [Act.put, List.setIfInBounds_toArray, List.set_cons_zero, List.set_cons_succ]
 refine' tkT 13 (v := _) rfl hHeld rfl ?_ ?_;rotate_left
 ·(intro W' hW; (try dsimp only at hW); obtain ⟨z2, z3⟩ := hW; go_simp; (try with_reducible rfl))
 try simp only [Act.put, List.setIfInBounds_toArray, List.set_cons_zero, List.set_cons_succ]
 refine' tkT 14 (v := _) rfl hHeld rfl ?_ ?_;rotate_left
 ·(intro W' hW; (try dsimp only at hW); obtain ⟨z2, z3⟩ := hW; go_simp; (try with_reducible rfl))
 try simp only [Act.put, List.setIfInBounds_toArray, List.set_cons_zero, List.set_cons_succ]
 refine' tkT 15 (v := _) rfl hHeld rfl ?_ ?_;rotate_left
 ·(intro W' hW; (try dsimp only at hW); obtain ⟨z2, z3⟩ := hW; go_simp; (try with_reducible rfl))
 try simp only [Act.put, List.setIfInBounds_toArray, List.set_cons_zero, List.set_cons_succ]
 clear hHeld;refine WaysT.turn (by kernel_rfl) rfl (fun K' hK => ?_);go_simp;go_at_call 47;refine (rsave_ok D1.out t1 1 0 rfl (by omega) (by decide) HT.out.1).mono ?_;rintro e w2 ⟨rfl, S2, d2, n2⟩;refine hK.out _ _ ?_;clear hK;try simp only [List.setIfInBounds_toArray, List.set_cons_zero, List.set_cons_succ]
 have D2 := hide d2;have N2 := hide (N1.out.trans n2);clear d2 n2;refine WaysT.then (i := 17) rfl (by kernel_rfl) rfl (fun K' hK => ?_)
 go_simp;refine hK.out _ _ ?_;clear hK;try simp only [List.setIfInBounds_toArray, List.set_cons_zero, List.set_cons_succ]
 refine WaysT.then (i := 18) rfl (by kernel_rfl) rfl (fun K' hK => ?_)
 go_simp;refine hK.out _ _ ?_;clear hK;try simp only [List.setIfInBounds_toArray, List.set_cons_zero, List.set_cons_succ]
 refine WaysT.done (by kernel_rfl) ?_;have x0 : w2.cell? ⟨r, 0, none⟩ = some (.int .i64 (N.id : Int)) := nds_cell D2.out 0;have x6 : w2.cell? ⟨r, 6, none⟩ = some (.int .i64 (N.role : Int)) := nds_cell D2.out 6;have x7 : w2.cell? ⟨r, 7, none⟩ = some (.int .i64 N.lead) := nds_cell D2.out 7;have x11 : w2.cell? ⟨r, 11, none⟩ = some (.int .u64 (N.votes : Int)) := nds_cell D2.out 11;have f6 := D2.out.blk.frozen 6;have f7 := D2.out.blk.frozen 7;have f11 := D2.out.blk.frozen 11;rw [HP.out.1] at x0;go_wp2_with fail
 go_region
 have S1 := D2.out.set (N' := { N with wait := waitOf draw, term := t1, vote := 0, role := 1 }) 6 (.int .i64 1) rfl D2.out.fit;have S2' := S1.set (N' := { N with wait := waitOf draw, term := t1, vote := 0, role := 1, lead := -1 }) 7 (.int .i64 (-1)) rfl D2.out.fit;have S3 := S2'.set (N' := { N with wait := waitOf draw, term := t1, vote := 0, role := 1, lead := -1, votes := 1 }) 11 (.int .u64 1) rfl D2.out.fit;have n3 : Next S2 w2 S2 _ := (set_next (u := .int .i64 1) (i := 6) D2.out.self).trans ((set_next (u := .int .i64 (-1)) (i := 7) S1.self).trans (set_next (u := .int .u64 1) (i := 11) S2'.self));obtain ⟨W4, hW4⟩ : ∃ W, W = (((w2.setCell ⟨r, 6, none⟩ (.int .i64 1)).setCell ⟨r, 7, none⟩ (.int .i64 (-1))).setCell ⟨r, 11, none⟩ (.int .u64 1)).drew := ⟨_, rfl⟩;have D4 : NdS W4 S2 r d l room { N with wait := waitOf draw, term := t1, vote := 0, role := 1, lead := -1, votes := 1 } M (termP (numsL [t1, 1]) L) := by rw [hW4]; exact S3.below (below_drew _)
 have N4 : Next S w S2 W4 := by rw [hW4]; exact N2.out.trans (n3.trans (Next.of_below S2 (below_drew _)))
 rw [<- hW4];have D4 := hide D4;have N4 := hide N4;clear S1 S2' S3 n3 hW4 x0 x6 x7 x11 f6 f7 f11 D2 N2;have q11 : W4.cell? ⟨r, 11, none⟩ = some (.int .u64 1) := nds_cell D4.out 11;go_wp2_with fail
 refine (most_any D4.out 1 (by decide)).mono ?_;rintro e w5 ⟨rfl, rfl⟩;rw [show decide (N.n < 2 * ones5 1) = true by rw [HP.out.2.1]; rfl];clear q11;go_wp2_with fail
 refine (lead_one D4.out HP.out.1 HP.out.2.1 HP.out.2.2.1 HP.out.2.2.2 HM1.out (by show t1 < _; omega) HT.out.2.1 HT.out.2.2.1 HT.out.2.2.2).mono ?_;rintro e w6 ⟨rfl, S6, d6, n6⟩;have D6 := hide d6;have N6 := hide (N4.out.trans n6);clear d6 n6;go_wp2_with fail
 go_ret;exact ⟨rfl, S6, 1, D6.out, N6.out⟩
set_option maxRecDepth 100000 in
theorem tick_wait {S : Nat -> Prop} {r : Nat} {N : Nd} (h : NdS w S r d l room N M L) (draw : Int) (k : Nat) (hk : N.wait = (k : Int)) (h2 : 2 <= k) (h9 : k <= 1000) :
  Calls Tryz.prog 14 #[.pointer (some ⟨r, 0, none⟩), .int .i64 draw] w fun e w' => e = .returned (.slice none 0 0) /\ NdS w' S r d l room { N with wait := ((k - 1 : Nat) : Int) } M L /\ Next S w S w' := by
 have q10 : w.cell? ⟨r, 10, none⟩ = some (.int .i64 N.wait) := nds_cell h 10;have f10 := h.blk.frozen 10;rw [hk] at q10;have HS := hide (stopped_no h);obtain ⟨m, hm⟩ : ∃ m, m = k - 1 := ⟨_, rfl⟩;rw [<- hm];have hmk : (k : Int) - 1 = (m : Int) := by omega
 have hm0 : (0 : Int) < (m : Int) := by omega
 have S1 := hide (h.set (N' := { N with wait := (m : Int) }) 10 (.int .i64 (m : Int)) rfl h.fit);have N1 := hide (set_next (w := w) (u := .int .i64 (m : Int)) (i := 10) h.self);clear h hk hm;go_enter Tryz.func14, Tryz.ntmps14;go_wp2_with fail
 refine HS.out.mono ?_;rintro e w1 ⟨rfl, rfl⟩;go_wp2_with fail
 go_ret;exact ⟨rfl, S1.out, N1.out⟩
set_option maxRecDepth 100000 in
theorem tick_stand {S : Nat -> Prop} {r : Nat} {N : Nd} (h : NdS w S r d l room N M L) (draw : Int) (hk : N.wait = 1) (hr : N.role = 0 \/ N.role = 1) {Q : Ending -> World -> Prop}
  (hC : ∀ w1, NdS w1 S r d l room { N with wait := 0 } M L -> Next S w S w1 -> Calls Tryz.prog 34 #[.pointer (some ⟨r, 0, none⟩), .int .i64 draw] w1 fun e w' => ∃ A n c, e = .returned (.slice A n c) /\ Q e w') :
  Calls Tryz.prog 14 #[.pointer (some ⟨r, 0, none⟩), .int .i64 draw] w Q := by
 have q10 : w.cell? ⟨r, 10, none⟩ = some (.int .i64 N.wait) := nds_cell h 10;have q6 : w.cell? ⟨r, 6, none⟩ = some (.int .i64 (N.role : Int)) := nds_cell h 6;have f10 := h.blk.frozen 10;rw [hk] at q10;have HS := hide (stopped_no h);obtain ⟨ro, hro⟩ : ∃ k, k = N.role := ⟨_, rfl⟩;rw [<- hro] at hr q6;have hr2 : ((ro : Int) == 2) = false := by simp; omega
 have C1 := hide (hC _ (h.set (N' := { N with wait := 0 }) 10 (.int .i64 0) rfl h.fit) (set_next (u := .int .i64 0) (i := 10) h.self));clear h hk hro hC hr;go_enter Tryz.func14, Tryz.ntmps14;go_wp2_with fail
 refine HS.out.mono ?_;rintro e w1 ⟨rfl, rfl⟩;go_wp2_with fail
 refine C1.out.mono ?_;rintro e w2 ⟨A, n, c, rfl, hQ⟩;have HQ := hide hQ;clear hQ;go_wp2_with fail
 exact HQ.out
theorem turn_of_below (h : Below B w w') : Turn (fun k => B <= k) w w' := ⟨h.os, h.tape, h.output, h.size, fun k _ hk => h.block k (by omega)⟩
theorem NdS.turn {T S : Nat -> Prop} {r : Nat} {N : Nd} (h : NdS w S r d l room N M L) (t : Turn T w w') (hT : ∀ k, S k -> ¬ T k) : NdS w' S r d l room N M L := by
 obtain ⟨F, G, h, hs⟩ := h;exact ⟨F, G, ⟨h.blk.turn t (hT r ((hs r).2 (.inr rfl))), h.pro.turn t (fun k hk => hT k ((hs k).2 (.inl (.inl hk)))) (fun k hk => hT k ((hs k).2 (.inl (.inr hk)))), h.nf, h.ng, h.fit⟩, hs⟩
theorem Next.wide {S : Nat -> Prop} (h : Next S w S w1) (k : Below w.heap.size w1 w2) : Next S w S w2 := ⟨h.turn.then (turn_of_below k) (fun _ e => .inr e), fun _ => .inl⟩
theorem take_meas (t0 j m : Nat) (h : j < m) : m - (t0 + j + 1 - t0) < m - (t0 + j - t0) := by omega
def entC : List (Nat × Value) -> List Value
 | [] => []
 | x :: r => .int .i64 (x.1 : Int) :: x.2 :: entC r
theorem entC_length : ∀ X : List (Nat × Value), (entC X).length = X.length * 2
 | [] => rfl
 | q :: r => by simp only [entC, List.length_cons, entC_length r]; omega
theorem entC_append : ∀ X Y : List (Nat × Value), entC (X ++ Y) = entC X ++ entC Y
 | [], _ => rfl
 | q :: r, Y => by simp [entC, entC_append r Y]
theorem entC_at : ∀ (X : List (Nat × Value)) (i : Nat) (h : i < X.length), (entC X)[i * 2]? = some (.int .i64 (X[i].1 : Int)) /\ (entC X)[i * 2 + 1]? = some X[i].2
 | q :: r, 0, _ => by simp [entC]
 | q :: r, i + 1, h => by
  have h' : i < r.length := by simpa using h
  obtain ⟨h0, h1⟩ := entC_at r i h';have e : (i + 1) * 2 + 1 = i * 2 + 1 + 1 + 1 := by omega
  have e0 : (i + 1) * 2 = i * 2 + 1 + 1 := by omega
  rw [e, e0];simp only [entC, List.getElem?_cons_succ, List.getElem_cons_succ];exact ⟨h0, h1⟩
structure EntI (w : World) (B : Nat) (x : Nat × Value) (e : Nat × List Nat) : Prop where
 term : x.1 = e.1
 data : ∃ A n c, x.2 = .slice A n c /\ IsB w (.slice A n c) e.2 /\ e.2.length = n /\ U8At w A /\ ∀ b, A = some b -> B <= b.block
theorem EntI.off {S : Nat -> Prop} {x : Nat × Value} {e : Nat × List Nat} (h : EntI w B x e) (t : Turn S w w') (hS : ∀ k cur fr, w.heap[k]? = some (.cells cur 5 fr) -> B <= k -> ¬ S k) : EntI w' B x e := by
 obtain ⟨h1, A, n, c, e1, e2, e3, e4, e5⟩ := h;have ho : ∀ b, A = some b -> ¬ S b.block := fun b hb => by
  obtain ⟨cur, fr, hh⟩ := e4 b hb;exact hS _ _ _ hh (e5 b hb)
 refine ⟨h1, A, n, c, e1, e2.turn t (fun g hg => ?_), e3, e4.off t ho, e5⟩;rcases A with _ | b
 ·cases hg
 ·have e9 : b.block = g := by simpa [Value.ownBlock] using hg
  rw [<- e9];exact ho b rfl
structure EntR (w : World) (B : Nat) (v : Value) (es : List (Nat × List Nat)) : Prop where
 out : ∃ X : List (Nat × Value), w.ownsRow B 46 2 v X.length (entC X) /\ X.length = es.length /\ ∀ i (h : i < X.length) (h2 : i < es.length), EntI w B X[i] es[i]
theorem EntR.nil (w : World) (B : Nat) : EntR w B (.slice none 0 0) [] := ⟨[], World.ownsRow_nil _ _ _ _, rfl, fun i h => by simp at h⟩
theorem EntR.turn {S : Nat -> Prop} {v : Value} {es : List (Nat × List Nat)} (h : EntR w B v es) (t : Turn S w w') (hS : ∀ k, S k -> k < B) : EntR w' B v es := by
 obtain ⟨X, h1, h2, h3⟩ := h;refine ⟨X, ownsRow_turn h1 t (fun g hg hs => ?_), h2, fun i hi hi2 => (h3 i hi hi2).off t (fun k _ _ _ hB hs => ?_)⟩
 ·have := (World.ownsRow.lt h1 g hg).1;have := hS g hs;omega
 ·have := hS k hs;omega
theorem EntR.keep {v : Value} {es : List (Nat × List Nat)} (h : EntR w B v es) (k : Below w.heap.size w w') : EntR w' B v es := h.turn (S := fun _ => False) (Turn.of_below _ k) (fun _ e => e.elim)
theorem EntR.form {v : Value} {es : List (Nat × List Nat)} (h : EntR w B v es) : (es = [] /\ ∃ A c, v = .slice A 0 c) \/ ∃ g c, v = .slice (some ⟨g, 0, none⟩) es.length c /\ B <= g /\ g < w.heap.size /\ ∀ i (hi : i < es.length), ∃ A n cc, w.cell? ⟨g, i * 2, none⟩ = some (.int .i64 ((es[i]).1 : Int)) /\ w.cell? ⟨g, i * 2 + 1, none⟩ = some (.slice A n cc) /\ IsB w (.slice A n cc) (es[i]).2 /\ (es[i]).2.length = n := by
 obtain ⟨X, hr, hl, he⟩ := h;rcases hr.2 with ⟨rfl, hn⟩ | ⟨g, cap, cur, rfl, hb, hg, h1, h2, _⟩
 ·exact .inl ⟨List.eq_nil_of_length_eq_zero (by omega), none, 0, rfl⟩
 ·refine .inr ⟨g, cap, by rw [hl], hb, heap_lt hg, fun i hi => ?_⟩;obtain ⟨q0, q1⟩ := entC_at X i (by omega);obtain ⟨e1, A, n, c, e2, e3, e4, _, _⟩ := he i (by omega) hi;have hL := entC_length X;refine ⟨A, n, c, ?_, ?_, e3, e4⟩
  ·rw [World.ownsRow.cellAt hr _ (by omega), q0, e1]
  ·rw [World.ownsRow.cellAt hr _ (by omega), q1, e2]
theorem Tryz.info_entE : (Tryz.prog.info? 46).map (fun i => (i.zero, i.size, i.bytes)) = some (some (.agg #[.int .i64 0, .slice none 0 0]), 2, 32) := by kernel_rfl
set_option maxRecDepth 100000 in
theorem wpList_append_ent {ops : Array Oper} {rest : List Oper} {o : Oper} {a : Act} {Q : Exit -> Act -> World -> Prop} (hgd : o.guard = none) (s x : Operand)
  (ho : o.op = .call { callee := .builtin .append, args := #[s, x], argTypes := #[39, 39] })
  (B : Nat) (v : Value) (es : List (Nat × List Nat)) (hs : a.eval s = v) (hown : EntR w B v es)
  (b t n c : Nat) (A : Option Addr) (dat : List Nat) (hx : a.eval x = .slice (some ⟨b, 0, none⟩) 1 1) (c0 : w.cell? ⟨b, 0, none⟩ = some (.int .i64 (t : Int))) (c1 : w.cell? ⟨b, 1, none⟩ = some (.slice A n c))
  (hI : EntI w B (t, .slice A n c) (t, dat)) (hlen : es.length <= 1000000) (hbase : B <= w.heap.size)
  (h : ∀ v' w', EntR w' B v' (es ++ [(t, dat)]) -> Below B w w' -> wpList Tryz.prog ops Q rest (a.put o.dst v') w') : wpList Tryz.prog ops Q (o :: rest) a w := by
 obtain ⟨i0, hi, hz0, hz1, hz2⟩ := info_parts Tryz.info_entE;obtain ⟨X, hr, hl, he⟩ := hown;refine wpList_append_own w hgd s x _ ho B 46 i0 (.agg #[.int .i64 0, .slice none 0 0]) 2 32 Tryz.underlying39 hi hz0 hz1 hz2 rfl (by decide) v _ _ hs hr ⟨b, 0, none⟩ 1 1 [.int .i64 (t : Int), .slice A n c] hx rfl ?_ ?_ (by unfold maxLen; omega) (by omega) hbase ?_
 ·intro j u hu;rw [add_off];rcases j with _ | _ | j
  ·simp at hu; subst hu; exact c0
  ·simp at hu; subst hu; exact c1
  ·simp at hu
 ·intro u hu;simp at hu;rcases hu with rfl | rfl
  ·rfl
  ·rfl
 ·intro v' w' hr' hg _;have hb : Below B w w' := (Below.refl _ _).grown hg hbase fun k hk => (World.ownsRow.lt hr k hk).1
  have tg : Turn (fun k => some k = v.ownBlock) w w' := Turn.of_grown hg;have hoff : ∀ k cur fr, w.heap[k]? = some (.cells cur 5 fr) -> B <= k -> ¬ some k = v.ownBlock := by
   intro k cur fr hh _ e;rcases hr.2 with ⟨e2, _⟩ | ⟨g, cap, cur2, e2, _, hh2, _⟩
   ·rw [e2] at e; cases e
   ·rw [e2] at e;have e3 : k = g := by simpa [Value.ownBlock] using e
    rw [e3, hh2] at hh;simp only [Option.some.injEq, Obj.cells.injEq] at hh;exact absurd hh.2.1 (by decide)
  refine h v' w' ⟨X ++ [(t, .slice A n c)], ?_, by simp [hl], fun i hi2 hi3 => ?_⟩ hb
  ·rw [entC_append, List.length_append];exact hr'
  ·by_cases hlt : i < X.length
   ·rw [List.getElem_append_left hlt, List.getElem_append_left (by omega)];exact (he i hlt (by omega)).off tg hoff
   ·have hi4 : i = X.length := by simp at hi2; omega
    subst hi4;rw [List.getElem_append_right (Nat.le_refl _), List.getElem_append_right (by omega)];simp only [Nat.sub_self, List.getElem_cons_zero, hl];exact hI.off tg hoff
set_option maxRecDepth 100000 in
set_option maxHeartbeats 3200000 in
theorem rtake_any {S : Nat -> Prop} {r : Nat} {N : Nd} (h : NdS w S r d l room N M L) (es : List (Nat × List Nat)) (m t0 : Nat) (hm : es.length = m) (ht0 : N.taken = t0) (hc : N.comm = t0 + m) (h9 : t0 + m <= 1099511627776) (hm9 : m <= 1000) (hes : ∀ i (hi : i < es.length), HasE M ((t0 + 1 + i : Nat) : Int) (es[i]).1 (es[i]).2) :
  Calls Tryz.prog 10 #[.pointer (some ⟨r, 0, none⟩)] w fun e w' => ∃ v, e = .returned v /\ EntR w' w.heap.size v es /\ NdS w' S r d l room { N with taken := t0 + m } M L /\ Next S w S w' := by
 have HS := hide (stopped_no h);have H := hide h;have HM := hide hm;have HC := hide hc;have HE := hide hes;have HT0 := hide ht0;have hrl := h.self;have HLO := hide (h.low r h.self);have HLW := hide h.low;clear h hm hc hes ht0 hrl;go_enter Tryz.func10, Tryz.ntmps10;go_wp2_with fail
 refine HS.out.mono ?_;rintro e w1 ⟨rfl, rfl⟩;go_wp2_with fail
 go_loopw [3] (fun v wr => ∃ j : Nat, j <= m /\ Hid (EntR wr w.heap.size v (es.take j)) /\ Hid (NdS wr S r d l room { N with taken := t0 + j } M L) /\ Hid (Next S w S wr)) (fun _ wr => m - ((match wr.cell? ⟨r, 9, none⟩ with | some (.int _ z) => z.toNat | _ => 0) - t0))
 case atStart => exact ⟨0, Nat.zero_le _, EntR.nil _ _, hide (by have := H.out; rw [<- HT0.out]; exact this), hide (Next.refl _ _)⟩
 case round =>
  obtain ⟨j, hj, HR, HN, HX⟩ := hrel;have q9 : wr.cell? ⟨r, 9, none⟩ = some (.int .i64 ((t0 + j : Nat) : Int)) := nds_cell HN.out 9;have q8 : wr.cell? ⟨r, 8, none⟩ = some (.int .i64 ((N.comm : Nat) : Int)) := nds_cell HN.out 8;rw [HC.out] at q8;have f9 := HN.out.blk.frozen 9;obtain ⟨a, ha⟩ : ∃ a, a = t0 + j := ⟨_, rfl⟩;obtain ⟨b, hb⟩ : ∃ b, b = t0 + m := ⟨_, rfl⟩;rw [<- ha] at q9;rw [<- hb] at q8;have hab9 : a <= 1099511627776 := by omega
  have hbb9 : b <= 1099511627776 := by omega
  by_cases hlt : j < m
  ·have hab : (a : Int) < (b : Int) := by omega
   obtain ⟨a1, ha1⟩ : ∃ k, k = a + 1 := ⟨_, rfl⟩;have hav : (a : Int) + 1 = (a1 : Int) := by omega
   have HAB := hide (And.intro ha (And.intro hb ha1));have hjx : j < es.length := by rw [HM.out]; exact hlt
   obtain ⟨⟨t, dat⟩, hx⟩ : ∃ x, x = es[j] := ⟨_, rfl⟩;have hE := HE.out j hjx;rw [<- hx] at hE;dsimp only at hE;have HE1 : Hid (HasE M (a1 : Int) t dat) := hide (by rw [show a1 = t0 + 1 + j by omega]; exact hE);have HTK : Hid (es.take (j + 1) = es.take j ++ [(t, dat)]) := hide (by rw [hx, List.take_append_getElem hjx]);have HTL : Hid ((es.take j).length <= 1000000) := hide (by rw [List.length_take]; omega);have S5 := (HN.out.set (N' := { N with taken := a1 }) 9 (.int .i64 (a1 : Int)) rfl HN.out.fit).below (below_drew _);have n5 := (set_next (w := wr) (u := .int .i64 (a1 : Int)) (i := 9) HN.out.self).trans (Next.of_below S (below_drew _));have R5 := (HR.out.turn (box_turn0 wr r 9 (.int .i64 (a1 : Int))) (fun k e => by rw [e]; exact HLO.out)).keep (below_drew _);have EN := hide (entry_in S5 (a1 : Int) t dat HE1.out);unfold entV at EN;have S5 := hide S5;have N5 := hide (HX.out.trans n5);have R5 := hide R5;clear ha hb ha1 hE hx hjx n5;go_wp2_with fail
   go_region
   go_wp2_with fail
   clear q9 q8 f9;refine EN.out.mono ?_;rintro e w6 ⟨A2, n2, c2, rfl, hA2, u6, l6, k6⟩;have S6 := hide (S5.out.below k6);have N6 := hide (N5.out.trans (Next.of_below S k6));have R6 := hide (R5.out.keep k6);have hbs := N5.out.turn.size;have I6 : Hid (EntI w6 w.heap.size (t, .slice A2 n2 c2) (t, dat)) := hide ⟨rfl, A2, n2, c2, rfl, l6.isB, l6.len, u6, fun b e => Nat.le_trans hbs (hA2 b e)⟩;clear hA2 u6 l6 k6 hbs EN S5 N5 R5;go_wp2_with (at_builtin; refine halt ?_)
   refine ⟨?_⟩;have kb := below_alloc w6 (.cells #[.int .i64 (t : Int), .slice A2 n2 c2] 46);have bg := Blk.new w6 (B := 0) 46 #[.int .i64 (t : Int), .slice A2 n2 c2] (Nat.zero_le _);refine wpList_append_ent rfl (.tmp 22) (.tmp 29) rfl w.heap.size _ _ rfl (R6.out.keep kb) w6.heap.size t n2 c2 A2 dat rfl (bg.cell 0) (bg.cell 1) (I6.out.off (Turn.of_below (fun _ => False) kb) (fun _ _ _ _ _ e => e)) HTL.out (Nat.le_trans N6.out.turn.size kb.size) ?_;intro v7 w7 r7 k7;rw [<- HTK.out] at r7;have S7 := (S6.out.below kb).turn (turn_of_below k7) (fun k hk e => by have := HLW.out k hk; omega);have N7 := hide ((N6.out.trans (Next.of_below S kb)).wide k7);have q9 : w7.cell? ⟨r, 9, none⟩ = some (.int .i64 ((a1 : Nat) : Int)) := nds_cell S7 9;have q9r : wr.cell? ⟨r, 9, none⟩ = some (.int .i64 ((t0 + j : Nat) : Int)) := nds_cell HN.out 9;have R7 := hide r7;have S7 := hide S7;clear kb bg r7 k7 R6 I6;go_wp2_with fail
   go_roundw
   case rel => exact ⟨j + 1, by omega, R7, hide (by have h8 := S7.out; rw [show a1 = t0 + (j + 1) by have := HAB.out; omega] at h8; exact h8), N7⟩
   case measure =>
    obtain ⟨g1, g2, g3⟩ := HAB.out;simp only [q9, q9r, Int.toNat_natCast];have hlt2 : j < m := hlt;rw [g3, g1];exact take_meas t0 j m hlt2
  ·have hjm : j = m := by omega
   have hab : ¬ (a : Int) < (b : Int) := by omega
   subst hjm;rw [List.take_of_length_le (by rw [HM.out]; exact Nat.le_refl _)] at HR;clear ha hb;go_wp2_with fail
   go_region
   go_wp2_with fail
   go_ret;exact ⟨_, rfl, HR.out.keep (below_drew _), HN.out.below (below_drew _), HX.out.trans (Next.of_below S (below_drew _))⟩
set_option maxRecDepth 100000 in
set_option maxHeartbeats 1600000 in
theorem message_any {S : Nat -> Prop} {r : Nat} {N : Nd} (h : NdS w S r d l room N M L) (tz k : Int) (A : Option Addr) (n c : Nat) :
  Calls Tryz.prog 58 #[.pointer (some ⟨r, 0, none⟩), .int .i64 tz, .int .i64 k, .slice A n c] w fun e w' => e = .returned (.agg #[.int .i64 (N.id : Int), .int .i64 tz, .int .i64 k, .slice A n c, .slice none 0 0]) /\ Below w.heap.size w w' := by
 have ka := below_alloc w (.cells #[.int .i64 0, .int .i64 0, .int .i64 0, .slice none 0 0, .slice none 0 0] 34);have q0 : (w.alloc (.cells #[.int .i64 0, .int .i64 0, .int .i64 0, .slice none 0 0, .slice none 0 0] 34)).cell? ⟨r, 0, none⟩ = some (.int .i64 (N.id : Int)) := nds_cell (h.below ka) 0;have hrl := h.low r h.self;obtain ⟨nid, hid⟩ : ∃ k, k = N.id := ⟨_, rfl⟩;rw [<- hid] at q0 ⊢;clear h ka hid;go_enter Tryz.func58, Tryz.ntmps58;go_wp2_with fail
 have bg := Blk.new w (B := 0) 34 #[.int .i64 (nid : Int), .int .i64 tz, .int .i64 k, .slice A n c, .slice none 0 0] (Nat.zero_le _);have z0 := bg.cell 0;have z1 := bg.cell 1;have z2 := bg.cell 2;have z3 := bg.cell 3;have z4 := bg.cell 4;refine bodyPost_ret (v := .agg #[.int .i64 (nid : Int), .int .i64 tz, .int .i64 k, .slice A n c, .slice none 0 0]) (by simp [results, Tryz.results58, go_sem, z0, z1, z2, z3, z4]) rfl ?_;exact ⟨rfl, below_alloc _ _⟩
def RowK (w : World) (B : Nat) (v : Value) (k : Int) (m : Nat) : Prop := ∃ X : List Itm, OwnM w B v X /\ X.length = m /\ ∀ q ∈ X, q.k = k
theorem RowK.form {v : Value} {k : Int} (h : RowK w B v k m) (hm : 1 <= m) : ∃ g c, v = .slice (some ⟨g, 0, none⟩) m c /\ w.cell? ⟨g, 2, none⟩ = some (.int .i64 k) := by
 obtain ⟨X, ho, hl, hk⟩ := h;unfold OwnM at ho;rcases ho.2 with ⟨_, hn⟩ | ⟨g, cap, cur, rfl, _, _, h1, h2, _⟩
 ·omega
 ·obtain ⟨_, _, q2, _, _⟩ := cellsM_at X 0 (by omega);refine ⟨g, cap, by rw [hl], ?_⟩;have hL := cellsM_length X;have h9 := World.ownsRow.cellAt ho 2 (by omega);rw [h9];have q2 : (cellsM X)[2]? = some (.int .i64 X[0].k) := by simpa using q2
  rw [q2, hk _ (List.getElem_mem (by omega))]
set_option maxRecDepth 100000 in
theorem rend_ok (g : Nat) (A : Option Addr) (c : Nat) (w : World) (hB : RdrB w g A 0 c 0) :
  Calls Tryz.prog 37 #[.pointer (some ⟨g, 0, none⟩)] w fun e w' => e = .returned (.int .i64 0) /\ Below w.heap.size w w' := by
 have q0 : w.cell? ⟨g, 0, none⟩ = some (.slice A 0 c) := hB.cell 0;have q1 : w.cell? ⟨g, 1, none⟩ = some (.int .i64 0) := hB.cell 1;clear hB;have HG : Hid (Calls Tryz.prog 45 #[.pointer (some ⟨g, 0, none⟩)] w fun e w' => e = .returned (.bool false) /\ w = w') := by
  refine hide ?_;go_enter Tryz.func45, Tryz.ntmps45;go_wp2_with fail
  go_ret;exact ⟨rfl, rfl⟩
 go_enter Tryz.func37, Tryz.ntmps37;go_wp2_with fail
 refine HG.out.mono ?_;rintro e w1 ⟨rfl, rfl⟩;go_wp2_with fail
 go_ret;exact ⟨rfl, Below.refl _ _⟩
def TermD (L : DiskL) (t v1 : Nat) : Prop := (loadL termK L = ([], 7) /\ t = 0 /\ v1 = 0) \/ loadL termK L = (numsL [t, v1], 0)
set_option maxRecDepth 100000 in
set_option maxHeartbeats 3200000 in
theorem rload_any (F : Nat -> Prop) (d room : Nat) (L : DiskL) (n t v1 : Nat) (w : World) (hD : DiskAt w F d room L) (ht : TermD L t v1) (ht9 : t <= 9223372036854775807) (hv : v1 <= n) (hn : n <= 100) :
  Calls Tryz.prog 15 #[.pointer (some ⟨d, 0, none⟩), .int .i64 (n : Int)] w fun e w' => e = .returned (.tuple #[.int .i64 (t : Int), .int .i64 ((v1 : Int) - 1), .int .i64 0]) /\ Below w.heap.size w w' := by
 have LD := hide (load_any F d room L ⟨#[116, 101, 114, 109]⟩ w hD (by decide));rcases ht with ⟨he, rfl, rfl⟩ | he
 ·rw [show loadL (⟨#[116, 101, 114, 109]⟩ : ByteArray).data.toList L = _ from he] at LD;clear hD he;go_enter Tryz.func15, Tryz.ntmps15;go_wp2_with fail
  refine LD.out.mono ?_;rintro e w1 ⟨v, rfl, o1, k1⟩;have K1 := hide k1;clear o1 k1 LD;go_wp2_with fail
  refine bodyPost_ret (v := .tuple #[.int .i64 0, .int .i64 (-1), .int .i64 0]) (by simp [results, Tryz.results15, go_sem]) rfl ?_;exact ⟨rfl, K1.out⟩
 ·rw [show loadL (⟨#[116, 101, 114, 109]⟩ : ByteArray).data.toList L = _ from he] at LD;clear hD he;go_enter Tryz.func15, Tryz.ntmps15;go_wp2_with fail
  refine LD.out.mono ?_;rintro e w1 ⟨v, rfl, o1, k1⟩;obtain ⟨m, hm⟩ : ∃ m, m = (numsL [t, v1]).length := ⟨_, rfl⟩;obtain ⟨A, c, rfl, _⟩ := o1.isB.form hm.symm;have hlow := own_lowB o1 hm.symm;have K1 := hide k1;have HLOW := hide hlow;have HM := hide hm;clear o1 k1 hlow hm LD;go_wp2_with fail
  have kb := below_alloc w1 (.cells #[.slice A m c, .int .i64 0] 84);have br := Blk.new w1 (B := 0) 84 #[.slice A m c, .int .i64 0] (Nat.zero_le _);obtain ⟨g, hg⟩ : ∃ g, g = w1.heap.size := ⟨_, rfl⟩;obtain ⟨W, hW⟩ : ∃ W, W = w1.alloc (.cells #[.slice A m c, .int .i64 0] 84) := ⟨_, rfl⟩;have low2 := HLOW.out.keep kb;rw [<- hW] at kb br low2;rw [<- hg] at br low2;rw [<- hW, <- hg];have hnl : numsL [t, v1] = uvl t ++ (uvl v1 ++ []) := rfl;rw [hnl] at low2;have hlen := low2.len;rw [List.length_append] at hlen;have K2 := hide (K1.out.trans (kb.mono K1.out.size));have HGS : Hid (w.heap.size <= g) := hide (by rw [hg]; exact K1.out.size);have R1 := hide (rdr_num_ok g A m c _ W t (uvl t).length 9223372036854775807 br low2 (fun x hx => (List.mem_append.1 hx).elim (uvl_byte t x) (fun h => uvl_byte v1 x (by simpa using h))) (rvl_back t _ (by omega)) ht9 (by omega) (by omega));rw [List.drop_left] at R1;clear hW hg kb br low2 hnl hlen;refine R1.out.mono ?_;rintro e w2 ⟨rfl, A2, c2, hs2, b2, l2, t2⟩;have hlen2 := l2.len;rw [List.append_nil] at hlen2;have R2 := hide (rdr_num_ok g A2 _ c2 _ w2 v1 (uvl v1).length n b2 l2 (fun x hx => uvl_byte v1 x (by simpa using hx)) (rvl_back v1 [] (by omega)) hv (by omega) (by omega));have T2 := hide t2;rw [<- hlen2, Nat.sub_self] at R2;clear b2 l2 t2 hs2 hlen2 R1;go_wp2_with fail
  refine R2.out.mono ?_;rintro e w3 ⟨rfl, A3, c3, hs3, b3, l3, t3⟩;have RE := hide (rend_ok g A3 c3 w3 b3);have T3 := hide (T2.out.trans t3);clear b3 l3 t3 hs3 R2;go_wp2_with fail
  refine RE.out.mono ?_;rintro e w4 ⟨rfl, k4⟩;have K4 := hide ((K2.out.trans (T3.out.below K2.out.size (fun k e => by rw [e]; exact HGS.out))).trans (k4.mono (Nat.le_trans K2.out.size T3.out.size)));clear k4 RE;go_wp2_with fail
  refine bodyPost_ret (v := .tuple #[.int .i64 (t : Int), .int .i64 ((v1 : Int) - 1), .int .i64 0]) (by simp [results, Tryz.results15, go_sem]) rfl ?_;exact ⟨rfl, K4.out⟩
def AllE (M : LogL) : Prop := ∀ i : Nat, 1 <= i -> i < M.next -> ∃ t dat, HasE M (i : Int) t dat
set_option maxRecDepth 100000 in
set_option maxHeartbeats 3200000 in
theorem rlogOf_any (F : Nat -> Prop) (d room : Nat) (L : DiskL) (w : World) (hD : DiskAt w F d room L) (h1 : firstL (openR logK L).log = 1) (hA : AllE (openR logK L).log) :
  Calls Tryz.prog 16 #[.pointer (some ⟨d, 0, none⟩)] w fun e w' => ∃ l, e = .returned (.tuple #[.pointer (some ⟨l, 0, none⟩), .int .i64 0]) /\ ∃ F' G', Pro w' F' G' d l room logS ⟨(openR logK L).log.segs, (openR logK L).log.next, []⟩ (syncsL logK (openR logK L).log.dirty (openR logK L).disk) /\ Turn F w w' /\ (∀ k, F' k -> F k \/ w.heap.size <= k) /\ (∀ k, G' k -> w.heap.size <= k) := by
 have PO := hide (pro_open logS hD (by decide) (by decide));obtain ⟨M, hM⟩ : ∃ M, M = (openR logK L).log := ⟨_, rfl⟩;obtain ⟨L1, hL1⟩ : ∃ M, M = (openR logK L).disk := ⟨_, rfl⟩;rw [show logS.data.toList = logK from rfl, <- hM, <- hL1] at PO;rw [<- hM] at h1 hA;rw [<- hM, <- hL1];have HA := hide hA;have H1 := hide h1;clear hD h1 hA hM hL1;go_enter Tryz.func16, Tryz.ntmps16;go_wp2_with fail
 refine PO.out.mono ?_;rintro e w1 ⟨l, rfl, F1, G1, p1, t1, hf1, hg1⟩;have P1 := hide p1;have T1 := hide t1;have HF1 := hide hf1;have HG1 := hide hg1;clear p1 t1 hf1 hg1 PO;go_wp2_with fail
 refine (pro_bounds P1.out).mono ?_;rintro e w2 ⟨rfl, k2⟩;have P2 := hide (P1.out.below k2);have T2 := hide (T1.out.trans (Turn.of_below F k2));rw [H1.out];obtain ⟨nx, hnx⟩ : ∃ n, n = M.next := ⟨_, rfl⟩;have hnx9 : nx <= 1099511627776 := by rw [hnx]; exact P2.out.next_pos
 rw [<- hnx];have HNX := hide hnx;clear k2 hnx;go_wp2_with fail
 go_loopw [8, 9, 10, 11] (fun i _ _ _ wr => ∃ j : Nat, 1 <= j /\ (j <= nx \/ j = 1) /\ i = .int .i64 (j : Int) /\ Hid (Pro wr F1 G1 d l room logS M L1) /\ Hid (Turn F w wr)) (fun i _ _ _ _ => nx - (intOf i).toNat)
 case atStart => exact ⟨1, Nat.le_refl _, .inr rfl, rfl, P2, T2⟩
 case round =>
  obtain ⟨j, hj1, hj2, rfl, HP, HT⟩ := hrel;by_cases hlt : j < nx
  ·have hjz : (j : Int) < (nx : Int) := by omega
   obtain ⟨t, dat, hg, ht9, hb⟩ := HA.out j hj1 (by rw [<- HNX.out]; exact hlt);have GT := hide (read_get HP.out.read (j : Int));rw [hg] at GT;have HTB := hide (And.intro ht9 hb);clear hg ht9 hb;go_wp2_with fail
   refine GT.out.mono ?_;rintro e w3 ⟨v, rfl, o3, k3⟩;obtain ⟨m, hm⟩ : ∃ m, m = (uvl t ++ dat).length := ⟨_, rfl⟩;obtain ⟨A, c, rfl, _⟩ := o3.isB.form hm.symm;have hlow := own_lowB o3 hm.symm;have P3 := hide (HP.out.below k3);have T3 := hide (HT.out.trans (Turn.of_below F k3));have HLOW := hide hlow;clear o3 k3 hlow hm GT;go_wp2_with fail
   have kb := below_alloc w3 (.cells #[.slice A m c, .int .i64 0] 84);have br := Blk.new w3 (B := 0) 84 #[.slice A m c, .int .i64 0] (Nat.zero_le _);obtain ⟨g, hgg⟩ : ∃ g, g = w3.heap.size := ⟨_, rfl⟩;obtain ⟨W, hW⟩ : ∃ W, W = w3.alloc (.cells #[.slice A m c, .int .i64 0] 84) := ⟨_, rfl⟩;have low2 := HLOW.out.keep kb;rw [<- hW] at kb br low2;rw [<- hgg] at br low2;rw [<- hW, <- hgg];have LD := hide (rdr_laid_ok g A m c t dat W br low2 HTB.out.2 HTB.out.1);have P4 := hide (P3.out.below kb);have T4 := hide (T3.out.trans (Turn.of_below F kb));have HGG : Hid (g = w3.heap.size /\ w3.heap.size <= W.heap.size) := hide ⟨hgg, kb.size⟩;clear hW hgg kb br low2;refine LD.out.mono ?_;rintro e w5 ⟨A5, n5, c5, rfl, hs5, l5, A6, c6, b6, t6⟩;have q1 : w5.cell? ⟨g, 1, none⟩ = some (.int .i64 0) := b6.cell 1;have hwg : w.heap.size <= w3.heap.size := T3.out.size;have hFl := P3.out.low;have P5 := hide (P4.out.turn t6 (fun k hk e => by have h7 := hFl.1 k hk; have h8 := HGG.out.1; rw [e] at h7; omega) (fun k hk e => by have h7 := hFl.2 k hk; have h8 := HGG.out.1; rw [e] at h7; omega));have T5 := hide (T4.out.then t6 (fun k e => .inr (by rw [e, HGG.out.1]; exact hwg)));clear hs5 l5 b6 t6 hFl hwg LD;go_wp2_with fail
   go_roundw
   case rel => exact ⟨j + 1, by omega, .inl (by omega), by go_num, P5, T5⟩
   case measure => simp [intOf]; omega
  ·have hjz : ¬ (j : Int) < (nx : Int) := by omega
   go_wp2_with fail
   refine (pro_sync HP.out).mono ?_;rintro e w3 ⟨rfl, F3, G3, p3, t3, hf3, hg3⟩;have P3 := hide p3;have T3 := hide t3;have HF3 := hide hf3;have HG3 := hide hg3;clear p3 t3 hf3 hg3;go_wp2_with fail
   go_ret2;refine ⟨l, rfl, F3, G3, P3.out, HT.out.then T3.out (fun k hk => hk.elim (fun h => HF1.out k h) (fun h => .inr (HG1.out k h))), fun k hk => (HF3.out k hk).elim (fun h => HF1.out k h) (fun h => .inr (Nat.le_trans HT.out.size h)), fun k hk => (HG3.out k hk).elim (fun h => HG1.out k h) (fun h => Nat.le_trans HT.out.size h)⟩
def NumsAt (w : World) (g : Nat) (zs : List Int) : Prop := ∀ i (h : i < zs.length), w.cell? ⟨g, i, none⟩ = some (.int .i64 zs[i])
theorem NumsAt.turn {S : Nat -> Prop} {zs : List Int} (h : NumsAt w g zs) (t : Turn S w w') (hg : ¬ S g) : NumsAt w' g zs := fun i hi => by
 have h1 := h i hi;have hb := t.block g (cell_lt h1) hg;rw [<- h1];exact World.cell?_of_block hb
theorem NumsAt.keep {zs : List Int} (h : NumsAt w g zs) (k : Below w.heap.size w w') : NumsAt w' g zs := fun i hi => (k.cell (cell_lt (h i hi))).trans (h i hi)
def okN (zs : List Int) : Prop := ∀ z ∈ zs, 0 <= z /\ z <= 1099511627776
set_option maxRecDepth 100000 in
theorem are_ok (g c : Nat) (zs : List Int) (w : World) (n : Nat) (hn : zs.length = n) (hc : n <= c) (h : NumsAt w g zs) (hz : okN zs) (h9 : n <= 100) :
  Calls Tryz.prog 44 #[.slice (some ⟨g, 0, none⟩) n c, .int .i64 (n : Int)] w fun e w' => e = .returned (.bool true) /\ w = w' := by
 have H := hide h;have HN := hide hn;have HZ := hide hz;clear h hn hz;go_enter Tryz.func44, Tryz.ntmps44;go_wp2_with fail
 go_loopw [6, 9] (fun _ i wr => ∃ j : Nat, j <= n /\ i = .int .i64 (j : Int) /\ wr = w) (fun _ i _ => n - (intOf i).toNat)
 case atStart => exact ⟨0, Nat.zero_le _, rfl, rfl⟩
 case round =>
  obtain ⟨j, hj, rfl, rfl⟩ := hrel;by_cases hlt : j < n
  ·have hjx : j < zs.length := by rw [HN.out]; exact hlt
   have hc0 := H.out j hjx;obtain ⟨z, hz⟩ : ∃ z, z = zs[j] := ⟨_, rfl⟩;obtain ⟨hz1, hz2⟩ := HZ.out z (by rw [hz]; exact List.getElem_mem hjx);rw [<- hz] at hc0;have hz3 : ¬ z < 0 := by omega
   have hz4 : ¬ 1099511627776 < z := by omega
   have hjz : (j : Int) < (n : Int) := by omega
   clear hz hjx;go_wp2_with fail
   go_roundw
   case rel => exact ⟨j + 1, by omega, by go_num, trivial⟩
   case measure => simp [intOf]; omega
  ·obtain rfl : j = n := by omega
   have hjz : ¬ (j : Int) < (j : Int) := by omega
   go_wp2_with fail
   go_ret;exact ⟨rfl, rfl⟩
def msgV (f t k : Int) (g n c : Nat) (D : Option Addr) (m dc : Nat) : Value := .agg #[.int .i64 f, .int .i64 t, .int .i64 k, .slice (some ⟨g, 0, none⟩) n c, .slice D m dc]
def kindN (k : Int) (zs : List Int) : Prop := (k = 1 /\ zs.length = 3) \/ (k = 2 /\ zs.length = 2 /\ zs.getD 1 0 <= 1) \/ (k = 3 /\ zs.length = 4) \/ (k = 4 /\ zs.length = 3 /\ zs.getD 1 0 <= 1)
set_option maxRecDepth 100000 in
set_option maxHeartbeats 6400000 in
theorem meant_ok {S : Nat -> Prop} {r : Nat} {N : Nd} (h : NdS w S r d l room N M L) (f t k : Int) (g n c : Nat) (D : Option Addr) (m dc : Nat) (zs : List Int) (hn : zs.length = n) (hc : n <= c) (hN : NumsAt w g zs) (hz : okN zs) (ht : t = (N.id : Int)) (hf1 : f ≠ (N.id : Int)) (hf2 : 0 <= f) (hf3 : f < (N.n : Int)) (hk : kindN k zs) :
  Calls Tryz.prog 20 #[.pointer (some ⟨r, 0, none⟩), msgV f t k g n c D m dc] w fun e w' => e = .returned (.bool true) /\ Below w.heap.size w w' := by
 have ka := below_alloc w (.cells #[.int .i64 f, .int .i64 t, .int .i64 k, .slice (some ⟨g, 0, none⟩) n c, .slice D m dc] 34);have bg := Blk.new w (B := 0) 34 #[.int .i64 f, .int .i64 t, .int .i64 k, .slice (some ⟨g, 0, none⟩) n c, .slice D m dc] (Nat.zero_le _);obtain ⟨q, hq⟩ : ∃ q, q = w.heap.size := ⟨_, rfl⟩;obtain ⟨W, hW⟩ : ∃ W, W = w.alloc (.cells #[.int .i64 f, .int .i64 t, .int .i64 k, .slice (some ⟨g, 0, none⟩) n c, .slice D m dc] 34) := ⟨_, rfl⟩;have HN0 := h.below ka;have NN := hN.keep ka;rw [<- hW] at ka bg HN0 NN;rw [<- hq] at bg;have x0 : W.cell? ⟨q, 0, none⟩ = some (.int .i64 f) := bg.cell 0;have x1 : W.cell? ⟨q, 1, none⟩ = some (.int .i64 t) := bg.cell 1;have x2 : W.cell? ⟨q, 2, none⟩ = some (.int .i64 k) := bg.cell 2;have x3 : W.cell? ⟨q, 3, none⟩ = some (.slice (some ⟨g, 0, none⟩) n c) := bg.cell 3;have r0 : W.cell? ⟨r, 0, none⟩ = some (.int .i64 (N.id : Int)) := nds_cell HN0 0;have r1 : W.cell? ⟨r, 1, none⟩ = some (.int .i64 (N.n : Int)) := nds_cell HN0 1;obtain ⟨nid, hid⟩ : ∃ z, z = N.id := ⟨_, rfl⟩;obtain ⟨nn, hnn⟩ : ∃ z, z = N.n := ⟨_, rfl⟩;rw [<- hid] at r0 ht hf1;rw [<- hnn] at r1 hf3;subst ht;have hfz : ((f : Int) == (nid : Int)) = false := by simp; exact hf1
 have hf4 : decide (f < 0) = false := by simp; omega
 have hf5 : decide ((nn : Int) <= f) = false := by simp; omega
 have KA := hide ka;have HZ := hide hz;have HN2 := hide hn;clear h hN hz hid hnn hf1 bg HN0 hf2 hf3 ka hn;unfold msgV;go_enter Tryz.func20, Tryz.ntmps20;go_wp2_with fail
 rw [<- hW, <- hq];clear hW hq;refine heldT_top (fun W' : World => W'.cell? ⟨q, 0, none⟩ = some (.int .i64 f) /\ W'.cell? ⟨q, 1, none⟩ = some (.int .i64 (nid : Int)) /\ W'.cell? ⟨r, 0, none⟩ = some (.int .i64 (nid : Int)) /\ W'.cell? ⟨r, 1, none⟩ = some (.int .i64 (nn : Int))) 30 #[false, false, false, false, false, false, false, false, false, false, false, false, false, false, false, false, false, false, false, false, false, false, false, false, false, false, false, false, false, false] (by kernel_rfl) (by kernel_rfl) (by kernel_rfl) ?_;have hHeld : (fun W' : World => W'.cell? ⟨q, 0, none⟩ = some (.int .i64 f) /\ W'.cell? ⟨q, 1, none⟩ = some (.int .i64 (nid : Int)) /\ W'.cell? ⟨r, 0, none⟩ = some (.int .i64 (nid : Int)) /\ W'.cell? ⟨r, 1, none⟩ = some (.int .i64 (nn : Int))) (W.drewN 1) := ⟨x0, x1, r0, r1⟩;have KU := hide (KA.out.trans ((below_drewN (Below.refl W.heap.size W) 1).mono KA.out.size));have x2' : (W.drewN 1).cell? ⟨q, 2, none⟩ = some (.int .i64 k) := x2;have x3' : (W.drewN 1).cell? ⟨q, 3, none⟩ = some (.slice (some ⟨g, 0, none⟩) n c) := x3;have NU : NumsAt (W.drewN 1) g zs := NN;clear x0 x1 x2 x3 r0 r1 KA NN;change wpAnyH _ _ _ _ _ _ _ _ (W.drewN 1);generalize W.drewN 1 = U at *
 iterate 30
  first | refine' tkH 0 rfl hHeld rfl ?_ ?_ | refine' tkH 1 rfl hHeld rfl ?_ ?_ | refine' tkH 2 rfl hHeld rfl ?_ ?_ | refine' tkH 3 rfl hHeld rfl ?_ ?_ | refine' tkH 4 rfl hHeld rfl ?_ ?_ | refine' tkH 5 rfl hHeld rfl ?_ ?_ | refine' tkH 6 rfl hHeld rfl ?_ ?_ | refine' tkH 7 rfl hHeld rfl ?_ ?_ | refine' tkH 8 rfl hHeld rfl ?_ ?_ | refine' tkH 9 rfl hHeld rfl ?_ ?_ | refine' tkH 10 rfl hHeld rfl ?_ ?_ | refine' tkH 11 rfl hHeld rfl ?_ ?_ | refine' tkH 12 rfl hHeld rfl ?_ ?_ | refine' tkH 13 rfl hHeld rfl ?_ ?_ | refine' tkH 14 rfl hHeld rfl ?_ ?_ | refine' tkH 15 rfl hHeld rfl ?_ ?_ | refine' tkH 16 rfl hHeld rfl ?_ ?_ | refine' tkH 17 rfl hHeld rfl ?_ ?_ | refine' tkH 18 rfl hHeld rfl ?_ ?_ | refine' tkH 19 rfl hHeld rfl ?_ ?_ | refine' tkH 20 rfl hHeld rfl ?_ ?_ | refine' tkH 21 rfl hHeld rfl ?_ ?_ | refine' tkH 22 rfl hHeld rfl ?_ ?_ | refine' tkH 23 rfl hHeld rfl ?_ ?_ | refine' tkH 24 rfl hHeld rfl ?_ ?_ | refine' tkH 25 rfl hHeld rfl ?_ ?_ | refine' tkH 26 rfl hHeld rfl ?_ ?_ | refine' tkH 27 rfl hHeld rfl ?_ ?_ | refine' tkH 28 rfl hHeld rfl ?_ ?_ | refine' tkH 29 rfl hHeld rfl ?_ ?_
  rotate_left
  ·(intro W' hW; (try dsimp only at hW); obtain ⟨z0, z1, z2, z3⟩ := hW; go_simp; (try with_reducible rfl))
  try simp only [Act.put, List.setIfInBounds_toArray, List.set_cons_zero, List.set_cons_succ]
 refine wpAnyH_done (by kernel_rfl) ?_ _;clear hHeld;have AR := hide (fun hn9 => are_ok g c zs U n HN2.out hc NU HZ.out hn9);have HNU := hide NU;clear NU HZ;rcases hk with ⟨rfl, hl⟩ | ⟨rfl, hl, h1⟩ | ⟨rfl, hl⟩ | ⟨rfl, hl, h1⟩
 ·obtain rfl : n = 3 := by have := HN2.out; omega
  have ARE := hide (AR.out (by decide));clear hl AR HN2;go_wp2_with fail
  refine Calls.mono (show Calls Tryz.prog 44 #[.slice (some ⟨g, 0, none⟩) 3 c, .int .i64 3] U _ from ARE.out) ?_;rintro e w1 ⟨rfl, rfl⟩;go_wp2_with fail
  go_ret;exact ⟨rfl, KU.out⟩
 ·obtain rfl : n = 2 := by have := HN2.out; omega
  have ARE := hide (AR.out (by decide));have c1 := HNU.out 1 (by omega);rw [show zs[1]'(by omega) = zs.getD 1 0 by simp [hl]] at c1;obtain ⟨z1, hz1⟩ : ∃ z, z = zs.getD 1 0 := ⟨_, rfl⟩;rw [<- hz1] at c1 h1;clear hl AR HN2 hz1;go_wp2_with fail
  refine Calls.mono (show Calls Tryz.prog 44 #[.slice (some ⟨g, 0, none⟩) 2 c, .int .i64 2] U _ from ARE.out) ?_;rintro e w1 ⟨rfl, rfl⟩;go_wp2_with fail
  go_ret;exact ⟨rfl, KU.out⟩
 ·obtain rfl : n = 4 := by have := HN2.out; omega
  have ARE := hide (AR.out (by decide));clear hl AR HN2;go_wp2_with fail
  refine Calls.mono (show Calls Tryz.prog 44 #[.slice (some ⟨g, 0, none⟩) 4 c, .int .i64 4] U _ from ARE.out) ?_;rintro e w1 ⟨rfl, rfl⟩;go_wp2_with fail
  go_ret;exact ⟨rfl, KU.out⟩
 ·obtain rfl : n = 3 := by have := HN2.out; omega
  have ARE := hide (AR.out (by decide));have c1 := HNU.out 1 (by omega);rw [show zs[1]'(by omega) = zs.getD 1 0 by simp [hl]] at c1;obtain ⟨z1, hz1⟩ : ∃ z, z = zs.getD 1 0 := ⟨_, rfl⟩;rw [<- hz1] at c1 h1;clear hl AR HN2 hz1;go_wp2_with fail
  refine Calls.mono (show Calls Tryz.prog 44 #[.slice (some ⟨g, 0, none⟩) 3 c, .int .i64 3] U _ from ARE.out) ?_;rintro e w1 ⟨rfl, rfl⟩;go_wp2_with fail
  go_ret;exact ⟨rfl, KU.out⟩
end Go.Proofs.YtedlibkkeegnaaaGreat
