/- Hear of any message of Kind 1 at a node of five that has no entry: what it answers, and what it holds then. Condition: the message's numbers lie apart from the  -/
import Derived.Test.YtedlibkkeegnaaaGreatRv34
import Derived.Test.YtedlibkkeegnaaaGreatRv35
namespace Go.Proofs.YtedlibkkeegnaaaGreat
open Go.RowKit Go.Maps
variable {w w' : World} {F : Nat -> Prop} {L : DiskL} {M : LogL} {B room l d : Nat}
def vM0 : LogL := ⟨[], 1, []⟩
theorem v_term0 : TermE vM0 0 0 := .inr ⟨rfl, 7, rfl⟩
def vN (t v1 : Nat) (wt : Int) : Nd := ⟨0, 5, t, (v1 : Int) - 1, 0, -1, 0, 0, wt, 0, noPeers⟩
def VSt (t v1 : Nat) (L : DiskL) : Prop := t <= 1099511627776 /\ v1 <= 5 /\ ((t = 0 /\ v1 = 0 /\ L = []) \/ L = oneD (numsL [t, v1]))
theorem v_nums {x y : Nat} (h1 : x <= 1099511627776) (h2 : y <= 5) : (numsL [x, y]).length <= 1000 := by
 have := numsL_len [x, y] (by intro z hz; simp at hz; omega);have e : (numsL [x, y]).length <= 20 := this;omega
theorem VSt.draft {t v1 : Nat} (h : VSt t v1 L) {t2 v2 : Nat} (h1 : t2 <= 1099511627776) (h2 : v2 <= 5) : (draftL 1048576 termK (numsL [t2, v2]) L).2 = 0 := by
 obtain ⟨a, b, ⟨_, _, rfl⟩ | rfl⟩ := h
 ·exact draft_nil (v_nums h1 h2) (by decide)
 ·exact draft_one (v_nums h1 h2) (v_nums a b) (by decide)
theorem VSt.termP {t v1 : Nat} (h : VSt t v1 L) (p : List Nat) : termP p L = oneD p := by
 obtain ⟨_, _, ⟨_, _, rfl⟩ | rfl⟩ := h
 ·exact termP_nil p
 ·exact termP_one p _
theorem VSt.mk1 {t v1 : Nat} (h1 : t <= 1099511627776) (h2 : v1 <= 5) : VSt t v1 (oneD (numsL [t, v1])) := ⟨h1, h2, .inr rfl⟩
def VAns (w' : World) (v : Value) (f : Int) (t2 v2 : Nat) : Prop := v = .slice none 0 0 \/ ∃ (ga : Nat) (y : Int), OneT w' v 0 f 2 ga 2 2 /\ NumsAt w' ga [(t2 : Int), y] /\ (y = 1 -> 0 <= f /\ f + 1 = (v2 : Int))
def VRes (w : World) (S : Nat -> Prop) (r d l t v1 : Nat) (f : Int) (e : Ending) (w' : World) : Prop := ∃ v, e = .returned v /\ ∃ S' t2 v2 wt2 L2, NdS w' S' r d l 1048576 (vN t2 v2 wt2) vM0 L2 /\ VSt t2 v2 L2 /\ t <= t2 /\ (t = t2 -> v1 = 0 \/ v2 = v1) /\ VAns w' v f t2 v2 /\ Next S w S' w'
set_option maxRecDepth 100000 in
set_option maxHeartbeats 3200000 in
theorem hear_votes {S : Nat -> Prop} {r t v1 : Nat} {wt : Int} (h : NdS w S r d l 1048576 (vN t v1 wt) vM0 L) (hs : VSt t v1 L) (f draw : Int) (A : Option Addr) (n c : Nat) (zs : List Int) (hn : zs.length = n) (hN : RdI w A zs) (hnc : n <= c) (hn9 : n <= 1099511627776) (hA : zs ≠ [] -> ∀ b, A = some b -> ¬ S b.block) (D : Option Addr) (m dc : Nat) :
  Calls Tryz.prog 8 #[.pointer (some ⟨r, 0, none⟩), .agg #[.int .i64 f, .int .i64 0, .int .i64 1, .slice A n c, .slice D m dc], .int .i64 draw] w (VRes w S r d l t v1 f) := by
 have same : ∀ (e : Ending) (w' : World), e = .returned (.slice none 0 0) /\ Below w.heap.size w w' -> VRes w S r d l t v1 f e w' := fun e w' ⟨he, k⟩ => ⟨_, he, S, t, v1, wt, L, h.below k, hs, Nat.le_refl _, fun _ => .inr rfl, .inl rfl, Next.of_below S k⟩
 by_cases h1 : f = 0
 ·exact (hear_unmeant h f 0 1 draw A n c D m dc fun W k => meant_self (h.below k) f 0 A n c D m dc zs hn (hN.below k) rfl h1).mono same
 by_cases h2 : f < 0
 ·exact (hear_unmeant h f 0 1 draw A n c D m dc fun W k => meant_low (h.below k) f 0 A n c D m dc zs hn (hN.below k) rfl h2).mono same
 by_cases h3 : 5 <= f
 ·exact (hear_unmeant h f 0 1 draw A n c D m dc fun W k => meant_high (h.below k) f 0 A n c D m dc zs hn (hN.below k) rfl ⟨h1, by omega, h3⟩).mono same
 have MI := fun (W : World) (k : Below w.heap.size w W) => meant_in (h.below k) f 0 A n c D m dc zs hn (hN.below k) hn9 rfl ⟨h1, by omega, by show f < 5; omega⟩
 by_cases h4 : okN zs /\ n = 3
 rotate_left
 ·exact (hear_unmeant h f 0 1 draw A n c D m dc fun W k => by have := MI W k; rw [decide_eq_false h4] at this; exact this).mono same
 by_cases h5 : 1 <= m
 ·exact (hear_data h f 0 draw A n c D m dc h5 fun W k => by have := MI W k; rw [decide_eq_true h4] at this; exact this).mono same
 obtain rfl : m = 0 := by omega
 obtain ⟨hz, rfl⟩ := h4;clear MI
 match zs, hn with
 | [z0, z1, z2], _ =>
 obtain ⟨b, off, rfl, hc⟩ := hN (by simp);have hg : ¬ S b := hA (by simp) _ rfl;have NO : NumsO w b off [z0, z1, z2] := by
  intro i hi;rw [hc i hi];simp [List.getD_eq_getElem?_getD, List.getElem?_eq_getElem hi]
 have o0 := hz z0 (by simp);have o1 := hz z1 (by simp);have o2 := hz z2 (by simp);have q1 : f ≠ ((vN t v1 wt).id : Int) := h1;have q2 : 0 <= f := by omega
 have q3 : f < ((vN t v1 wt).n : Int) := by show f < 5; omega
 have qt : (vN t v1 wt).term = t := rfl;obtain ⟨vx, hvx⟩ : ∃ vx : Nat, f + 1 = (vx : Int) := ⟨(f + 1).toNat, by omega⟩;rcases Int.lt_trichotomy z0 (t : Int) with hlt | heq | hgt
 ·refine (hear_old1O h f 0 draw b off c z0 z1 z2 hnc NO hz rfl q1 q2 q3 (.inl ⟨rfl, rfl⟩) hlt).mono ?_;rintro e w' ⟨v, ga, rfl, oa, na, k⟩;exact ⟨v, rfl, S, t, v1, wt, L, h.below k, hs, Nat.le_refl _, fun _ => .inr rfl, .inr ⟨ga, 0, oa, na, fun h => by cases h⟩, Next.of_below S k⟩
 ·by_cases hv0 : v1 = 0
  ·subst hv0;refine (hear_voteO h f 0 draw b off c z0 z1 z2 hnc NO hz rfl q1 q2 q3 (.inl ⟨rfl, rfl⟩) heq rfl v_term0 o1.1 o2.1 vx hvx (by omega) (by have := hs.1; rw [qt]; omega) (hs.draft hs.1 (by omega)) rfl).mono ?_;rintro e w' ⟨v, ga, rfl, oa, na, S', d', n'⟩;rw [hs.termP] at d';have eN : ({ vN t 0 wt with term := (vN t 0 wt).term, vote := f, wait := waitOf draw } : Nd) = vN t vx (waitOf draw) := by
    have : f = (vx : Int) - 1 := by omega
    rw [this]; rfl
   rw [eN] at d';exact ⟨v, rfl, S', t, vx, waitOf draw, _, d', VSt.mk1 hs.1 (by omega), Nat.le_refl _, fun _ => .inl rfl, .inr ⟨ga, 1, oa, na, fun _ => ⟨q2, hvx⟩⟩, n'⟩
  ·by_cases hvf : ((v1 : Int) - 1) = f
   ·refine (hear_againO h f 0 draw b off c z0 z1 z2 hnc NO hz rfl q1 q2 q3 (.inl ⟨rfl, rfl⟩) heq rfl v_term0 o1.1 o2.1 hvf).mono ?_;rintro e w' ⟨v, ga, rfl, oa, na, d', n'⟩;exact ⟨v, rfl, S, t, v1, waitOf draw, L, d', hs, Nat.le_refl _, fun _ => .inr rfl, .inr ⟨ga, 1, oa, na, fun _ => ⟨q2, by omega⟩⟩, n'⟩
   ·refine (hear_refusedO h f 0 draw b off c z0 z1 z2 hnc NO hz rfl q1 q2 q3 (.inl ⟨rfl, rfl⟩) heq ⟨by show (v1 : Int) - 1 ≠ -1; omega, hvf⟩).mono ?_;rintro e w' ⟨v, ga, rfl, oa, na, k⟩;exact ⟨v, rfl, S, t, v1, wt, L, h.below k, hs, Nat.le_refl _, fun _ => .inr rfl, .inr ⟨ga, 0, oa, na, fun h => by cases h⟩, Next.of_below S k⟩
 ·obtain ⟨t1, rfl⟩ : ∃ t1 : Nat, z0 = (t1 : Int) := ⟨z0.toNat, by omega⟩;have st := hs.termP (numsL [t1, 0]);refine (hear_newerO h f 0 draw b off c t1 (t1 : Int) z1 z2 hnc NO hg hz rfl q1 q2 q3 (.inl ⟨rfl, rfl⟩) hgt rfl (by omega) (hs.draft (by omega) (by omega)) rfl v_term0 o1.1 o2.1 vx hvx (by omega) (by rw [st]; exact draft_one (v_nums (by omega) (by omega)) (v_nums (by omega) (by omega)) (by decide))).mono ?_;rintro e w' ⟨v, ga, rfl, oa, na, S', d', n'⟩;rw [st, termP_one] at d';have eN : ({ vN t v1 wt with role := 0, lead := -1, term := t1, vote := f, wait := waitOf draw } : Nd) = vN t1 vx (waitOf draw) := by
   have : f = (vx : Int) - 1 := by omega
   rw [this]; rfl
  rw [eN] at d';exact ⟨v, rfl, S', t1, vx, waitOf draw, _, d', VSt.mk1 (by omega) (by omega), by omega, fun hh => by omega, .inr ⟨ga, 1, oa, na, fun _ => ⟨q2, hvx⟩⟩, n'⟩
def Sp (T V : List Int) (t v1 : Nat) : Prop := T.length = V.length /\ ∀ j, j < T.length -> T.getD j 0 <= (t : Int) /\ (T.getD j 0 = (t : Int) -> v1 ≠ 0 /\ V.getD j 0 + 1 = (v1 : Int))
theorem Sp.next {T V : List Int} {t v1 t2 v2 : Nat} (h : Sp T V t v1) (h1 : t <= t2) (h2 : t = t2 -> v1 = 0 \/ v2 = v1) : Sp T V t2 v2 := by
 refine ⟨h.1, fun j hj => ?_⟩;obtain ⟨a, b⟩ := h.2 j hj;refine ⟨by omega, fun e => ?_⟩;have e2 : t = t2 := by omega
 obtain ⟨c, d⟩ := b (by omega);rcases h2 e2 with h3 | h3
 ·exact absurd h3 c
 ·subst h3; exact ⟨c, d⟩
theorem Sp.push {T V : List Int} {t v1 : Nat} {f : Int} (h : Sp T V t v1) (h1 : 0 <= f) (h2 : f + 1 = (v1 : Int)) : Sp (T ++ [(t : Int)]) (V ++ [f]) t v1 := by
 refine ⟨by simp [h.1], fun j hj => ?_⟩;rcases Nat.lt_or_ge j T.length with hlt | hge
 ·have e1 : (T ++ [(t : Int)]).getD j 0 = T.getD j 0 := by simp [List.getD_eq_getElem?_getD, List.getElem?_append_left hlt]
  have e2 : (V ++ [f]).getD j 0 = V.getD j 0 := by simp [List.getD_eq_getElem?_getD, List.getElem?_append_left (h.1 ▸ hlt)]
  rw [e1, e2];exact h.2 j hlt
 ·have e : j = T.length := by simp at hj; omega
  subst e;have e1 : (T ++ [(t : Int)]).getD T.length 0 = (t : Int) := by simp [List.getD_eq_getElem?_getD]
  have e2 : (V ++ [f]).getD T.length 0 = f := by rw [h.1]; simp [List.getD_eq_getElem?_getD]
  rw [e1, e2];exact ⟨Int.le_refl _, fun _ => ⟨by omega, h2⟩⟩
structure VI (B : Nat) (w : World) (r d l : Nat) (S : Nat -> Prop) (t v1 : Nat) (wt : Int) (L : DiskL) (tv wv : Value) (T V : List Int) : Prop where
 nd : NdS w S r d l 1048576 (vN t v1 wt) vM0 L
 st : VSt t v1 L
 ot : OwnN w B tv T
 ow : OwnN w B wv V
 ft : Off S tv
 fw : Off S wv
 tw : ∀ g, tv.ownBlock = some g -> wv.ownBlock ≠ some g
 low : ∀ k, S k -> B <= k
theorem VI.below {r : Nat} {S : Nat -> Prop} {t v1 : Nat} {wt : Int} {tv wv : Value} {T V : List Int} (h : VI B w r d l S t v1 wt L tv wv T V) (k : Below w.heap.size w w') : VI B w' r d l S t v1 wt L tv wv T V :=
 ⟨h.nd.below k, h.st, h.ot.keep k, h.ow.keep k, h.ft, h.fw, h.tw, h.low⟩
theorem off_next {S S' : Nat -> Prop} {v : Value} {zs : List Int} (n : Next S w S' w') (o : OwnN w B v zs) (f : Off S v) : Off S' v := fun g hg hs => by
 rcases n.foot g hs with h | h
 ·exact f g hg h
 ·have := (World.ownsRow.lt o g hg).2;omega
theorem VI.next {r : Nat} {S S' : Nat -> Prop} {t v1 t2 v2 : Nat} {wt wt2 : Int} {L2 : DiskL} {tv wv : Value} {T V : List Int} {r2 l2 : Nat} (h : VI B w r d l S t v1 wt L tv wv T V) (hB : B <= w.heap.size) (n : Next S w S' w') (nd : NdS w' S' r2 d l2 1048576 (vN t2 v2 wt2) vM0 L2) (st : VSt t2 v2 L2) : VI B w' r2 d l2 S' t2 v2 wt2 L2 tv wv T V :=
 ⟨nd, st, ownsRow_turn h.ot n.turn h.ft, ownsRow_turn h.ow n.turn h.fw, off_next n h.ot h.ft, off_next n h.ow h.fw, h.tw, n.up hB h.low⟩
theorem VI.push1 {r : Nat} {S : Nat -> Prop} {t v1 : Nat} {wt : Int} {tv wv tv' : Value} {T V T' : List Int} (h : VI B w r d l S t v1 wt L tv wv T V) (o : OwnN w' B tv' T') (g : w.grownBy w' tv.ownBlock) (e : tv'.ownBlock = tv.ownBlock \/ tv'.ownBlock = some w.heap.size) : VI B w' r d l S t v1 wt L tv' wv T' V := by
 have tn := Turn.of_grown g;have hl := h.nd.low;refine ⟨h.nd.turn tn (fun k hk he => h.ft k he.symm hk), h.st, o, ownsRow_turn h.ow tn (fun g hg he => h.tw g he.symm hg), fun g hg hs => ?_, h.fw, fun g hg hw => ?_, h.low⟩
 ·rcases e with e | e
  ·exact h.ft g (e ▸ hg) hs
  ·have := hl g hs;have e2 : g = w.heap.size := by rw [e] at hg; exact (Option.some.inj hg).symm
   omega
 ·rcases e with e | e
  ·exact h.tw g (e ▸ hg) hw
  ·have e2 : g = w.heap.size := by rw [e] at hg; exact (Option.some.inj hg).symm
   have := (World.ownsRow.lt h.ow g hw).2;omega
theorem VI.swap {r : Nat} {S : Nat -> Prop} {t v1 : Nat} {wt : Int} {tv wv : Value} {T V : List Int} (h : VI B w r d l S t v1 wt L tv wv T V) : VI B w r d l S t v1 wt L wv tv V T := ⟨h.nd, h.st, h.ow, h.ot, h.fw, h.ft, fun g hg ht => h.tw g ht hg, h.low⟩
theorem VI.push2 {r : Nat} {S : Nat -> Prop} {t v1 : Nat} {wt : Int} {tv wv wv' : Value} {T V V' : List Int} (h : VI B w r d l S t v1 wt L tv wv T V) (o : OwnN w' B wv' V') (g : w.grownBy w' wv.ownBlock) (e : wv'.ownBlock = wv.ownBlock \/ wv'.ownBlock = some w.heap.size) : VI B w' r d l S t v1 wt L tv wv' T V' := (h.swap.push1 o g e).swap
theorem wpList_append_num {ops : Array Oper} {rest : List Oper} {o : Oper} {a : Act} {Q : Exit -> Act -> World -> Prop} (hgd : o.guard = none) (s x : Operand)
  (ho : o.op = .call { callee := .builtin .append, args := #[s, x], argTypes := #[31, 31] })
  (B : Nat) (v : Value) (zs : List Int) (hs : a.eval s = v) (hown : OwnN w B v zs)
  (b : Nat) (z : Int) (hx : a.eval x = .slice (some ⟨b, 0, none⟩) 1 1) (h0 : w.cell? ⟨b, 0, none⟩ = some (.int .i64 z))
  (hlen : zs.length + 1 <= 1099511627776) (hbase : B <= w.heap.size)
  (h : ∀ v' w', OwnN w' B v' (zs ++ [z]) -> w.grownBy w' v.ownBlock -> (v'.ownBlock = v.ownBlock \/ v'.ownBlock = some w.heap.size) -> wpList Tryz.prog ops Q rest (a.put o.dst v') w') : wpList Tryz.prog ops Q (o :: rest) a w := by
 obtain ⟨i0, hi, hz0, hz1, hz2⟩ := info_parts Tryz.info_i64z;refine wpList_append_own_at w hgd s x _ ho B 3 i0 _ 1 8 Tryz.underlying31 hi hz0 hz1 hz2 rfl (by decide) v _ _ hs hown ⟨b, 0, none⟩ 1 1 [.int .i64 z] hx rfl ?_ ?_ (by unfold maxLen; omega) (by omega) hbase ?_
 ·intro j u hj
  match j, hj with
  | 0, hj => simp at hj; subst hj; simpa [Addr.add] using h0
 ·intro u hu;simp at hu;subst hu
  rfl
 ·intro v' w' k1 k2 _ k3;refine h v' w' ?_ k2 k3;unfold OwnN;rw [List.length_append, List.map_append];exact k1
def kM0 : LogL := ⟨[], 1, []⟩
def kL1 : DiskL := termP [1, 1] []
def kA : (LogL × DiskL) × Nat × Nat := addL 10000 logK [1] kM0 kL1
theorem k_uvl : uvl 1 = [1] := uvl_low (by decide)
theorem k_nums : numsL [1, 1] = [1, 1] := by simp [numsL, k_uvl]
theorem k_draft : (draftL 10000 termK [1, 1] []).2 = 0 := by decide +kernel
theorem k_add : kA.2.2 = 0 /\ kA.1.1.next = 2 /\ getE ⟨kA.1.1.segs, kA.1.1.next, []⟩ 1 = ([1], 0) := by decide +kernel
theorem k_open : (openR logK []).log = kM0 /\ (openR logK []).disk = [] := ⟨rfl, rfl⟩
theorem k_term : TermD [] 0 0 := .inl ⟨loadL_none rfl, rfl, rfl⟩
theorem k_all : AllE kM0 := fun i h1 h2 => by
 have h3 : i < 1 := h2;omega
theorem k_has : HasE (addE 10000 1 kM0 kL1).1 1 1 [] := by
 refine ⟨?_, by decide, fun x hx => by cases hx⟩;unfold addE;rw [k_uvl];exact k_add.2.2
def kN (j : Nat) : Nd := { ndNew 0 1 0 0 0 with wait := ((10 - j : Nat) : Int) }
def kN9 (vt : Nat) : Nd := ⟨0, 1, 1, 0, 2, 0, 1, 0, 3, vt, pairsL 1 5⟩
theorem k_ents : ∀ i (hi : i < ([(1, [])] : List (Nat × List Nat)).length), HasE (addE 10000 1 kM0 kL1).1 ((0 + 1 + i : Nat) : Int) (([(1, [])] : List (Nat × List Nat))[i]).1 (([(1, [])] : List (Nat × List Nat))[i]).2 := by
 intro i hi;have hi0 : i = 0 := by simpa using hi
 subst hi0;exact k_has
theorem ktick_wait {j : Nat} {S : Nat -> Prop} {r : Nat} (h : NdS w S r d l 10000 (kN j) kM0 []) (hj : j < 9) :
  Calls Tryz.prog 14 #[.pointer (some ⟨r, 0, none⟩), .int .i64 0] w fun e w' => (∃ A n c, e = .returned (.slice A n c)) /\ NdS w' S r d l 10000 (kN (j + 1)) kM0 [] /\ Next S w S w' := by
 refine (tick_wait h 0 (10 - j) rfl (by omega) (by omega)).mono ?_;rintro e w' ⟨rfl, h2, n2⟩;refine ⟨⟨_, _, _, rfl⟩, ?_, n2⟩;have e9 : (10 - j - 1 : Nat) = 10 - (j + 1) := by omega
 rw [e9] at h2;exact h2
theorem ktick_last {S : Nat -> Prop} {r : Nat} (h : NdS w S r d l 10000 (kN 9) kM0 []) :
  Calls Tryz.prog 14 #[.pointer (some ⟨r, 0, none⟩), .int .i64 0] w fun e w' => (∃ A n c, e = .returned (.slice A n c)) /\ ∃ S' vt, NdS w' S' r d l 10000 (kN9 vt) (addE 10000 1 kM0 kL1).1 (addE 10000 1 kM0 kL1).2 /\ Next S w S' w' := by
 refine tick_stand h 0 rfl (.inl rfl) (fun w1 h1 n1 => ?_);have hL : termP (numsL [1, 1]) [] = kL1 := by rw [k_nums]; rfl
 have h9 := stand_one h1 0 rfl rfl rfl rfl rfl (by decide) (by show (draftL 10000 termK (numsL [1, 1]) []).2 = 0; rw [k_nums]; exact k_draft)
  (by show (addL 10000 logK (uvl 1) kM0 (termP (numsL [1, 1]) [])).2.2 = 0; rw [hL, k_uvl]; exact k_add.1)
  (by show (addE 10000 1 kM0 (termP (numsL [1, 1]) [])).1.next = 2; rw [hL]; unfold addE; rw [k_uvl]; exact k_add.2.1)
  (by show TermE (addE 10000 1 kM0 (termP (numsL [1, 1]) [])).1 1 1; rw [hL]; exact .inl ⟨[], k_has⟩)
 refine h9.mono ?_;rintro e w2 ⟨rfl, S2, vt, h2, n2⟩;refine ⟨_, _, _, rfl, ⟨_, _, _, rfl⟩, S2, vt, ?_, n1.trans n2⟩;have h3 : NdS w2 S2 r d l 10000 (kN9 vt) (addE 10000 1 kM0 (termP (numsL [1, 1]) [])).1 (addE 10000 1 kM0 (termP (numsL [1, 1]) [])).2 := h2;rw [hL] at h3;exact h3
set_option maxRecDepth 100000 in
set_option maxHeartbeats 3200000 in
theorem known_any (w : World) : Calls Tryz.prog 5 #[] w fun e w' => e = .returned (.bool true) /\ Below w.heap.size w w' := by
 go_enter Tryz.func5, Tryz.ntmps5;go_wp2_with fail
 refine (new_any 10000 w (by decide)).mono ?_;rintro e w1 ⟨d, F1, rfl, d1, l1, k1⟩;have D1 := hide d1;have K1 := hide k1;have L1 := hide l1;clear d1 l1 k1;go_wp2_with fail
 have hop := ropen_any F1 d 10000 [] 0 1 0 0 0 w1 D1.out (.inl rfl) (by decide) k_term (by decide) (by decide) rfl (by rw [k_open.1]; exact k_all);rw [k_open.1, k_open.2] at hop;refine Calls.mono (show Calls Tryz.prog 7 #[.int .i64 0, .int .i64 1, .pointer (some ⟨d, 0, none⟩), .int .i64 0] w1 _ from hop) ?_;rintro e w2 ⟨r, l, rfl, S2, h2, n2⟩;have H2 := hide (show NdS w2 S2 r d l 10000 (kN 0) kM0 [] from h2);have K2 := hide (K1.out.trans (n2.below K1.out.size L1.out));have HS2 := hide (n2.up K1.out.size L1.out);clear h2 n2 hop;go_wp2_with fail
 go_loopw [5] (fun i wr => ∃ (j : Nat) (S : Nat -> Prop), j <= 10 /\ i = .int .i64 (j : Int) /\ Hid (∀ k, S k -> w.heap.size <= k) /\ Hid (Below w.heap.size w wr) /\ (j < 10 -> Hid (NdS wr S r d l 10000 (kN j) kM0 [])) /\ (j = 10 -> Hid (∃ vt, NdS wr S r d l 10000 (kN9 vt) (addE 10000 1 kM0 kL1).1 (addE 10000 1 kM0 kL1).2))) (fun i _ => 10 - (intOf i).toNat)
 case atStart => exact ⟨0, S2, by omega, rfl, HS2, K2, fun _ => H2, fun h => by omega⟩
 case round =>
  obtain ⟨j, S, hj, rfl, HS, HK, HA, HB⟩ := hrel;by_cases hlt : j < 10
  ·have hjz : (j : Int) < 10 := by omega
   by_cases h9 : j < 9
   ·have TW := hide (ktick_wait (HA hlt).out h9);clear HA HB;go_wp2_with fail
    refine TW.out.mono ?_;rintro e w3 ⟨⟨A, n, c, rfl⟩, h3, n3⟩;have H3 := hide h3;have N3 := hide n3;clear h3 n3 TW;go_wp2_with fail
    go_roundw
    case rel => exact ⟨j + 1, S, by omega, by go_num, HS, hide (HK.out.trans (N3.out.below HK.out.size HS.out)), fun _ => H3, fun h => by omega⟩
    case measure => simp [intOf]; omega
   ·obtain rfl : j = 9 := by omega
    have TW := hide (ktick_last (HA hlt).out);clear HA HB;go_wp2_with fail
    refine TW.out.mono ?_;rintro e w3 ⟨⟨A, n, c, rfl⟩, S3, vt, h3, n3⟩;have H3 : Hid (∃ vt, NdS w3 S3 r d l 10000 (kN9 vt) (addE 10000 1 kM0 kL1).1 (addE 10000 1 kM0 kL1).2) := hide ⟨vt, h3⟩;have N3 := hide n3;clear h3 n3 TW;go_wp2_with fail
    go_roundw
    case rel => exact ⟨10, S3, by omega, by go_num, hide (N3.out.up HK.out.size HS.out), hide (HK.out.trans (N3.out.below HK.out.size HS.out)), fun h => by omega, fun _ => H3⟩
    case measure => simp [intOf]
  ·obtain rfl : j = 10 := by omega
   obtain ⟨vt, h9⟩ := (HB rfl).out;have H9 := hide h9;clear h9 HA HB;go_wp2_with fail
   refine (state_any H9.out).mono ?_;rintro e w3 ⟨rfl, k3⟩;have H3 := hide (H9.out.below k3);have K3 := hide (HK.out.trans (k3.mono HK.out.size));clear k3;go_wp2_with fail
   refine (rtake_any H3.out [(1, [])] 1 0 rfl rfl rfl (by decide) (by decide) k_ents).mono ?_;rintro e w4 ⟨v, rfl, r4, _, n4⟩;have K4 := hide (K3.out.trans (n4.below K3.out.size HS.out));clear n4;rcases r4.form with ⟨h0, _⟩ | ⟨g, c, rfl, _, _, hf⟩
   ·cases h0
   obtain ⟨A, n, cc, _, c1, _, hn⟩ := hf 0 (by decide);have hn0 : n = 0 := hn.symm;subst hn0;have c1 : w4.cell? ⟨g, 1, none⟩ = some (.slice A 0 cc) := c1;clear hf hn r4;go_wp2_with fail
   go_ret;exact ⟨rfl, K4.out⟩
theorem nds_disk {S : Nat -> Prop} {r : Nat} {N : Nd} (h : NdS w S r d l room N M L) : ∃ F, DiskAt w F d room L /\ ∀ k, F k -> S k := by
 obtain ⟨F, G, h, hs⟩ := h;obtain ⟨P, hp⟩ := h.pro;exact ⟨F, hp.both.disk, fun k hk => (hs k).2 (.inl (.inl hk))⟩
structure VD (B : Nat) (w : World) (F : Nat -> Prop) (d : Nat) (t v1 : Nat) (L : DiskL) (tv wv : Value) (T V : List Int) : Prop where
 dk : DiskAt w F d 1048576 L
 st : VSt t v1 L
 ot : OwnN w B tv T
 ow : OwnN w B wv V
 ft : Off F tv
 fw : Off F wv
 tw : ∀ g, tv.ownBlock = some g -> wv.ownBlock ≠ some g
 low : ∀ k, F k -> B <= k
theorem VSt.crash {t v1 : Nat} (h : VSt t v1 L) (z : Nat) : crashD z L = L := by
 obtain ⟨_, _, ⟨_, _, rfl⟩ | rfl⟩ := h
 ·exact crash_nilD z
 ·exact crash_oneD z _
theorem VSt.open_ {t v1 : Nat} (h : VSt t v1 L) : (openR logK L).log = ⟨[], 1, []⟩ /\ (openR logK L).disk = L := by
 obtain ⟨_, _, ⟨_, _, rfl⟩ | rfl⟩ := h
 ·exact k_open
 ·exact open_oneD _
theorem VSt.term {t v1 : Nat} (h : VSt t v1 L) : TermD L t v1 := by
 obtain ⟨a, b, ⟨rfl, rfl, rfl⟩ | rfl⟩ := h
 ·exact k_term
 ·exact term_one t v1 (by omega) (by omega)
theorem v_crash {r : Nat} {S : Nat -> Prop} {t v1 : Nat} {wt : Int} {tv wv : Value} {T V : List Int} (h : VI B w r d l S t v1 wt L tv wv T V) (hB : B <= w.heap.size) (z : Int) :
  Calls Tryz.prog 9 #[.pointer (some ⟨d, 0, none⟩), .int .i64 z] w fun e w' => e = .returned (.tuple #[]) /\ ∃ F', VD B w' F' d t v1 L tv wv T V /\ Below B w w' := by
 obtain ⟨F, hd, hf⟩ := nds_disk h.nd;refine (crash_any F d 1048576 L z w hd).mono ?_;rintro e w' ⟨rfl, F', d', n'⟩;rw [h.st.crash] at d';have hft : Off F tv := fun g hg hs => h.ft g hg (hf g hs)
 have hfw : Off F wv := fun g hg hs => h.fw g hg (hf g hs)
 have hl : ∀ k, F k -> B <= k := fun k hk => h.low k (hf k hk)
 exact ⟨rfl, F', ⟨d', h.st, ownsRow_turn h.ot n'.turn hft, ownsRow_turn h.ow n'.turn hfw, off_next n' h.ot hft, off_next n' h.ow hfw, h.tw, n'.up hB hl⟩, n'.below hB hl⟩
theorem v_open {t v1 : Nat} {tv wv : Value} {T V : List Int} (h : VD B w F d t v1 L tv wv T V) (hB : B <= w.heap.size) (draw : Int) :
  Calls Tryz.prog 7 #[.int .i64 0, .int .i64 5, .pointer (some ⟨d, 0, none⟩), .int .i64 draw] w fun e w' => ∃ r l, e = .returned (.tuple #[.pointer (some ⟨r, 0, none⟩), .int .i64 0]) /\ ∃ S', VI B w' r d l S' t v1 (waitOf draw) L tv wv T V /\ Below B w w' := by
 obtain ⟨e1, e2⟩ := h.st.open_;have hop := ropen_any F d 1048576 L 0 5 t v1 draw w h.dk (.inr (.inr rfl)) (by decide) h.st.term (by have := h.st.1; omega) h.st.2.1 (by rw [e1]; rfl) (by rw [e1]; exact k_all);rw [e1, e2] at hop;refine Calls.mono (show Calls Tryz.prog 7 #[.int .i64 0, .int .i64 5, .pointer (some ⟨d, 0, none⟩), .int .i64 draw] w _ from hop) ?_;rintro e w' ⟨r, l, rfl, S', h', n'⟩;have h2 : NdS w' S' r d l 1048576 (vN t v1 (waitOf draw)) vM0 L := h';exact ⟨r, l, rfl, S', ⟨h2, h.st, ownsRow_turn h.ot n'.turn h.ft, ownsRow_turn h.ow n'.turn h.fw, off_next n' h.ot h.ft, off_next n' h.ow h.fw, h.tw, n'.up hB h.low⟩, n'.below hB h.low⟩
end Go.Proofs.YtedlibkkeegnaaaGreat
