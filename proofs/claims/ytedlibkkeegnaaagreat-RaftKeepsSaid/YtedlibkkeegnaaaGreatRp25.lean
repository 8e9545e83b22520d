/- The contract of the program's Sync. Condition: numbers below 2 to the 40, every segment's file is there. The contracts of the program's Bounds and reaches, of a -/
import Derived.Test.YtedlibkkeegnaaaGreatRp23
import Derived.Test.YtedlibkkeegnaaaGreatRp16
namespace Go.Proofs.YtedlibkkeegnaaaGreat
open Go.RowKit Go.Maps
variable {w w' w1 : World} {G G' : Nat -> Prop} {L : DiskL} {s : ByteArray} {B dp l g n c i k : Nat}
structure PBoth (w : World) (F G : Nat -> Prop) (dp l room : Nat) (s : ByteArray) (P : PLog) (L : DiskL) : Prop where
 disk : DiskAt w F dp room L
 log : PLogAt w G l dp s P
 apart : ∀ k, F k -> ¬ G k
def clrP (x : Sgp) : Sgp := (x.1, x.2.1, false, x.2.2.2)
def syncP (k : Str) (l : List Sgp) (L : DiskL) : DiskL := l.foldl (fun L x => if x.2.2.1 = true then (syncL (nameL k x.1) L).1 else L) L
theorem sync_isSome {k j : Str} (hr : Rise L) (h : (getK j L).isSome = true) : (getK j (syncL k L).1).isSome = true := by
 unfold syncL;rcases e : getK k L with _ | a
 ·exact h
 ·show (getK j (putK k (a.1, a.1.length) L)).isSome = true
  by_cases hjk : j = k
  ·rw [hjk, getK_put_same hr]
   rfl
  ·rw [getK_put_other hr hjk];exact h
theorem sync_rise {k : Str} (hr : Rise L) : Rise (syncL k L).1 := by
 unfold syncL;rcases getK k L with _ | a
 ·exact hr
 ·exact putK_rise hr
theorem sync_zero {k : Str} (h : (getK k L).isSome = true) : (syncL k L).2 = 0 := by
 obtain ⟨a, ha⟩ := Option.isSome_iff_exists.1 h;unfold syncL;rw [ha]
theorem cellsP_clr : ∀ (X : List Sgp) (i : Nat) (h : i < X.length), (cellsP X).set (i * 3 + 2) (.bool false) = cellsP (X.take i ++ clrP X[i] :: X.drop (i + 1))
 | x :: r, 0, _ => rfl
 | x :: r, i + 1, h => by
  have ih := cellsP_clr r i (by simpa using h);have e : (i + 1) * 3 + 2 = (i * 3 + 2) + 1 + 1 + 1 := by omega
  rw [e];simp only [cellsP, List.set_cons_succ, ih, List.take_succ_cons, List.cons_append, List.getElem_cons_succ, List.drop_succ_cons]
theorem pw_clr {X : List Sgp} (h : i < X.length) (hp : X.Pairwise (fun x y => ∀ g, x.2.1.ownBlock = some g -> y.2.1.ownBlock ≠ some g)) : (X.take i ++ clrP X[i] :: X.drop (i + 1)).Pairwise (fun x y => ∀ g, x.2.1.ownBlock = some g -> y.2.1.ownBlock ≠ some g) := by
 have e : X = X.take i ++ X[i] :: X.drop (i + 1) := by
  rw [<- List.drop_eq_getElem_cons h, List.take_append_drop]
 rw [e] at hp;rw [List.pairwise_append, List.pairwise_cons] at hp ⊢;obtain ⟨h1, ⟨h2, h3⟩, h4⟩ := hp;refine ⟨h1, ⟨h2, h3⟩, fun a ha b hb => ?_⟩;rcases List.mem_cons.1 hb with rfl | hb
 ·exact h4 a ha X[i] List.mem_cons_self
 ·exact h4 a ha b (List.mem_cons_of_mem _ hb)
theorem PLogW.setClr {X : List Sgp} {nx : Nat} (h : PLogW w G l dp s (.slice (some ⟨g, 0, none⟩) n c) X nx) (hi : i < X.length) :
  PLogW (w.setCell ⟨g, i * 3 + 2, none⟩ (.bool false)) G l dp s (.slice (some ⟨g, 0, none⟩) n c) (X.take i ++ clrP X[i] :: X.drop (i + 1)) nx := by
 have t : Turn (fun q => some q = some g) w (w.setCell ⟨g, i * 3 + 2, none⟩ (.bool false)) := Turn.of_grown (grown_set w g _ _);have hgl : g ≠ l := fun e => ownsRow_notIn h.row h.cells (by decide) (by rw [<- e]; rfl)
 have hmem : ∀ x ∈ X.take i ++ clrP X[i] :: X.drop (i + 1), ∃ y ∈ X, y.1 = x.1 /\ y.2.1 = x.2.1 /\ y.2.2.2 = x.2.2.2 := fun x hx => by
  rcases List.mem_append.1 hx with hx | hx
  ·exact ⟨x, List.mem_of_mem_take hx, rfl, rfl, rfl⟩
  ·rcases List.mem_cons.1 hx with rfl | hx
   ·exact ⟨X[i], List.getElem_mem hi, rfl, rfl, rfl⟩
   ·exact ⟨x, List.mem_of_mem_drop hx, rfl, rfl, rfl⟩
 refine ⟨h.cells.turn t (fun e => hgl (Option.some.inj e).symm), ?_, fun x hx => ?_, pw_clr hi h.far, h.own, h.mine, fun q hq => Nat.lt_of_lt_of_le (h.low q hq) t.size⟩
 ·have hn : n = X.length := by
   obtain ⟨A0, c0, e0, _⟩ := rowP_form h.row;cases e0
   rfl
  have hl : (X.take i ++ clrP X[i] :: X.drop (i + 1)).length = X.length := by
   simp only [List.length_append, List.length_take, List.length_cons, List.length_drop];omega
  have hr := h.row;rw [hn] at hr ⊢;rw [<- cellsP_clr X i hi, hl];exact (World.ownsRow.stored hr (i * 3 + 2) (.bool false)).1
 ·obtain ⟨y, hy, e1, e2, e3⟩ := hmem x hx;rw [<- e1, <- e2, <- e3];have hE := h.each y hy;have h3 : ∀ q, y.2.1.ownBlock = some q -> G q := by obtain ⟨_, _, _, h3, _⟩ := hE; exact h3
  refine hE.turn t (fun q hq e => ?_) (fun q hq _ e => ?_)
  ·have hEr : ∃ n2 l2, w.ownsRow 0 121 2 y.2.1 n2 l2 := by obtain ⟨us, _, h2, _⟩ := hE; exact ⟨_, _, h2⟩
   obtain ⟨n2, l2, hEr⟩ := hEr;obtain ⟨cur, hc⟩ := row_typed hEr hq;obtain ⟨cur2, hc2⟩ := row_typed h.row rfl;rw [Option.some.inj e, hc2] at hc;simp only [Option.some.injEq, Obj.cells.injEq] at hc;exact absurd hc.2.1 (by decide)
  ·obtain ⟨cur, fr, hq⟩ := hq;obtain ⟨cur2, hc2⟩ := row_typed h.row rfl;rw [Option.some.inj e, hc2] at hq;simp only [Option.some.injEq, Obj.cells.injEq] at hq;exact absurd hq.2.1 (by decide)
theorem PLogW.setClrMid {Y Z : List Sgp} {x : Sgp} {nx : Nat} (h : PLogW w G l dp s (.slice (some ⟨g, 0, none⟩) n c) (Y ++ x :: Z) nx) (hi : Y.length = i) :
  PLogW (w.setCell ⟨g, i * 3 + 2, none⟩ (.bool false)) G l dp s (.slice (some ⟨g, 0, none⟩) n c) (Y ++ clrP x :: Z) nx := by
 subst hi;have := h.setClr (i := Y.length) (by simp);simpa using this
set_option maxRecDepth 100000 in
set_option maxHeartbeats 6400000 in
theorem psync_any (w : World) (F G : Nat -> Prop) (dp l room : Nat) (s : ByteArray) (P : PLog) (L : DiskL) (h : PBoth w F G dp l room s P L) (hs : s.size <= 64) (hd : ∀ x ∈ P.segs, x.1 <= 1099511627776 /\ (x.2.2 = true -> (getK (nameL s.data.toList x.1) L).isSome = true)) (hsl : P.segs.length <= 1073741824) :
  Calls Tryz.prog 42 #[.pointer (some ⟨l, 0, none⟩)] w fun e w' => e = .returned (.int .i64 0) /\ ∃ F', PBoth w' F' G dp l room s ⟨P.segs.map (fun x => (x.1, x.2.1, false)), P.next⟩ (P.segs.foldl (fun L x => if x.2.2 = true then (syncL (nameL s.data.toList x.1) L).1 else L) L) /\
   Turn (fun k => F k \/ G k) w w' /\ ∀ k, F' k -> F k \/ w.heap.size <= k := by
 obtain ⟨segs, nx⟩ := P;obtain ⟨hD, ⟨vS, X, e, h⟩, hap⟩ := h;simp only at e h hd hsl;have c0 : w.cell? ⟨l, 0, none⟩ = some (.pointer (some ⟨dp, 0, none⟩)) := h.cells.cell 0;have c1 : w.cell? ⟨l, 1, none⟩ = some (.string s) := h.cells.cell 1;have c2 : w.cell? ⟨l, 2, none⟩ = some vS := h.cells.cell 2;have hll := cell_lt c0;obtain ⟨A, c, eS, hlc, hc63, hnil, hcell⟩ := rowP_form h.row;subst eS;obtain ⟨N, hN⟩ : ∃ N, N = X.length := ⟨_, rfl⟩;have hNl : N <= 1073741824 := by rw [hN, <- (by rw [e, List.length_map] : segs.length = X.length)]; exact hsl
 rw [<- hN] at c2 hlc h;have HN := hide hN;have HD := hide hD;have HH := hide h;have HAP := hide hap;have HDD := hide hd;have EE := hide e;have HC := hide hcell;clear hD h hap hN hd hsl e hcell hnil;go_enter Tryz.func42, Tryz.ntmps42;go_wp2_with fail
 go_loopw [13] (fun ix wr => ∃ (j : Nat) (F' : Nat -> Prop), j <= N /\ ix = .int .i64 (j : Int) /\ Hid (PLogW wr G l dp s (.slice A N c) ((X.take j).map clrP ++ X.drop j) nx) /\ Hid (DiskAt wr F' dp room (syncP s.data.toList (X.take j) L)) /\ Hid (Turn (fun k => F k \/ G k) w wr) /\ Hid (∀ k, F' k -> F k \/ w.heap.size <= k)) (fun ix _ => N - (intOf ix).toNat)
 case atStart => exact ⟨0, F, Nat.zero_le _, rfl, by simpa [Hid] using HH.out, by simpa [Hid, syncP] using HD.out, Turn.refl _ _, fun _ => .inl⟩
 case round =>
  obtain ⟨j, F', hj, rfl, hP, hDj, hT, hF⟩ := hrel;have k0 : wr.cell? ⟨l, 0, none⟩ = some (.pointer (some ⟨dp, 0, none⟩)) := hP.out.cells.cell 0;have k1 : wr.cell? ⟨l, 1, none⟩ = some (.string s) := hP.out.cells.cell 1;have k2 : wr.cell? ⟨l, 2, none⟩ = some (.slice A N c) := hP.out.cells.cell 2;have hapj : ∀ k, F' k -> ¬ G k := fun k hk hg => (hF.out k hk).elim (fun h => HAP.out k h hg) (fun h => by have := HH.out.low k hg; omega)
  have HAJ := hide hapj;clear hapj;by_cases hlt : j < N
  ·have hjX : j < X.length := by rw [<- HN.out]; exact hlt
   have hlen : ((X.take j).map clrP ++ X.drop j).length = X.length := by
    simp only [List.length_append, List.length_map, List.length_take, List.length_drop];omega
   have hrowj := hP.out.row;obtain ⟨A9, c9, e9, hl9, hc9, -, hcell⟩ := rowP_form hrowj;have hA9 := (Value.slice.inj e9).1;have hc99 := (Value.slice.inj e9).2.2;have hNN := (Value.slice.inj e9).2.1;clear e9;subst hA9;subst hc99;have HNN := hide hNN;clear hNN;have hidx : ((X.take j).map clrP ++ X.drop j)[j]'(by rw [hlen]; exact hjX) = X[j] := by
    rw [List.getElem_append_right (by rw [List.length_map, List.length_take]; omega)];simp only [List.length_map, List.length_take, List.getElem_drop];congr 1;omega
   obtain ⟨g, rfl, _, hgl, q0, q1, q2, qf⟩ := hcell j (by rw [hlen]; exact hjX);rw [hidx] at q0 q2;obtain ⟨x, hx⟩ : ∃ x, x = X[j] := ⟨_, rfl⟩;obtain ⟨f, hf⟩ : ∃ f, f = x.1 := ⟨_, rfl⟩;obtain ⟨fr, hfr⟩ : ∃ fr, fr = x.2.2.1 := ⟨_, rfl⟩;rw [<- hx, <- hf] at q0;rw [<- hx, <- hfr] at q2;have hdx := HDD.out (segP x) (by rw [EE.out, hx]; exact List.mem_map.2 ⟨X[j], List.getElem_mem hjX, rfl⟩);have hf40 : f <= 1099511627776 := by rw [hf]; exact hdx.1
   have hget : fr = true -> (getK (nameL s.data.toList f) L).isSome = true := by rw [hfr, hf]; exact hdx.2
   have htk : (X.take (j + 1)).map clrP ++ X.drop (j + 1) = (X.take j).map clrP ++ clrP x :: X.drop (j + 1) := by
    rw [List.take_succ_eq_append_getElem hjX, List.map_append, hx];simp
   have hsy : syncP s.data.toList (X.take (j + 1)) L = if fr = true then (syncL (nameL s.data.toList f) (syncP s.data.toList (X.take j) L)).1 else syncP s.data.toList (X.take j) L := by
    unfold syncP;rw [List.take_succ_eq_append_getElem hjX, List.foldl_append, <- hx, hfr, hf]
    rfl
   have HX := hide hx;have HTK := hide htk;have HSY := hide hsy;have HGET := hide hget;have HFR := hide hfr;clear hx hf hfr hdx htk hsy hget hidx q1 hcell hrowj hlen;cases fr with
   | false =>
    go_wp2_with fail
    go_roundw
    case rel =>
     refine ⟨j + 1, F', by omega, by go_num, ?_, ?_, hT.out, hF.out⟩
     ·unfold Hid;have e1 : clrP x = x := by
       obtain ⟨x1, x2, x3, x4⟩ := x;have h3 : x3 = false := HFR.out.symm;rw [h3]
       rfl
      have e2 : (X.take j).map clrP ++ x :: X.drop (j + 1) = (X.take j).map clrP ++ X.drop j := by rw [HX.out, <- List.drop_eq_getElem_cons hjX]
      rw [HTK.out, e1, e2];exact hP.out
     ·unfold Hid;rw [HSY.out, if_neg (by decide)];exact hDj.out
    case measure => simp [intOf]; omega
   | true =>
    have hex : (getK (nameL s.data.toList f) (syncP s.data.toList (X.take j) L)).isSome = true := by
     have hgen : ∀ (l : List Sgp) (L0 : DiskL), Rise L0 -> (getK (nameL s.data.toList f) L0).isSome = true -> Rise (syncP s.data.toList l L0) /\ (getK (nameL s.data.toList f) (syncP s.data.toList l L0)).isSome = true := by
      intro l
      induction l with
      | nil => intro L0 h1 h2; exact ⟨h1, h2⟩
      | cons y r ih =>
       intro L0 h1 h2;by_cases hy : y.2.2.1 = true
       ·have e : syncP s.data.toList (y :: r) L0 = syncP s.data.toList r (syncL (nameL s.data.toList y.1) L0).1 := by unfold syncP; rw [List.foldl_cons, if_pos hy]
        rw [e];exact ih _ (sync_rise h1) (sync_isSome h1 h2)
       ·have e : syncP s.data.toList (y :: r) L0 = syncP s.data.toList r L0 := by unfold syncP; rw [List.foldl_cons, if_neg hy]
        rw [e];exact ih _ h1 h2
     exact (hgen (X.take j) L HD.out.facts.1 (HGET.out rfl)).2
    have HZ := hide (sync_zero hex);clear hex;have k1d : wr.drew.cell? ⟨l, 1, none⟩ = some (.string s) := k1;have hs64 : s.size <= 1099511627776 := by omega
    have hlG := hP.out.own;have hgG := hP.out.mine g rfl;have HLG := hide hlG;have HGG := hide hgG;clear hlG hgG;go_wp2_with fail
    go_region_held3 (fun W' => W'.cell? ⟨l, 0, none⟩ = some (.pointer (some ⟨dp, 0, none⟩)) /\ W'.cell? ⟨g, j * 3, none⟩ = some (.int .i64 (f : Int))) (go_keep)
     (first
      | (go_at_call 71; refine (pname_any l s f _ k1d hs64 hf40).mono ?_; rintro e w2 ⟨t, rfl, htl, kn⟩; have kn2 : Below wr.heap.size wr w2 := (by exact ⟨kn.os, kn.tape, kn.output, kn.size, kn.block⟩); have P2 := hide (hP.out.below kn2); have D2 := hide (hDj.out.below kn2); have K2 := hide kn2; have x0 : w2.cell? ⟨l, 0, none⟩ = some (.pointer (some ⟨dp, 0, none⟩)) := P2.out.cells.cell 0; have x3 := (kn2.cell (p := ⟨g, j * 3, none⟩) hgl).trans q0; have X3 := hide x3; have X2 := hide ((kn2.cell (p := ⟨g, j * 3 + 2, none⟩) hgl).trans q2); have XF := hide ((kn2.frozen (p := ⟨g, j * 3 + 2, none⟩) hgl).trans (qf (j * 3 + 2))); have TL := hide htl; have TS : t.size <= 1099511627776 := (by have h1 : t.data.toList.length = t.size := rfl; have h2 := name_len s.data.toList f; have h3 : s.data.toList.length = s.size := rfl; rw [htl, h2, h3] at h1; omega); clear htl kn kn2)
      | (go_at_call 70; refine (sync_any F' dp room _ t w2 D2.out TS).mono ?_; rintro e w3 ⟨rfl, F3, d3, n3⟩; rw [TL.out] at d3 ⊢; rw [HZ.out]; have P3 := hide (P2.out.turn n3.turn (fun q hq hd => HAJ.out q hd hq)); have hgF : ¬ F' g := (fun hd => HAJ.out g hd HGG.out); have y0 : w3.cell? ⟨l, 0, none⟩ = some (.pointer (some ⟨dp, 0, none⟩)) := P3.out.cells.cell 0; have y3 := (n3.far (i := j * 3) (cell_lt X3.out) hgF).trans X3.out; have Y2 := hide ((n3.far (i := j * 3 + 2) (cell_lt X3.out) hgF).trans X2.out); have YF := hide ((World.frozen?_of_block (n3.turn.block g (cell_lt X3.out) hgF)).trans XF.out); have D3 := hide d3; have N3 := hide n3; clear d3 n3))
    have z2 := Y2.out;have zf := YF.out;go_wp2_with fail
    go_roundw
    case rel =>
     have hXj : (X.take j).map clrP ++ X.drop j = (X.take j).map clrP ++ x :: X.drop (j + 1) := by rw [HX.out, <- List.drop_eq_getElem_cons hjX]
     have hP3 := P3.out;rw [hXj] at hP3;have hl1 : ((X.take j).map clrP).length = j := by rw [List.length_map, List.length_take]; omega
     have hP4 := hP3.setClrMid hl1;have tS : Turn (fun q => q = g) w3 (w3.setCell ⟨g, j * 3 + 2, none⟩ (.bool false)) := (Turn.of_grown (grown_set w3 g _ _)).mono (fun q e => Option.some.inj e);have hap3 : ∀ q, F3 q -> ¬ G q := fun q hq hg => (N3.out.foot q hq).elim (fun h => HAJ.out q h hg) (fun h => by have := hP.out.low q hg; have := K2.out.size; omega)
     have hs1 := hT.out.size;have hs2 := K2.out.size;refine ⟨j + 1, F3, by omega, by go_num, ?_, ?_, ?_, fun q hq => (N3.out.foot q hq).elim (hF.out q) (fun h => .inr (by omega))⟩
     ·unfold Hid;rw [HTK.out];exact hP4
     ·unfold Hid;rw [HSY.out, if_pos trivial];exact D3.out.turn tS (fun q hq e => hap3 q hq (by rw [e]; exact HGG.out))
     ·exact ((hT.out.trans (Turn.of_below _ K2.out)).then N3.out.turn (fun q hq => (hF.out q hq).imp .inl id)).trans (tS.mono (fun q e => .inr (by rw [e]; exact HGG.out)))
    case measure => simp [intOf]; omega
  ·obtain rfl : j = N := by omega
   go_wp2_with fail
   go_ret;have hP0 := hP.out;have hD0 := hDj.out;rw [List.take_of_length_le (by rw [HN.out]; exact Nat.le_refl _), List.drop_of_length_le (by rw [HN.out]; exact Nat.le_refl _), List.append_nil] at hP0;rw [List.take_of_length_le (by rw [HN.out]; exact Nat.le_refl _)] at hD0;have e1 : segs.foldl (fun L x => if x.2.2 = true then (syncL (nameL s.data.toList x.1) L).1 else L) L = syncP s.data.toList X L := by
    rw [EE.out];unfold syncP;rw [List.foldl_map]
    rfl
   rw [e1];refine ⟨rfl, F', ⟨hD0, ⟨_, X.map clrP, ?_, hP0⟩, HAJ.out⟩, hT.out, hF.out⟩
   show segs.map (fun x => (x.1, x.2.1, false)) = _
   rw [EE.out, List.map_map, List.map_map]
   rfl
def firstP (P : PLog) : Nat := (P.segs.head?.map (·.1)).getD P.next
set_option maxRecDepth 100000 in
set_option maxHeartbeats 3200000 in
theorem pbounds_any (w : World) (G : Nat -> Prop) (l dp : Nat) (s : ByteArray) (P : PLog) (h : PLogAt w G l dp s P) :
  Calls Tryz.prog 39 #[.pointer (some ⟨l, 0, none⟩)] w fun e w' => e = .returned (.tuple #[.int .i64 ((firstP P : Nat) : Int), .int .i64 (P.next : Int)]) /\ ∃ d, w' = w.drewN d := by
 obtain ⟨segs, nx⟩ := P;obtain ⟨vS, X, e, h⟩ := h;simp only at e h;have c2 : w.cell? ⟨l, 2, none⟩ = some vS := h.cells.cell 2;have c3 : w.cell? ⟨l, 3, none⟩ = some (.int .i64 (nx : Int)) := h.cells.cell 3;obtain ⟨A, c, rfl, hlc, hc63, hnil, hcell⟩ := rowP_form h.row;have hf0 : firstP ⟨segs, nx⟩ = (X.head?.map (·.1)).getD nx := by
  unfold firstP;rw [e, List.head?_map];rcases X.head? with _ | x <;> rfl
 obtain ⟨f, hfe⟩ : ∃ f, f = firstP ⟨segs, nx⟩ := ⟨_, rfl⟩;rw [<- hfe] at hf0 ⊢;rcases X with _ | ⟨x, r⟩
 ·have hf : f = nx := hf0;clear hf0;subst hf;have c2' : w.cell? ⟨l, 2, none⟩ = some (.slice A 0 c) := c2;clear hcell e h hfe hnil hlc hc63 c2;go_enter Tryz.func39, Tryz.ntmps39;go_wp2_with fail
  go_quiet (fail)
  go_wp2_with fail
  go_ret2;exact ⟨rfl, _, rfl⟩
 ·have hf : f = x.1 := hf0;clear hf0;obtain ⟨g, rfl, _, hgl, q00, _⟩ := hcell 0 (by simp);have q0 : w.cell? ⟨g, 0, none⟩ = some (.int .i64 (f : Int)) := by rw [hf]; simpa using q00
  obtain ⟨N, hN⟩ : ∃ N, N = (x :: r).length := ⟨_, rfl⟩;have hN1 : ((N : Int) == 0) = false := by simp; rw [hN]; simp
  have hN0 : (0 : Int) < (N : Int) := by rw [hN]; simp
  rw [<- hN] at c2 hlc;clear hcell e h hfe hf hN q00;go_enter Tryz.func39, Tryz.ntmps39;go_wp2_with fail
  go_quiet (fail)
  go_wp2_with fail
  go_ret2;exact ⟨rfl, _, rfl⟩
set_option maxRecDepth 100000 in
set_option maxHeartbeats 3200000 in
theorem preaches_any (w : World) (G : Nat -> Prop) (l dp : Nat) (s : ByteArray) (P : PLog) (z : Int) (h : PLogAt w G l dp s P) :
  Calls Tryz.prog 100 #[.pointer (some ⟨l, 0, none⟩), .int .i64 z] w fun e w' => e = .returned (.bool (decide ((firstP P : Int) <= z /\ z <= (P.next : Int)))) /\ ∃ d, w' = w.drewN d := by
 have HB := hide (pbounds_any w G l dp s P h);obtain ⟨f, hf⟩ : ∃ f, f = firstP P := ⟨_, rfl⟩;obtain ⟨nx, hnx⟩ : ∃ nx, nx = P.next := ⟨_, rfl⟩;rw [<- hf, <- hnx] at HB;rw [<- hf, <- hnx];obtain ⟨b, hb⟩ : ∃ b, b = decide ((f : Int) <= z /\ z <= (nx : Int)) := ⟨_, rfl⟩;rw [<- hb];have HBB := hide hb;clear hf hnx h hb;go_enter Tryz.func100, Tryz.ntmps100;go_wp2_with fail
 refine HB.out.mono ?_;rintro e w1 ⟨rfl, d, rfl⟩;by_cases h1 : (f : Int) <= z
 ·by_cases h2 : z <= (nx : Int)
  ·have h3 : decide ((f : Int) <= z /\ z <= (nx : Int)) = true := decide_eq_true ⟨h1, h2⟩;have H3 := hide (HBB.out.trans h3);clear h3;go_wp2_with fail
   go_ret;exact ⟨by rw [H3.out]; first | rfl | (simp; omega), d, rfl⟩
  ·have h3 : decide ((f : Int) <= z /\ z <= (nx : Int)) = false := decide_eq_false (fun h => h2 h.2);have h4 : (nx : Int) < z := by omega
   have H3 := hide (HBB.out.trans h3);clear h3;go_wp2_with fail
   go_ret;exact ⟨by rw [H3.out]; first | rfl | (simp; omega), d, rfl⟩
 ·have h3 : decide ((f : Int) <= z /\ z <= (nx : Int)) = false := decide_eq_false (fun h => h1 h.1);have h4 : z < (f : Int) := by omega
  have H3 := hide (HBB.out.trans h3);clear h3;go_wp2_with fail
  go_ret;exact ⟨by rw [H3.out]; first | rfl | (simp; omega), d, rfl⟩
set_option maxRecDepth 100000 in
theorem pnan_any (w : World) (x : Int) : Calls Tryz.prog 114 #[.int .i64 x] w fun e w' => e = .returned (.bool false) /\ w' = w := by
 have h : (x != x) = false := by simp
 go_enter Tryz.func114, Tryz.ntmps114;go_wp2_with fail
 go_ret;exact ⟨rfl, rfl⟩
set_option maxRecDepth 100000 in
theorem pcmp_any (w : World) (x y : Int) :
  Calls Tryz.prog 96 #[.int .i64 x, .int .i64 y] w fun e w' => e = .returned (.int .i64 (if x < y then -1 else if y < x then 1 else 0)) /\ w' = w := by
 obtain ⟨r, hr⟩ : ∃ r : Int, r = if x < y then -1 else if y < x then 1 else 0 := ⟨_, rfl⟩;rw [<- hr];have HR := hide hr;clear hr;go_enter Tryz.func96, Tryz.ntmps96;go_wp2_with fail
 refine (pnan_any w x).mono ?_;rintro e w1 ⟨rfl, rfl⟩;go_wp2_with fail
 refine (pnan_any w1 y).mono ?_;rintro e w2 ⟨rfl, rfl⟩;by_cases h1 : x < y
 ·go_wp2_with fail
  go_ret;exact ⟨by rw [HR.out, if_pos h1]; rfl, rfl⟩
 ·by_cases h2 : y < x
  ·go_wp2_with fail
   go_ret;exact ⟨by rw [HR.out, if_neg (by omega), if_pos h2]; rfl, rfl⟩
  ·have h3 : x = y := by omega
   subst h3;go_wp2_with fail
   go_ret;exact ⟨by rw [HR.out, if_neg (by omega), if_neg (by omega)]; rfl, rfl⟩
set_option maxRecDepth 100000 in
theorem pclo_any (w : World) (f : Int) (v : Value) (b : Bool) (z : Int) :
  Calls Tryz.prog 95 #[.agg #[.int .i64 f, v, .bool b], .int .i64 z] w fun e w' => e = .returned (.int .i64 (if f < z then -1 else if z < f then 1 else 0)) /\ Below w.heap.size w w' := by
 have ka := below_alloc w (.cells #[.int .i64 f, v, .bool b] 119);have m0 : (w.alloc (.cells #[.int .i64 f, v, .bool b] 119)).cell? ⟨w.heap.size, 0, none⟩ = some (.int .i64 f) := by rw [cell_of_row _ _ _ _ _ (0, 0) (heap_alloc_new w _)]; rfl
 have KA := hide ka;have hc := pcmp_any (w.alloc (.cells #[.int .i64 f, v, .bool b] 119)) f z;obtain ⟨r, hr⟩ : ∃ r : Int, r = if f < z then -1 else if z < f then 1 else 0 := ⟨_, rfl⟩;rw [<- hr] at hc ⊢;have HC := hide hc;clear ka hr hc;go_enter Tryz.func95, Tryz.ntmps95;go_wp2_with fail
 refine HC.out.mono ?_;rintro e w1 ⟨rfl, rfl⟩;go_wp2_with fail
 go_ret;exact ⟨rfl, KA.out⟩
set_option maxRecDepth 100000 in
set_option maxHeartbeats 3200000 in
theorem psearch_any (w : World) (B N : Nat) (v : Value) (X : List Sgp) (z : Int) (hN : N = X.length) (hrow : w.ownsRow B 119 3 v X.length (cellsP X)) (hl : N <= 1073741824) (hr : ∀ a b (ha : a < X.length) (hb : b < X.length), a < b -> X[a].1 < X[b].1) :
  Calls Tryz.prog 94 #[v, .int .i64 z, .func (.func 95) #[] #[]] w fun e w' => ∃ (i : Nat) (q : Bool), e = .returned (.tuple #[.int .i64 (i : Int), .bool q]) /\ i <= N /\ (∀ k (hk : k < X.length), k < i ↔ (X[k].1 : Int) < z) /\ Below w.heap.size w w' := by
 obtain ⟨A, c, ev, hlc, hc63, hnil, hcell⟩ := rowP_form hrow;rw [<- hN] at hlc ev;subst ev;have HN := hide hN;have HC := hide hcell;have HR := hide hr;clear hcell hr hrow hN hnil;go_enter Tryz.func94, Tryz.ntmps94;go_wp2_with fail
 go_loopw [9, 10] (fun vi vj wr => ∃ (i j : Nat), i <= j /\ j <= N /\ vi = .int .i64 (i : Int) /\ vj = .int .i64 (j : Int) /\ Hid (∀ k (hk : k < X.length), k < i -> (X[k].1 : Int) < z) /\ Hid (∀ k (hk : k < X.length), j <= k -> z <= (X[k].1 : Int)) /\ Hid (Below w.heap.size w wr)) (fun vi vj _ => (intOf vj).toNat - (intOf vi).toNat)
 case atStart => exact ⟨0, N, Nat.zero_le _, Nat.le_refl _, rfl, rfl, hide (fun k hk h => absurd h (Nat.not_lt_zero _)), hide (fun k hk h => by have := HN.out; omega), Below.refl _ _⟩
 case round =>
  obtain ⟨i, j, hij, hjN, rfl, rfl, h1, h2, hB⟩ := hrel;by_cases hlt : i < j
  ·obtain ⟨h, hh⟩ : ∃ h, h = (i + j) / 2 := ⟨_, rfl⟩;have hhi : i <= h := by omega
   have hhj : h < j := by omega
   have hhX : h < X.length := by have := HN.out; omega
   obtain ⟨g, rfl, _, hgl, q0, q1, q2, _⟩ := HC.out h hhX;obtain ⟨f, hf⟩ : ∃ f, f = X[h].1 := ⟨_, rfl⟩;obtain ⟨vv, hvv⟩ : ∃ vv, vv = X[h].2.1 := ⟨_, rfl⟩;obtain ⟨bb, hbb⟩ : ∃ bb, bb = X[h].2.2.1 := ⟨_, rfl⟩;rw [<- hf] at q0;rw [<- hvv] at q1;rw [<- hbb] at q2;have q0' := (hB.out.cell (p := ⟨g, h * 3, none⟩) hgl).trans q0;have q1' := (hB.out.cell (p := ⟨g, h * 3 + 1, none⟩) hgl).trans q1;have q2' := (hB.out.cell (p := ⟨g, h * 3 + 2, none⟩) hgl).trans q2;have HF := hide hf;have hsum : IntKind.i64.wrap ((i : Int) + (j : Int)) = ((i + j : Nat) : Int) := by rw [IntKind.wrap_i64]; omega
   obtain ⟨ij, hij2⟩ : ∃ ij, ij = i + j := ⟨_, rfl⟩;rw [<- hij2] at hsum hh;have hu : IntKind.u64.wrap (ij : Int) = (ij : Int) := by rw [IntKind.wrap_u64]; omega
   have hsh : IntKind.i64.wrap ((ij : Int) / 2) = (h : Int) := by rw [IntKind.wrap_i64]; omega
   have HIJ := hide hij2;have HH := hide hh;have hc := pclo_any wr (f : Int) vv bb z;clear hij2 hh q0 q1 q2 hvv hbb hf;by_cases hz : (f : Int) < z
   ·rw [if_pos hz] at hc;have HCC := hide hc;clear hc;go_wp2_with fail
    refine HCC.out.mono ?_;rintro e w2 ⟨rfl, k2⟩;have K2 := hide (below_step hB.out k2);clear k2;go_wp2_with fail
    go_roundw
    case rel =>
     refine ⟨h + 1, j, by omega, hjN, by go_num, rfl, fun k hk hkh => ?_, h2.out, K2.out⟩;have hf := HF.out;by_cases hkk : k = h
     ·subst hkk;omega
     ·have := HR.out k h hk hhX (by omega);omega
    case measure => simp [intOf]; omega
   ·rw [if_neg hz] at hc;obtain ⟨r, hr, hr0⟩ : ∃ r : Int, r = (if z < (f : Int) then 1 else 0) /\ 0 <= r := ⟨_, rfl, by split <;> omega⟩;rw [<- hr] at hc;have HCC := hide hc;clear hc hr;go_wp2_with fail
    refine HCC.out.mono ?_;rintro e w2 ⟨rfl, k2⟩;have K2 := hide (below_step hB.out k2);clear k2;go_wp2_with fail
    go_roundw
    case rel =>
     refine ⟨i, h, hhi, by omega, rfl, rfl, h1.out, fun k hk hkh => ?_, K2.out⟩;have hf := HF.out;by_cases hkk : k = h
     ·subst hkk;omega
     ·have := HR.out h k hhX hk (by omega);omega
    case measure => simp [intOf]; omega
  ·obtain rfl : i = j := by omega
   have hfin : ∀ k (hk : k < X.length), k < i ↔ (X[k].1 : Int) < z := fun k hk => ⟨h1.out k hk, fun h => by
    rcases Nat.lt_or_ge k i with h9 | h9
    ·exact h9
    ·have := h2.out k hk h9;omega⟩
   have HFIN := hide hfin;clear hfin;by_cases hiN : i < N
   ·have hiX : i < X.length := by have := HN.out; omega
    obtain ⟨g, rfl, _, hgl, q0, q1, q2, _⟩ := HC.out i hiX;obtain ⟨f, hf⟩ : ∃ f, f = X[i].1 := ⟨_, rfl⟩;obtain ⟨vv, hvv⟩ : ∃ vv, vv = X[i].2.1 := ⟨_, rfl⟩;obtain ⟨bb, hbb⟩ : ∃ bb, bb = X[i].2.2.1 := ⟨_, rfl⟩;rw [<- hf] at q0;rw [<- hvv] at q1;rw [<- hbb] at q2;have q0' := (hB.out.cell (p := ⟨g, i * 3, none⟩) hgl).trans q0;have q1' := (hB.out.cell (p := ⟨g, i * 3 + 1, none⟩) hgl).trans q1;have q2' := (hB.out.cell (p := ⟨g, i * 3 + 2, none⟩) hgl).trans q2;have hc := pclo_any wr (f : Int) vv bb z;obtain ⟨r, hr⟩ : ∃ r : Int, r = (if (f : Int) < z then -1 else if z < (f : Int) then 1 else 0) := ⟨_, rfl⟩;rw [<- hr] at hc;obtain ⟨q, hq⟩ : ∃ q : Bool, (r == 0) = q := ⟨_, rfl⟩;have HCC := hide hc;clear hc hr q0 q1 q2 hf hvv hbb;go_wp2_with fail
    refine HCC.out.mono ?_;rintro e w2 ⟨rfl, k2⟩;have K2 := hide (below_step hB.out k2);clear k2;go_wp2_with fail
    go_ret2;exact ⟨i, q, rfl, hjN, HFIN.out, K2.out⟩
   ·go_wp2_with fail
    go_ret2;exact ⟨i, false, rfl, hjN, HFIN.out, hB.out⟩
set_option maxRecDepth 100000 in
theorem pahead_any (w : World) (G : Nat -> Prop) (l dp : Nat) (s : ByteArray) (vS : Value) (X : List Sgp) (nx : Nat) (z : Int) (h : PLogW w G l dp s vS X nx) (hl : X.length <= 1073741824) (hr : ∀ a b (ha : a < X.length) (hb : b < X.length), a < b -> X[a].1 < X[b].1) :
  Calls Tryz.prog 68 #[.pointer (some ⟨l, 0, none⟩), .int .i64 z] w fun e w' => ∃ i : Nat, e = .returned (.int .i64 (i : Int)) /\ i <= X.length /\ (∀ k (hk : k < X.length), k < i ↔ (X[k].1 : Int) < z) /\ Below w.heap.size w w' := by
 have c2 : w.cell? ⟨l, 2, none⟩ = some vS := h.cells.cell 2;have HS := hide (psearch_any w 0 X.length vS X z rfl h.row hl hr);obtain ⟨A, c, ev, -⟩ := rowP_form h.row;rw [ev] at c2 HS;obtain ⟨N, hN⟩ : ∃ N, N = X.length := ⟨_, rfl⟩;have hgoal : ∀ i : Nat, i <= N -> i <= X.length := fun i hi => by rw [<- hN]; exact hi
 rw [<- hN] at c2;have HG := hide hgoal;have HNN := hide hN;clear ev h hr hl hgoal hN;go_enter Tryz.func68, Tryz.ntmps68;go_wp2_with fail
 rw [HNN.out];refine HS.out.mono ?_;rintro e w1 ⟨i, q, rfl, h1, h2, h3⟩;have H1 := hide h1;have H2 := hide h2;have H3 := hide h3;clear h1 h2 h3;go_wp2_with fail
 go_ret;exact ⟨i, rfl, H1.out, H2.out, H3.out⟩
structure PRow (w : World) (G : Nat -> Prop) (vS : Value) (X : List Sgp) : Prop where
 row : w.ownsRow 0 119 3 vS X.length (cellsP X)
 each : ∀ x ∈ X, SegE G w x.2.1 x.1 x.2.2.2
 far : X.Pairwise (fun x y => ∀ g, x.2.1.ownBlock = some g -> y.2.1.ownBlock ≠ some g)
 mine : ∀ g, vS.ownBlock = some g -> G g
theorem PLogW.prow {vS : Value} {X : List Sgp} {nx : Nat} (h : PLogW w G l dp s vS X nx) : PRow w G vS X := ⟨h.row, h.each, h.far, h.mine⟩
theorem PRow.log {vS : Value} {X : List Sgp} {nx : Nat} (h : PRow w G vS X) (hb : Blk w 0 114 l [.pointer (some ⟨dp, 0, none⟩), .string s, vS, .int .i64 (nx : Int)]) (ho : G l) (hl : ∀ g, G g -> g < w.heap.size) : PLogW w G l dp s vS X nx := ⟨hb, h.row, h.each, h.far, ho, h.mine, hl⟩
theorem PRow.mono {vS : Value} {X : List Sgp} (h : PRow w G vS X) (hG : ∀ g, g < w.heap.size -> G g -> G' g) : PRow w G' vS X :=
 ⟨h.row, fun x hx => (h.each x hx).mono hG, h.far, fun g hg => hG g (World.ownsRow.lt h.row g hg).2 (h.mine g hg)⟩
theorem PRow.turn {S : Nat -> Prop} {vS : Value} {X : List Sgp} (h : PRow w G vS X) (t : Turn S w w') (hS : ∀ g, G g -> ¬ S g) : PRow w' G vS X :=
 ⟨ownsRow_turn h.row t (fun g hg => hS g (h.mine g hg)), fun x hx => (h.each x hx).turn t (fun g hg => hS g ((h.each x hx).own g hg)) (fun g _ hg => hS g hg), h.far, h.mine⟩
theorem PRow.below {vS : Value} {X : List Sgp} (h : PRow w G vS X) (k : Below w.heap.size w w') : PRow w' G vS X := h.turn (S := fun _ => False) (Turn.of_below _ k) (fun _ _ => id)
theorem SegE.off {S : Nat -> Prop} {v : Value} {f : Nat} {es : List (List Nat)} (h : SegE G w v f es) (t : Turn S w w')
  (hS : ∀ q, S q -> ∃ cur T fr, w.heap[q]? = some (.cells cur T fr) /\ T ≠ 121 /\ T ≠ 5) : SegE G w' v f es := by
 have hE : ∃ n2 l2, w.ownsRow 0 121 2 v n2 l2 := by obtain ⟨us, _, h2, _⟩ := h; exact ⟨_, _, h2⟩
 obtain ⟨n2, l2, hE⟩ := hE;refine h.turn t (fun q hq e => ?_) (fun q hq _ e => ?_)
 ·obtain ⟨cur, hc⟩ := row_typed hE hq;obtain ⟨cur2, T, fr, h3, h4, _⟩ := hS q e;rw [hc] at h3;simp only [Option.some.injEq, Obj.cells.injEq] at h3;exact h4 h3.2.1.symm
 ·obtain ⟨cur, fr, hc⟩ := hq;obtain ⟨cur2, T, fr2, h3, _, h4⟩ := hS q e;rw [hc] at h3;simp only [Option.some.injEq, Obj.cells.injEq] at h3;exact h4 h3.2.1.symm
theorem PRow.off {S : Nat -> Prop} {vS : Value} {X : List Sgp} (h : PRow w G vS X) (t : Turn S w w')
  (hS : ∀ q, S q -> ∃ cur T fr, w.heap[q]? = some (.cells cur T fr) /\ T ≠ 119 /\ T ≠ 121 /\ T ≠ 5) : PRow w' G vS X := by
 refine ⟨ownsRow_turn h.row t (fun q hq e => ?_), fun x hx => (h.each x hx).off t (fun q hq => ?_), h.far, h.mine⟩
 ·obtain ⟨cur, hc⟩ := row_typed h.row hq;obtain ⟨cur2, T, fr, h3, h4, _⟩ := hS q e;rw [hc] at h3;simp only [Option.some.injEq, Obj.cells.injEq] at h3;exact h4 h3.2.1.symm
 ·obtain ⟨cur2, T, fr, h3, _, h4⟩ := hS q hq;exact ⟨cur2, T, fr, h3, h4⟩
theorem blk_off {vs : List Value} (h : Blk w 0 114 l vs) : ∃ cur T fr, w.heap[l]? = some (Obj.cells cur T fr) /\ T ≠ 119 /\ T ≠ 121 /\ T ≠ 5 := by
 obtain ⟨_, cur, h2, _⟩ := h;exact ⟨cur, _, _, h2, by decide, by decide, by decide⟩
theorem ownsRow_seg {vS : Value} {X : List Sgp} (h : w.ownsRow 0 119 3 vS X.length (cellsP X)) : ∀ q, some q = vS.ownBlock -> ∃ cur T fr, w.heap[q]? = some (Obj.cells cur T fr) /\ T ≠ 121 /\ T ≠ 5 := fun q hq => by
 obtain ⟨cur, hc⟩ := row_typed h hq.symm;exact ⟨cur, _, _, hc, by decide, by decide⟩
theorem PRow.push {vS v' ve : Value} {X : List Sgp} {f : Nat} {b : Bool} {es : List (List Nat)} (h : PRow w G vS X) (hr : w'.ownsRow 0 119 3 v' (X.length + 1) (cellsP X ++ [.int .i64 (f : Int), ve, .bool b]))
  (g : w.grownBy w' vS.ownBlock) (hv : v'.ownBlock = vS.ownBlock \/ v'.ownBlock = some w.heap.size) (hE : SegE G w ve f es) (hfar : ∀ y ∈ X, ∀ q, y.2.1.ownBlock = some q -> ve.ownBlock ≠ some q) :
  PRow w' (fun q => G q \/ q = w.heap.size) v' (X ++ [(f, ve, b, es)]) := by
 have t : Turn (fun k => some k = vS.ownBlock) w w' := Turn.of_grown g;have hS := ownsRow_seg h.row;refine ⟨?_, fun x hx => ?_, ?_, fun q hq => ?_⟩
 ·rw [cellsP_append, List.length_append];exact hr
 ·rcases List.mem_append.1 hx with hx | hx
  ·exact ((h.each x hx).off t hS).mono (fun _ _ => .inl)
  ·have e : x = (f, ve, b, es) := by simpa using hx
   subst e;exact (hE.off t hS).mono (fun _ _ => .inl)
 ·refine List.pairwise_append.2 ⟨h.far, by simp, fun x hx y hy q hq e => ?_⟩;have e2 : y = (f, ve, b, es) := by simpa using hy
  subst e2;exact hfar x hx q hq e
 ·rcases hv with e | e
  ·exact .inl (h.mine q (by rw [<- e]; exact hq))
  ·rw [e] at hq;exact .inr (Option.some.inj hq).symm
theorem PRow.old {vS : Value} {X : List Sgp} (h : PRow w G vS X) (hr : w'.ownsRow 0 119 3 vS X.length (cellsP X)) (g : w.grownBy w' vS.ownBlock) : PRow w' G vS X :=
 ⟨hr, fun x hx => (h.each x hx).off (Turn.of_grown g) (ownsRow_seg h.row), h.far, h.mine⟩
theorem SegE.one {v : Value} {f : Nat} {es : List (List Nat)} (h : SegE G w v f es) : v.oneCell' = true := by
 obtain ⟨A, c, rfl, _⟩ := h.form
 rfl
theorem Tryz.info_sgm : (Tryz.prog.info? 119).map (fun i => (i.zero, i.size, i.bytes)) = some (some (.agg #[.int .i64 0, .slice none 0 0, .bool false]), 3, 40) := by kernel_rfl
theorem step_append_sgm {ops : Array Oper} {o : Oper} {a : Act} {K : Act -> World -> Prop} {Q : Exit -> Act -> World -> Prop} {E : Prop} (hgd : o.guard = none) (s x : Operand)
  (ho : o.op = .call { callee := .builtin .append, args := #[s, x], argTypes := #[112, 112] })
  (G : Nat -> Prop) (vS : Value) (X : List Sgp) (hs : a.eval s = vS) (hrow : PRow w G vS X)
  (b f : Nat) (ve : Value) (fr : Bool) (es : List (List Nat)) (hx : a.eval x = .slice (some ⟨b, 0, none⟩) 1 1) (h0 : w.cell? ⟨b, 0, none⟩ = some (.int .i64 (f : Int))) (h1 : w.cell? ⟨b, 1, none⟩ = some ve) (h2 : w.cell? ⟨b, 2, none⟩ = some (.bool fr))
  (hE : SegE G w ve f es) (hfar : ∀ y ∈ X, ∀ q, y.2.1.ownBlock = some q -> ve.ownBlock ≠ some q) (hlen : X.length + 1 <= 1099511627776)
  (h : ∀ v' w', PRow w' (fun q => G q \/ q = w.heap.size) v' (X ++ [(f, ve, fr, es)]) -> PRow w' G vS X -> w.grownBy w' vS.ownBlock -> (v'.ownBlock = vS.ownBlock \/ v'.ownBlock = some w.heap.size) -> K (a.put o.dst v') w') : if Region.wanted o (yielded ops a.tmps) = true then Oper.wp Tryz.prog o a w K Q else E := by
 have hw : Region.wanted o (yielded ops a.tmps) = true := by simp [Region.wanted, hgd]
 rw [if_pos hw];obtain ⟨i0, hi, hz0, hz1, hz2⟩ := info_parts Tryz.info_sgm;have hnews : ∀ j z, [Value.int .i64 (f : Int), ve, .bool fr][j]? = some z -> w.cell? ((⟨b, 0, none⟩ : Addr).add j) = some z := fun j z hj => by
  match j, hj with
  | 0, hj => simp at hj; subst hj; simpa [Addr.add] using h0
  | 1, hj => simp at hj; subst hj; simpa [Addr.add] using h1
  | 2, hj => simp at hj; subst hj; simpa [Addr.add] using h2
 have hone : ∀ z ∈ [Value.int .i64 (f : Int), ve, .bool fr], z.oneCell' = true := fun z hz => by
  simp at hz;rcases hz with rfl | rfl | rfl
  ·rfl
  ·exact hE.one
  ·rfl
 obtain ⟨v', w', hr, g1, g2, _, g4⟩ := run_append_own_at (P := Tryz.prog) w 0 112 o.type 119 i0 _ 3 40 Tryz.underlying112 hi hz0 hz1 hz2 rfl (by decide) vS _ _ hrow.row ⟨b, 0, none⟩ 1 1 _ rfl hnews hone (by unfold maxLen; omega) (by omega) (Nat.zero_le _);have g6 := append_old 0 112 o.type 119 i0 _ 3 40 Tryz.underlying112 hi hz0 hz1 hz2 (by decide) vS _ _ hrow.row ⟨b, 0, none⟩ 1 1 _ rfl hnews hone (by unfold maxLen; omega) (by omega) hr;unfold Oper.wp execOp;simp only [ho, resolve, invoke, builtin, Sem.run_bind, Sem.run_pure, Result.andThen_ok, List.map_toArray, List.map_cons, List.map_nil, hs, hx, hr];exact h v' w' (hrow.push g1 g2 g4 hE hfar) (hrow.old g6 g2) g2 g4
theorem cellsP_last (Y : List Sgp) (f : Nat) (v v' : Value) (b b' : Bool) (es es' : List (List Nat)) : ((cellsP (Y ++ [(f, v, b, es)])).set (Y.length * 3 + 1) v').set (Y.length * 3 + 2) (.bool b') = cellsP (Y ++ [(f, v', b', es')]) := by
 rw [cellsP_append, cellsP_append];have hl := cellsP_length Y;rw [List.set_append_right _ _ (by omega), List.set_append_right _ _ (by omega), hl];rw [show Y.length * 3 + 1 - Y.length * 3 = 1 by omega, show Y.length * 3 + 2 - Y.length * 3 = 2 by omega]
 rfl
theorem rowP_last {v ve : Value} {Y : List Sgp} {f : Nat} {b : Bool} {es : List (List Nat)} (h : w.ownsRow B 119 3 v (Y ++ [(f, ve, b, es)]).length (cellsP (Y ++ [(f, ve, b, es)]))) (hk : Y.length = k) :
  ∃ g c, v = .slice (some ⟨g, 0, none⟩) (k + 1) c /\ k + 1 <= c /\ c <= 9223372036854775807 /\ g < w.heap.size /\ w.cell? ⟨g, k * 3, none⟩ = some (.int .i64 (f : Int)) /\ w.cell? ⟨g, k * 3 + 1, none⟩ = some ve /\ w.cell? ⟨g, k * 3 + 2, none⟩ = some (.bool b) /\ ∀ j, w.frozen? ⟨g, j, none⟩ = false := by
 subst hk;have hl : (Y ++ [(f, ve, b, es)]).length = Y.length + 1 := by simp
 have hx : (Y ++ [(f, ve, b, es)])[Y.length]'(by omega) = (f, ve, b, es) := by simp
 obtain ⟨A, c, e, h1, h2, -, h3⟩ := rowP_form h;obtain ⟨g, rfl, -, hg, y0, y1, y2, y3⟩ := h3 Y.length (by omega);rw [hx] at y0 y1 y2;rw [hl] at e h1;exact ⟨g, c, e, h1, h2, hg, y0, y1, y2, y3⟩
theorem PRow.laid {f : Nat} {Y : List Sgp} {vE v' : Value} {b b' : Bool} {es es' : List (List Nat)} (h : PRow w G (.slice (some ⟨g, 0, none⟩) n c) (Y ++ [(f, vE, b, es)]))
  (t : Turn (fun q => some q = vE.ownBlock) w w1) (hE : SegE G' w1 v' f es') (hG : ∀ q, q < w.heap.size -> G q -> G' q) (hv : ∀ q, v'.ownBlock = some q -> vE.ownBlock = some q \/ w.heap.size <= q) :
  PRow ((w1.setCell ⟨g, Y.length * 3 + 1, none⟩ v').setCell ⟨g, Y.length * 3 + 2, none⟩ (.bool b')) G' (.slice (some ⟨g, 0, none⟩) n c) (Y ++ [(f, v', b', es')]) := by
 have hseg : ∀ q, some q = vE.ownBlock -> ∃ cur fr, w.heap[q]? = some (Obj.cells cur 121 fr) := fun q hq => by
  have hE0 := h.each (f, vE, b, es) (by simp);obtain ⟨us, _, h2, _⟩ := hE0;obtain ⟨cur, hc⟩ := row_typed h2 hq.symm;exact ⟨cur, _, hc⟩
 have hn : n = Y.length + 1 := by
  obtain ⟨A0, c0, e0⟩ := row_form h.row;cases e0
  simp
 have hr1 : w1.ownsRow 0 119 3 (.slice (some ⟨g, 0, none⟩) n c) (Y ++ [(f, vE, b, es)]).length (cellsP (Y ++ [(f, vE, b, es)])) := ownsRow_turn h.row t (fun q hq e => by
  obtain ⟨cur, hc⟩ := row_typed h.row hq;obtain ⟨cur2, fr2, hc2⟩ := hseg q e;rw [hc] at hc2;simp only [Option.some.injEq, Obj.cells.injEq] at hc2;exact absurd hc2.2.1 (by decide))
 have hgt : ∃ cur, w1.heap[g]? = some (Obj.cells cur 119 (0, 0)) := row_typed hr1 rfl;have t2 : Turn (fun q => q = g) w1 ((w1.setCell ⟨g, Y.length * 3 + 1, none⟩ v').setCell ⟨g, Y.length * 3 + 2, none⟩ (.bool b')) :=
  ((Turn.of_grown (grown_set w1 g _ v')).mono (fun q e => Option.some.inj e)).trans ((Turn.of_grown (grown_set _ g _ (.bool b'))).mono (fun q e => Option.some.inj e))
 have hS2 : ∀ q, q = g -> ∃ cur T fr, w1.heap[q]? = some (Obj.cells cur T fr) /\ T ≠ 121 /\ T ≠ 5 := fun q e => by
  subst e;obtain ⟨cur, hc⟩ := hgt;exact ⟨cur, _, _, hc, by decide, by decide⟩
 have hfar := List.pairwise_append.1 h.far;refine ⟨?_, fun x hx => ?_, ?_, fun q hq => hG q (World.ownsRow.lt h.row q hq).2 (h.mine q hq)⟩
 ·have hl : (Y ++ [(f, v', b', es')]).length = (Y ++ [(f, vE, b, es)]).length := by simp
  rw [hl, <- cellsP_last Y f vE v' b b' es es'];rw [hn] at hr1 ⊢;rw [List.length_append] at hr1 ⊢;exact (World.ownsRow.stored (World.ownsRow.stored hr1 (Y.length * 3 + 1) v').1 (Y.length * 3 + 2) (.bool b')).1
 ·rcases List.mem_append.1 hx with hx | hx
  ·have hxE := h.each x (by simp [hx]);refine ((hxE.mono hG).turn t (fun q hq e => ?_) (fun q hq _ e => ?_)).off t2 hS2
   ·exact hfar.2.2 x hx (f, vE, b, es) (by simp) q hq e.symm
   ·obtain ⟨cur, fr, hc⟩ := hq;obtain ⟨cur2, fr2, hc2⟩ := hseg q e;rw [hc] at hc2;simp only [Option.some.injEq, Obj.cells.injEq] at hc2;exact absurd hc2.2.1 (by decide)
  ·have e : x = (f, v', b', es') := by simpa using hx
   subst e;exact hE.off t2 hS2
 ·refine List.pairwise_append.2 ⟨hfar.1, by simp, fun x hx y hy q hq e => ?_⟩;have e2 : y = (f, v', b', es') := by simpa using hy
  subst e2;rcases hv q e with e3 | e3
  ·exact hfar.2.2 x hx (f, vE, b, es) (by simp) q hq e3
  ·have hxE := h.each x (by simp [hx]);obtain ⟨us, _, h2, _⟩ := hxE;have := (World.ownsRow.lt h2 q hq).2;omega
theorem OwnN.cells10 {v : Value} {zs : List Int} (h : OwnN w B v zs) : ∃ A c, v = .slice A zs.length c /\ zs.length <= c /\ c <= 9223372036854775807 /\ ∀ i (hi : i < zs.length), ∃ g, A = some ⟨g, 0, none⟩ /\ B <= g /\ g < w.heap.size /\ w.cell? ⟨g, i, none⟩ = some (.int .i64 zs[i]) := by
 unfold OwnN at h;rcases h.2 with ⟨rfl, hn⟩ | ⟨g, cap, cur, rfl, hb, hg, h1, h2, _⟩
 ·exact ⟨none, 0, by rw [hn], by omega, by decide, fun i hi => by omega⟩
 ·refine ⟨_, cap, rfl, h1, by unfold maxLen at h2; omega, fun i hi => ⟨g, rfl, hb, heap_lt hg, ?_⟩⟩;rw [World.ownsRow.cellAt h i (by omega)];simp [hi]
def removesL (k : Str) (l : List Nat) (L : DiskL) : DiskL := l.foldl (fun L n => (remL (nameL k n) L).1) L
set_option maxRecDepth 100000 in
set_option maxHeartbeats 6400000 in
theorem premove_any (w : World) (F G : Nat -> Prop) (dp l room : Nat) (s : ByteArray) (P : PLog) (L : DiskL) (u : Value) (B : Nat) (fs : List Nat) (h : PBoth w F G dp l room s P L) (hs : s.size <= 64) (ho : OwnN w B u (fs.map fun n : Nat => (n : Int))) (hoF : ∀ g, u.ownBlock = some g -> ¬ F g) (hf : ∀ n ∈ fs, n <= 1099511627776) (hfl : fs.length <= 1073741824) :
  Calls Tryz.prog 67 #[.pointer (some ⟨l, 0, none⟩), u] w fun e w' => e = .returned (.tuple #[]) /\ ∃ F', PBoth w' F' G dp l room s P (removesL s.data.toList fs L) /\ Next F w F' w' := by
 obtain ⟨vS, X, eP, hP⟩ := h.log;have c0 : w.cell? ⟨l, 0, none⟩ = some (.pointer (some ⟨dp, 0, none⟩)) := hP.cells.cell 0;have c1 : w.cell? ⟨l, 1, none⟩ = some (.string s) := hP.cells.cell 1;have hll := cell_lt c0;have hnl : Hid (¬ F l) := hide (fun hk => h.apart l hk hP.own);obtain ⟨A, c, eD, hlc, hc63, hcell⟩ := ho.cells10;subst eD;obtain ⟨N, hN⟩ : ∃ N, N = fs.length := ⟨_, rfl⟩;have hlen : (fs.map fun n : Nat => (n : Int)).length = N := by rw [List.length_map, hN]
 rw [hlen] at hlc ho hoF ⊢;have HN := hide hN;have HC := hide hcell;have HH := hide h;have HFF := hide hf;have HOF := hide hoF;have hN30 : N <= 1073741824 := by rw [hN]; exact hfl
 clear hcell h hf hN hP eP ho hfl;go_enter Tryz.func67, Tryz.ntmps67;go_wp2_with fail
 go_loopw [8] (fun ix wr => ∃ (j : Nat) (F' : Nat -> Prop), j <= N /\ ix = .int .i64 (j : Int) /\ Hid (PBoth wr F' G dp l room s P (removesL s.data.toList (fs.take j) L)) /\ Hid (Next F w F' wr)) (fun ix _ => N - (intOf ix).toNat)
 case atStart => exact ⟨0, F, Nat.zero_le _, rfl, HH.out, Next.refl _ _⟩
 case round =>
  obtain ⟨j, F', hj, rfl, hP, hX⟩ := hrel;have k0 := (hX.out.far (i := 0) hll hnl.out).trans c0;have k1 := (hX.out.far (i := 1) hll hnl.out).trans c1;by_cases hlt : j < N
  ·have hjf : j < fs.length := by have := HN.out; omega
   obtain ⟨g, rfl, _, hgl, q⟩ := HC.out j (by rw [List.length_map]; exact hjf);have hng := HOF.out g rfl;obtain ⟨n, hn⟩ : ∃ n, n = fs[j] := ⟨_, rfl⟩;have q : w.cell? ⟨g, j, none⟩ = some (.int .i64 (n : Int)) := by rw [q, hn]; simp
   have k5 := (hX.out.far (i := j) hgl hng).trans q;have hn40 : n <= 1099511627776 := by rw [hn]; exact HFF.out _ (List.getElem_mem hjf)
   have HST : Hid (removesL s.data.toList (fs.take (j + 1)) L = (remL (nameL s.data.toList n) (removesL s.data.toList (fs.take j) L)).1) := hide (by
    unfold removesL;rw [List.take_succ_eq_append_getElem hjf, List.foldl_append, hn]
    rfl)
   have hs64 : s.size <= 1099511627776 := by omega
   have k1d : wr.drew.cell? ⟨l, 1, none⟩ = some (.string s) := k1;clear hn q;go_wp2_with fail
   go_region_held3 (fun W' => W'.cell? ⟨l, 0, none⟩ = some (.pointer (some ⟨dp, 0, none⟩))) (go_keep)
    (first
     | (go_at_call 71; refine (pname_any l s n _ k1d hs64 hn40).mono ?_; rintro e w2 ⟨t, rfl, htl, kn⟩; have kn2 : Below wr.heap.size wr w2 := (by exact ⟨kn.os, kn.tape, kn.output, kn.size, kn.block⟩); have D2 := hide (hP.out.disk.below kn2); have L2 := hide (hP.out.log.below kn2); have N2 := hide (hX.out.trans (Next.of_below F' kn2)); have x0 := (N2.out.far (i := 0) hll hnl.out).trans c0; have TL := hide htl; have TS : t.size <= 1099511627776 := (by have h1 : t.data.toList.length = t.size := rfl; have h2 := name_len s.data.toList n; have h3 : s.data.toList.length = s.size := rfl; rw [htl, h2, h3] at h1; omega); clear htl kn kn2)
     | (go_at_call 91; refine (remove_any F' dp room _ t w2 D2.out TS).mono ?_; rintro e w3 ⟨rfl, F3, d3, n3⟩; rw [TL.out] at d3 ⊢; have N3 := hide (N2.out.trans n3); have y0 := (N3.out.far (i := 0) hll hnl.out).trans c0; have D3 := hide d3; have M3 := hide n3; clear d3 n3))
   go_wp2_with fail
   go_roundw
   case rel =>
    have hap : ∀ k, F' k -> ¬ G k := hP.out.apart;have hlow := L2.out.low;refine ⟨j + 1, F3, by omega, by go_num, ?_, N3.out⟩;unfold Hid;rw [HST.out];exact ⟨D3.out, L2.out.turn M3.out.turn (fun q hq hd => hap q hd hq), fun q hq hg => (M3.out.foot q hq).elim (fun h => hap q h hg) (fun h => by have := hlow q hg; omega)⟩
   case measure => simp [intOf]; omega
  ·obtain rfl : j = N := by omega
   have hP2 := hP.out;rw [List.take_of_length_le (by have := HN.out; omega)] at hP2;have P2 := hide hP2;clear hP2;go_wp2_with fail
   go_end0;exact ⟨rfl, F', P2.out, hX.out⟩
end Go.Proofs.YtedlibkkeegnaaaGreat
