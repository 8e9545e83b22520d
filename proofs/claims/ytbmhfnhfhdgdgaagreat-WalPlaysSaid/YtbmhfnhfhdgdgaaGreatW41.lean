/- The document's Cut. Condition: numbers of eight digits, fewer than 2 to the 30 segments, entries of at most 1048566 bytes, fewer than 2 to the 40 bytes. -/
import Derived.Test.YtbmhfnhfhdgdgaaGreatW40
namespace Go.Proofs.YtbmhfnhfhdgdgaaGreat
open Go.RowKit Go.Maps
variable {w : World} {n c : Nat}
theorem RowsE.take {E : Nat -> Prop} {A : Option Addr} {xss : List (List Nat)} (h : RowsE E w (.slice A n c) xss) (m : Nat) (hm : m <= n) : RowsE E w (.slice A m c) (xss.take m) := by
 obtain ⟨A0, c0, us, e, h1, h2, h3, h4, h5, h6, h7⟩ := h;cases e
 have hl : (xss.take m).length = m := by rw [List.length_take]; omega
 have hob : ∀ k, (Value.slice A k c).ownBlock = (Value.slice A xss.length c).ownBlock := fun k => by rcases A with _ | a <;> rfl
 have hlu : (us.take m).length = m := by rw [List.length_take]; omega
 refine ⟨A, c, us.take m, by rw [hl], h1, by omega, h3, ?_, by rw [hlu, hl], fun hne g hg => h6 (fun e => hne (by rw [e]; simp)) g (by rw [<- hob m]; exact hg), fun i hi => ?_⟩
 ·intro hne;obtain ⟨b, off, e, hc⟩ := h4 (fun e => hne (by rw [e]; simp));refine ⟨b, off, e, fun k hk => ?_⟩;have hk2 : k < us.length := by rw [List.length_take] at hk; omega
  rw [hc k hk2];rw [hlu] at hk;simp only [List.getD_eq_getElem?_getD, List.getElem?_take, if_pos hk]
 ·rw [hlu] at hi;have := h7 i (by omega);simpa only [List.getD_eq_getElem?_getD, List.getElem?_take, if_pos hi] using this
theorem recs_next (i : Nat) (es : List (List Nat)) (d : Nat) (hd : d < es.length) : (recsL i (es.take (d + 1))).length = (recsL i (es.take d)).length + (recL (i + d) (es.getD d [])).length := by
 have hl : (es.take d).length = d := by rw [List.length_take]; omega
 have hg : es.getD d [] = es[d] := by simp [hd]
 rw [List.take_succ_eq_append_getElem hd, recs_app, List.length_append, hl, hg];simp [recsL]
set_option maxRecDepth 100000 in
set_option maxHeartbeats 6400000 in
theorem rlogcut_bad (w : World) (G : Nat -> Prop) (l dp : Nat) (s : ByteArray) (M : LogL) (z : Int) (h : RLogAt w G l dp s M) (hn : M.next <= 1099511627776) (hz : z < (firstL M : Int) \/ (M.next : Int) < z) :
  Calls Tryz.prog 45 #[.pointer (some ⟨l, 0, none⟩), .int .i64 z] w fun e w' => e = .returned (.int .i64 1) /\ ∃ d, w' = w.drewN d := by
 have HB := hide (rbounds_any w G l dp s M h hn);obtain ⟨f, hf⟩ : ∃ f, f = firstL M := ⟨_, rfl⟩;obtain ⟨nx, hnx⟩ : ∃ nx, nx = M.next := ⟨_, rfl⟩;rw [<- hf, <- hnx] at HB;rw [<- hf, <- hnx] at hz;clear hf hnx hn h;go_enter Tryz.func45, Tryz.ntmps45;go_wp2_with fail
 refine HB.out.mono ?_;rintro e w1 ⟨rfl, d, rfl⟩;by_cases h1 : z < (f : Int)
 ·go_wp2_with fail
  go_ret;exact ⟨rfl, d, rfl⟩
 ·have h2 := hz.resolve_left h1;clear hz;go_wp2_with fail
  go_ret;exact ⟨rfl, d, rfl⟩
set_option maxRecDepth 100000 in
set_option maxHeartbeats 6400000 in
theorem rlogcut_ok (w : World) (Gd G : Nat -> Prop) (dp l room : Nat) (s : ByteArray) (M : LogL) (L : DiskL) (i : Nat) (h : RBoth w Gd G dp l room s M L) (hs : s.size <= 64) (hn : M.next <= 1099511627776) (h1 : firstL M <= i) (h2 : i <= M.next)
  (hsz : ∀ x ∈ M.segs, x.1 <= 1099511627776 /\ x.2.length <= 1099511627776 /\ (recsL x.1 x.2).length <= 1099511627776 /\ ∀ p ∈ x.2, p.length <= 1048566 /\ ∀ b ∈ p, b < 256) (hsl : M.segs.length < 1073741824) :
  Calls Tryz.prog 45 #[.pointer (some ⟨l, 0, none⟩), .int .i64 (i : Int)] w fun e w' => e = .returned (.int .i64 0) /\ ∃ Gd' G', RBoth w' Gd' G' dp l room s (cutW s.data.toList i M L).1 (cutW s.data.toList i M L).2 /\
   Turn (fun k => Gd k \/ G k) w w' /\ (∀ k, Gd' k -> Gd k \/ w.heap.size <= k) /\ (∀ k, G' k -> G k \/ w.heap.size <= k) := by
 have HB := hide (rbounds_any w G l dp s M h.log (by omega));obtain ⟨fm, hfm⟩ : ∃ f, f = firstL M := ⟨_, rfl⟩;rw [<- hfm] at h1 HB;clear hfm;obtain ⟨segs, nx, dy⟩ := M;obtain ⟨hD, ⟨E, vS, vD, X, e, h⟩, hap, hsane⟩ := h;simp only at e h hn h2 hsz hsl HB;obtain ⟨c0, c1, c2, c3, c4⟩ := h.logCells;obtain ⟨A, c, eS, hlc, hc63, hnil, hcell⟩ := h.row.form;subst eS;have hll := cell_lt c0;have hnl : Hid (¬ Gd l) := hide (fun hk => hap l hk h.own);obtain ⟨N, hN⟩ : ∃ N, N = X.length := ⟨_, rfl⟩;have hNl : N < 1073741824 := by rw [hN, <- (by rw [e, List.length_map] : segs.length = X.length)]; exact hsl
 rw [<- hN] at c2 hlc;have hi1 : ((i : Int) < (fm : Int)) = False := eq_false (by omega);have hi2 : ((nx : Int) < (i : Int)) = False := eq_false (by omega);have HN := hide hN;have HC := hide hcell;have HD := hide hD;have HS := hide hsane;have HW := hide h;have HAP := hide hap;have HSZ := hide hsz;have EE := hide e;have HNX := hide hn;have HI := hide h2;clear hD h hap hsane hcell hN e hnil hsz hsl hn h1 h2;go_enter Tryz.func45, Tryz.ntmps45;go_wp2_with fail
 refine HB.out.mono ?_;rintro e1 w1 ⟨rfl, d0, rfl⟩;clear HB;go_wp2_with fail
 go_loopw [7, 8] (fun u7 ix wr => ∃ (j : Nat) (Gd' : Nat -> Prop) (Y : List Sgx) (Lj : DiskL), j <= N /\ ix = .int .i64 (j : Int) /\ Hid (RAt wr Gd' dp room Lj) /\ Hid (Sane room Lj) /\ Hid (Next Gd w Gd' wr) /\ Hid (OwnG wr w.heap.size u7 Y) /\ Hid (∀ g, u7.ownBlock = some g -> ¬ Gd' g) /\ Hid (∀ y ∈ Y, RowsE E w y.2.1 y.2.2) /\ Hid (Y.length <= j) /\
   Hid (segs.filterMap (cutS i) = Y.map (fun x : Sgx => (x.1, x.2.2)) ++ ((X.drop j).map (fun x : Sgx => (x.1, x.2.2))).filterMap (cutS i)) /\ Hid (segs.foldl (cutD1 s.data.toList i) L = ((X.drop j).map (fun x : Sgx => (x.1, x.2.2))).foldl (cutD1 s.data.toList i) Lj)) (fun _ ix _ => N - (intOf ix).toNat)
 case atStart =>
  refine ⟨0, Gd, [], L, Nat.zero_le _, rfl, HD.out.drawn d0, HS.out, (Next.refl Gd w).drewN d0, hide (World.ownsRow_nil _ _ _ _), hide (fun g hg => by cases hg), hide (fun y hy => absurd hy List.not_mem_nil), hide (Nat.zero_le _), ?_, ?_⟩
  ·unfold Hid;rw [EE.out]
   rfl
  ·unfold Hid;rw [EE.out]
   rfl
 case round =>
  obtain ⟨j, Gd', Y, Lj, hj, rfl, hR, hSj, hNx, hO, hOff, hYE, hYl, hF, hFD⟩ := hrel;obtain ⟨W0, hW0⟩ : ∃ Z, Z = wr := ⟨_, rfl⟩;subst hW0;have k0 := (hNx.out.far (i := 0) hll hnl.out).trans c0;have k1 := (hNx.out.far (i := 1) hll hnl.out).trans c1;have k2 := (hNx.out.far (i := 2) hll hnl.out).trans c2;by_cases hlt : j < N
  ·have hjX : j < X.length := by rw [<- HN.out]; exact hlt
   obtain ⟨g, rfl, _, hgl, q0, q1, _⟩ := HC.out j hjX;have hng : Hid (¬ Gd g) := hide (fun hk => HAP.out g hk (HW.out.mineS g rfl));have hrow := HW.out.each X[j] (List.getElem_mem hjX);obtain ⟨A1, cc, ev, hnil1, hlc1, hc1⟩ := hrow.len;have hmem : (X[j].1, X[j].2.2) ∈ segs := by rw [EE.out]; exact List.mem_map.2 ⟨X[j], List.getElem_mem hjX, rfl⟩
   obtain ⟨z1, z2, z3, z4⟩ := HSZ.out _ hmem;simp only at z1 z2 z3 z4;have hst := hF.out;have hsd := hFD.out;rw [List.drop_eq_getElem_cons hjX, List.map_cons, List.filterMap_cons] at hst;rw [List.drop_eq_getElem_cons hjX, List.map_cons, List.foldl_cons] at hsd;obtain ⟨y, hy⟩ : ∃ y, y = X[j] := ⟨_, rfl⟩;rw [<- hy] at q0 q1 z1 z2 z3 z4 hst hsd ev hlc1 hrow;obtain ⟨f, hf⟩ : ∃ f, f = y.1 := ⟨_, rfl⟩;obtain ⟨n, hn⟩ : ∃ n, n = y.2.2.length := ⟨_, rfl⟩;rw [<- hf] at q0 z1 z3 hst hsd;rw [ev] at q1;rw [<- hn] at q1 z2 hlc1;have q0' := (hNx.out.far (i := j * 2) hgl hng.out).trans q0;have q1' := (hNx.out.far (i := j * 2 + 1) hgl hng.out).trans q1;obtain ⟨t, ht⟩ : ∃ t, t = f + n := ⟨_, rfl⟩;have hsum : IntKind.i64.wrap ((f : Int) + (n : Int)) = (t : Int) := by rw [IntKind.wrap_i64]; omega
   have HT := hide ht;have hstA : i <= f -> segs.filterMap (cutS i) = Y.map (fun x : Sgx => (x.1, x.2.2)) ++ (((X.drop (j + 1)).map (fun x : Sgx => (x.1, x.2.2)))).filterMap (cutS i) /\ segs.foldl (cutD1 s.data.toList i) L = (((X.drop (j + 1)).map (fun x : Sgx => (x.1, x.2.2)))).foldl (cutD1 s.data.toList i) (remL (nameL s.data.toList f) Lj).1 := fun h1 => by
    rw [hst, hsd];simp only [cutS, cutD1, if_pos h1];exact ⟨trivial, trivial⟩
   have hstM : ¬ i <= f -> i < t -> ∀ v, segs.filterMap (cutS i) = (Y ++ [((f, v, y.2.2.take (i - f)) : Sgx)]).map (fun x : Sgx => (x.1, x.2.2)) ++ (((X.drop (j + 1)).map (fun x : Sgx => (x.1, x.2.2)))).filterMap (cutS i) /\ segs.foldl (cutD1 s.data.toList i) L = (((X.drop (j + 1)).map (fun x : Sgx => (x.1, x.2.2)))).foldl (cutD1 s.data.toList i) (cutL (nameL s.data.toList f) ((recsL f (y.2.2.take (i - f))).length : Int) Lj).1 := fun h1 h2 v => by
    rw [hst, hsd, List.map_append];have h3 : i < f + y.2.2.length := by omega
    simp only [cutS, cutD1, if_neg h1, if_pos h3];simp
   have hstB : ¬ i <= f -> ¬ i < t -> segs.filterMap (cutS i) = (Y ++ [y]).map (fun x : Sgx => (x.1, x.2.2)) ++ (((X.drop (j + 1)).map (fun x : Sgx => (x.1, x.2.2)))).filterMap (cutS i) /\ segs.foldl (cutD1 s.data.toList i) L = (((X.drop (j + 1)).map (fun x : Sgx => (x.1, x.2.2)))).foldl (cutD1 s.data.toList i) Lj := fun h1 h2 => by
    rw [hst, hsd, List.map_append];have h3 : ¬ i < f + y.2.2.length := by omega
    simp only [cutS, cutD1, if_neg h1, if_neg h3];simp [hf]
   have HSA := hide hstA;have HSM := hide hstM;have HSB := hide hstB;have HF1 := hide hf;have HNN := hide hn;have HRW := hide hrow;have Z1 := hide z1;have Z3 := hide z3;have Z4 := hide z4;have nb := below_alloc W0 (.cells #[.int .i64 (f : Int), .slice A1 n cc] 156);have m0 := cell_two_0d W0 (.int .i64 (f : Int)) (.slice A1 n cc) 156;have m1 := cell_two_1d W0 (.int .i64 (f : Int)) (.slice A1 n cc) 156;have NB := hide nb;have k0' := (nb.cell (p := ⟨l, 0, none⟩) (cell_lt k0)).trans k0;have k1' := (nb.cell (p := ⟨l, 1, none⟩) (cell_lt k1)).trans k1;have k2' := (nb.cell (p := ⟨l, 2, none⟩) (cell_lt k2)).trans k2;have EV := hide ev;clear hy hf hn q0 q1 hst hsd hstA hstM hstB hrow nb hmem ht hF hFD ev z3 z4;by_cases b1 : (i : Int) <= (f : Int)
   ·go_wp2_with fail
    go_region_held3 (fun W' => W'.cell? ⟨l, 0, none⟩ = some (.pointer (some ⟨dp, 0, none⟩)) /\ W'.cell? ⟨l, 1, none⟩ = some (.string s) /\ W'.cell? ⟨W0.heap.size, 0, none⟩ = some (.int .i64 (f : Int))) (go_keep)
     (first
      | (go_at_call 103; refine (rname_any s f _ (by omega) Z1.out).mono ?_; rintro e w2 ⟨t2, rfl, htl, kn⟩; have kn2 : Below (W0.alloc (.cells #[.int .i64 (f : Int), .slice A1 n cc] 156)).heap.size (W0.alloc (.cells #[.int .i64 (f : Int), .slice A1 n cc] 156)) w2 := (by exact ⟨kn.os, kn.tape, kn.output, kn.size, kn.block⟩); have K2 := hide (NB.out.trans (kn2.mono NB.out.size)); have N2 := hide (hNx.out.trans (Next.of_below Gd' K2.out)); have x0 := (N2.out.far (i := 0) hll hnl.out).trans c0; have x1 := (N2.out.far (i := 1) hll hnl.out).trans c1; have x5 : w2.cell? ⟨W0.heap.size, 0, none⟩ = some (.int .i64 (f : Int)) := (by rw [World.cell?_of_block (kn2.block W0.heap.size (by simp))]; exact m0); have X5 := hide x5; have SZ2 := hide kn2.size; have TL := hide htl; have TS : t2.size <= 200 := (by have h1 : t2.data.toList.length = t2.size := rfl; have h2 := name_len s.data.toList f; have h3 : s.data.toList.length = s.size := rfl; rw [htl, h2, h3] at h1; omega); have R2 := hide (hR.out.below K2.out); clear htl kn kn2)
      | (go_at_call 68; refine (rremove_at Gd' dp room Lj t2 w2 R2.out hSj.out).mono ?_; rintro e w3 ⟨rfl, G3, r3, n3⟩; rw [TL.out] at r3 ⊢; have N3 := hide (N2.out.trans n3); have y0 := (N3.out.far (i := 0) hll hnl.out).trans c0; have y1 := (N3.out.far (i := 1) hll hnl.out).trans c1; have hseg : ¬ Gd' W0.heap.size := (fun hq => by have := hR.out.low _ hq; omega); have y5 := (n3.far (b := W0.heap.size) (i := 0) (cell_lt X5.out) hseg).trans X5.out; have R3 := hide r3; have M3 := hide n3; clear r3 n3))
    go_wp2_with fail
    go_roundw
    case rel =>
     have tT : Turn Gd' W0 w3 := (Turn.of_below Gd' K2.out).trans M3.out.turn;have hsz2 : W0.heap.size <= w2.heap.size := K2.out.size;exact ⟨j + 1, G3, Y, _, by omega, by go_num, R3.out, rem_sane10 hSj.out, N3.out, ownsRow_turn hO.out tT hOff.out, (fun g hg h3 => (M3.out.foot g h3).elim (hOff.out g hg) (fun h4 => by have := (World.ownsRow.lt hO.out g hg).2; omega)), hYE.out, Nat.le_succ_of_le hYl.out, (HSA.out (by omega)).1, (HSA.out (by omega)).2⟩
    case measure => simp [intOf]; omega
   ·have b1' : (f : Int) < (i : Int) := by omega
    by_cases b2 : (i : Int) < (t : Int)
    ·have hrw0 := HRW.out.turn hNx.out.turn (fun q hq hd => HAP.out q hd (HW.out.mineE q hq));rw [EV.out, <- HNN.out] at hrw0;have HR2 := hide (hrw0.turn (S := fun _ => False) (Turn.of_below _ NB.out) (fun _ _ => id));have be := hide (Blk.new W0 (B := 0) 156 #[.int .i64 (f : Int), .slice A1 n cc] (Nat.zero_le _));clear hrw0;go_wp2_with fail
     go_loopw [10, 11] (fun vn vj wi => ∃ (q r : Nat), f <= q /\ q <= i /\ vj = .int .i64 (q : Int) /\ vn = .int .i64 (r : Int) /\ Hid (r = (recsL f (y.2.2.take (q - f))).length) /\ Hid (Below (W0.alloc (.cells #[.int .i64 (f : Int), .slice A1 n cc] 156)).heap.size (W0.alloc (.cells #[.int .i64 (f : Int), .slice A1 n cc] 156)) wi)) (fun _ vj _ => i - (intOf vj).toNat)
     case atStart => exact ⟨f, 0, Nat.le_refl _, by omega, rfl, rfl, hide (by simp [recsL]), hide (Below.refl _ _)⟩
     case round =>
      obtain ⟨q, r, hq1, hq2, rfl, rfl, hr, hB⟩ := hrel;have x0 := (hB.out.cell (p := ⟨W0.heap.size, 0, none⟩) (cell_lt m0)).trans m0;have x1 := (hB.out.cell (p := ⟨W0.heap.size, 1, none⟩) (cell_lt m1)).trans m1;by_cases hqi : q < i
      ·obtain ⟨d, hd⟩ : ∃ d, d = q - f := ⟨_, rfl⟩;have hdn : d < n := by have := HT.out; omega
       have hsub : IntKind.i64.wrap ((q : Int) - (f : Int)) = (d : Int) := by rw [IntKind.wrap_i64]; have := Z1.out; have := HNX.out; have := HI.out; omega
       obtain ⟨b, off, A2, c5, rfl, y0, hrE, _, _⟩ := HR2.out.at_ d hdn;have y0' := (hB.out.cell (p := ⟨b, off + d, none⟩) (cell_lt y0)).trans y0;obtain ⟨p, hp⟩ : ∃ p, p = y.2.2.getD d [] := ⟨_, rfl⟩;rw [<- hp] at y0' hrE;obtain ⟨m, hm⟩ : ∃ m, m = p.length := ⟨_, rfl⟩;rw [<- hm] at y0' hrE;have hdl : d < y.2.2.length := by rw [<- HNN.out]; exact hdn
       obtain ⟨hpl, hpb⟩ := Z4.out p (by rw [hp]; exact getD_mem hdl);rw [<- hm] at hpl;have RE := hide (hrE.1.keep hB.out);obtain ⟨k, hk⟩ : ∃ k, k = (recL q p).length := ⟨_, rfl⟩;have hnx := recs_next f y.2.2 d hdl;rw [show f + d = q by omega, <- hp, <- hk] at hnx;obtain ⟨r2, hr2⟩ : ∃ r2, r2 = r + k := ⟨_, rfl⟩;have HR3 : Hid (r2 = (recsL f (y.2.2.take (q + 1 - f))).length) := hide (by rw [show q + 1 - f = d + 1 by omega, hnx, hr2, hr.out, hd]);have hr2b : r2 <= 1099511627776 := by
        have h1 := recs_mono f y.2.2 (show d + 1 <= y.2.2.length by omega);rw [List.take_length] at h1;have h2 := Z3.out;rw [hr2, hr.out, <- hd, <- hnx];omega
       have hwr : IntKind.i64.wrap ((r : Int) + (k : Int)) = (r2 : Int) := by rw [IntKind.wrap_i64]; omega
       have hq9 : q <= 1099511627776 := by have := HNX.out; have := HI.out; omega
       have HM := hide hm.symm;have HPB := hide hpb;have HPL := hide hpl;have HK := hide hk;clear hm hpb hpl hk hnx hr2 hrE y0 hp hd hdl hr;go_wp2_with fail
       refine (rrecord_wide q A2 m c5 p wr hq9 RE.out HM.out HPB.out HPL.out).mono ?_;rintro e w4 ⟨v4, rfl, o4, k4⟩;obtain ⟨A4, c4, rfl, -, -, -⟩ := o4.isB.form HK.out.symm;have K4 := hide (below_step hB.out k4);clear o4 k4;go_wp2_with fail
       go_roundw
       case rel => exact ⟨q + 1, r2, by omega, by omega, by go_num, by go_num, HR3.out, K4.out⟩
       case measure => simp [intOf]; omega
      ·have hqe : i = q := by omega
       subst hqe;obtain ⟨d, hd⟩ : ∃ d, d = i - f := ⟨_, rfl⟩;have hdn : d < n := by have := HT.out; omega
       have hsub : IntKind.i64.wrap ((i : Int) - (f : Int)) = (d : Int) := by rw [IntKind.wrap_i64]; have := Z1.out; have := HNX.out; have := HI.out; omega
       have hdc : (d : Int) <= (cc : Int) := by omega
       have hd0 : (0 : Int) <= (d : Int) := by omega
       have HD2 := hide hd;have K0 := hide (NB.out.trans (hB.out.mono NB.out.size));have N0 := hide (hNx.out.trans (Next.of_below Gd' K0.out));have R0 := hide (hR.out.below K0.out);have bw := hide (be.out.turn (Turn.of_below (fun _ => False) hB.out) (fun h => h));have l0 := (N0.out.far (i := 0) hll hnl.out).trans c0;have l1 := (N0.out.far (i := 1) hll hnl.out).trans c1;have hr0 := hr;rw [<- hd] at hr0;clear hd;go_wp2_with fail
       go_region_held3 (fun W' => W'.cell? ⟨l, 0, none⟩ = some (.pointer (some ⟨dp, 0, none⟩)) /\ W'.cell? ⟨l, 1, none⟩ = some (.string s) /\ W'.cell? ⟨W0.heap.size, 0, none⟩ = some (.int .i64 (f : Int))) (go_keep)
        (first
         | (go_at_call 103; refine (rname_any s f _ (by omega) Z1.out).mono ?_; rintro e w2 ⟨t2, rfl, htl, kn⟩; have kn2 : Below wr.heap.size wr w2 := (by exact ⟨kn.os, kn.tape, kn.output, kn.size, kn.block⟩); have K2 := hide (K0.out.trans (kn2.mono K0.out.size)); have N2 := hide (hNx.out.trans (Next.of_below Gd' K2.out)); have y0 := (N2.out.far (i := 0) hll hnl.out).trans c0; have y1 := (N2.out.far (i := 1) hll hnl.out).trans c1; have b2 := hide (bw.out.turn (Turn.of_below (fun _ => False) kn2) (fun h => h)); have y5 := b2.out.cell 0; have TL := hide htl; have TS : t2.size <= 200 := (by have h1 : t2.data.toList.length = t2.size := rfl; have h2 := name_len s.data.toList f; have h3 : s.data.toList.length = s.size := rfl; rw [htl, h2, h3] at h1; omega); have R2 := hide (hR.out.below K2.out); clear htl kn kn2)
         | (go_at_call 53; refine (rcut_any Gd' dp room Lj t2 w2 R2.out hSj.out (r : Int)).mono ?_; rintro e w3 ⟨rfl, G3, r3, n3⟩; rw [TL.out] at r3 ⊢; have N3 := hide (N2.out.trans n3); have z0 := (N3.out.far (i := 0) hll hnl.out).trans c0; have z1 := (N3.out.far (i := 1) hll hnl.out).trans c1; have hseg : ¬ Gd' W0.heap.size := (fun hq => by have := hR.out.low _ hq; omega); have b3 := hide (b2.out.turn n3.turn hseg); have z5 := b3.out.cell 0; have R3 := hide r3; have M3 := hide n3; clear r3 n3))
       have v0 : w3.cell? ⟨W0.heap.size, 0, none⟩ = some (.int .i64 (f : Int)) := b3.out.cell 0;have v1 : w3.cell? ⟨W0.heap.size, 1, none⟩ = some (.slice A1 n cc) := b3.out.cell 1;have vf := b3.out.frozen 1;have T4h : Turn (fun k => k = W0.heap.size) w3 (w3.setCell ⟨W0.heap.size, 1, none⟩ (.slice A1 d cc)) := (Turn.of_grown (grown_set w3 W0.heap.size 1 (.slice A1 d cc))).mono (fun q e => Option.some.inj e);have hltS : W0.heap.size < w2.heap.size := cell_lt (b2.out.cell 0);have hz : (w3.setCell ⟨W0.heap.size, 1, none⟩ (.slice A1 d cc)).heap.size = w3.heap.size := by simp
       have m2 := cell_two_0d (w3.setCell ⟨W0.heap.size, 1, none⟩ (.slice A1 d cc)) (.int .i64 (f : Int)) (.slice A1 d cc) 156;have m3 := cell_two_1d (w3.setCell ⟨W0.heap.size, 1, none⟩ (.slice A1 d cc)) (.int .i64 (f : Int)) (.slice A1 d cc) 156;rw [hz] at m2 m3;have nb2 := below_alloc (w3.setCell ⟨W0.heap.size, 1, none⟩ (.slice A1 d cc)) (.cells #[.int .i64 (f : Int), .slice A1 d cc] 156);have tT : Turn Gd' W0 w3 := (Turn.of_below Gd' K2.out).trans M3.out.turn;have hown : ∀ q, u7.ownBlock = some q -> w.heap.size <= q /\ q < W0.heap.size := fun q hq => World.ownsRow.lt hO.out q hq
       have hO3 : OwnG w3 w.heap.size u7 Y := ownsRow_turn hO.out tT hOff.out;have hO4 : OwnG (w3.setCell ⟨W0.heap.size, 1, none⟩ (.slice A1 d cc)) w.heap.size u7 Y := ownsRow_turn hO3 T4h (fun q hq e => by have := (hown q hq).2; omega);have hO5 : OwnG ((w3.setCell ⟨W0.heap.size, 1, none⟩ (.slice A1 d cc)).alloc (.cells #[.int .i64 (f : Int), .slice A1 d cc] 156)) w.heap.size u7 Y := ownsRow_turn hO4 (Turn.of_below (fun _ => False) nb2) (fun _ _ => id);have HM2 := hide m2;have HM3 := hide m3;have HO5 := hide hO5;have hszw : w.heap.size <= ((w3.setCell ⟨W0.heap.size, 1, none⟩ (.slice A1 d cc)).alloc (.cells #[.int .i64 (f : Int), .slice A1 d cc] 156)).heap.size := by have := N3.out.turn.size; have := nb2.size; omega
       have HSZW := hide hszw;have NB2 := hide nb2;have T4H := hide T4h;have HOW := hide hown;clear m2 m3 hO3 hO4 hO5 nb2 tT hown T4h hz hszw;go_wp2_with (at_builtin; refine halt ?_)
       refine ⟨wpList_of_step (fun K hK => ?_)⟩;refine step_append_seg rfl (.tmp 112) (.tmp 114) rfl w.heap.size u7 Y (by rfl) HO5.out w3.heap.size (f, .slice A1 d cc, y.2.2.take (i - f)) (by rfl) HM2.out HM3.out rfl (by have := hYl.out; omega) HSZW.out ?_;rintro v8 w8 o8 g8 hv8;have O8 := hide o8;have G8 := hide g8;have V8 := hide hv8;refine hK.out _ _ ?_;clear hK o8 g8 hv8;simp only [Act.put, List.setIfInBounds_toArray, List.set_cons_zero, List.set_cons_succ];go_wp2_with fail
       go_roundw
       case rel =>
        have tG : Turn (fun k => some k = u7.ownBlock) ((w3.setCell ⟨W0.heap.size, 1, none⟩ (.slice A1 d cc)).alloc (.cells #[.int .i64 (f : Int), .slice A1 d cc] 156)) w8 := Turn.of_grown G8.out;have hz : (w3.setCell ⟨W0.heap.size, 1, none⟩ (.slice A1 d cc)).heap.size = w3.heap.size := by simp
        have hG3 : ∀ q, G3 q -> q ≠ W0.heap.size /\ u7.ownBlock ≠ some q := fun q hq => (M3.out.foot q hq).elim (fun h => ⟨fun e => by have := hR.out.low q h; omega, fun e => hOff.out q e h⟩) (fun h => ⟨fun e => by omega, fun e => by have := (HOW.out q e).2; omega⟩)
        have hR8 := ((R3.out.turn T4H.out (fun q hq => (hG3 q hq).1)).below NB2.out).turn tG (fun q hq e => (hG3 q hq).2 e.symm);have hsw : w.heap.size <= W0.heap.size := hNx.out.turn.size;have tW : Turn Gd w w8 := ((N3.out.turn.then T4H.out (fun q hq => .inr (by omega))).trans (Turn.of_below Gd NB2.out)).then tG (fun q hq => .inr (HOW.out q hq.symm).1)
        have hE8 : RowsE E w (.slice A1 d cc) (y.2.2.take (i - f)) := by
         have h1 := HRW.out;rw [EV.out, <- HNN.out] at h1;have h2 := h1.take d (by omega);rw [HD2.out] at h2 ⊢;exact h2
        have hS := HSM.out (by omega) (by omega) (.slice A1 d cc);rw [<- hr.out] at hS;refine ⟨j + 1, G3, Y ++ [((f, Value.slice A1 d cc, y.2.2.take (i - f)) : Sgx)], _, by omega, by go_num, hR8, cut_sane10 hSj.out, ⟨tW, N3.out.foot⟩, O8.out, ?_, ?_, ?_, hS.1, hS.2⟩
        ·intro q hq hd;rcases V8.out with e8 | e8
         ·exact (hG3 q hd).2 (by rw [<- e8]; exact hq)
         ·rw [e8] at hq;have h9 := R3.out.low q hd;have h10 := Option.some.inj hq;have h11 := NB2.out.size;omega
        ·intro q hq;rcases List.mem_append.1 hq with h | h
         ·exact hYE.out q h
         ·rw [List.mem_singleton.1 h]; exact hE8
        ·have := hYl.out;unfold Hid;simp;omega
       case measure => simp [intOf]; omega
    ·have b2' : (t : Int) <= (i : Int) := by omega
     go_wp2_with (at_builtin; refine halt ?_)
     refine ⟨wpList_of_step (fun K hK => ?_)⟩;have nb2 := below_alloc (W0.alloc (.cells #[.int .i64 (f : Int), .slice A1 n cc] 156)) (.cells #[.int .i64 (f : Int), .slice A1 n cc] 156);have K2 := hide (NB.out.trans (nb2.mono NB.out.size));have hO2 : OwnG ((W0.alloc (.cells #[.int .i64 (f : Int), .slice A1 n cc] 156)).alloc (.cells #[.int .i64 (f : Int), .slice A1 n cc] 156)) w.heap.size u7 Y := ownsRow_turn hO.out (Turn.of_below (fun _ => False) K2.out) (fun _ _ => id);have hsz1 : w.heap.size <= W0.heap.size := hNx.out.turn.size;have hz : (W0.alloc (.cells #[.int .i64 (f : Int), .slice A1 n cc] 156)).heap.size = W0.heap.size + 1 := by simp
     have m2 := cell_two_0d (W0.alloc (.cells #[.int .i64 (f : Int), .slice A1 n cc] 156)) (.int .i64 (f : Int)) (.slice A1 n cc) 156;have m3 := cell_two_1d (W0.alloc (.cells #[.int .i64 (f : Int), .slice A1 n cc] 156)) (.int .i64 (f : Int)) (.slice A1 n cc) 156;rw [hz] at m2 m3;have hsz3 := K2.out.size;refine step_append_seg rfl (.tmp 41) (.tmp 43) rfl w.heap.size u7 Y (by rfl) hO2 (W0.heap.size + 1) (f, .slice A1 n cc, y.2.2) (by rfl) m2 m3 rfl (by have := hYl.out; omega) (by omega) ?_;rintro v8 w8 o8 g8 hv8;have hye : (f, Value.slice A1 n cc, y.2.2) = y := by rw [HF1.out, HNN.out, <- EV.out]
     rw [hye] at o8;have O8 := hide o8;have G8 := hide g8;have V8 := hide hv8;have NBB := hide nb2;refine hK.out _ _ ?_;clear hK o8 g8 hv8 nb2 hO2 hye;simp only [Act.put, List.setIfInBounds_toArray, List.set_cons_zero, List.set_cons_succ];go_wp2_with fail
     go_roundw
     case rel =>
      have tG : Turn (fun k => some k = u7.ownBlock) _ w8 := Turn.of_grown G8.out;have hown : ∀ q, some q = u7.ownBlock -> w.heap.size <= q := fun q hq => (World.ownsRow.lt hO.out q hq.symm).1
      have tW : Turn Gd w w8 := (hNx.out.turn.trans (Turn.of_below Gd K2.out)).then tG (fun q hq => .inr (hown q hq))
      have hR8 := (hR.out.below K2.out).turn tG (fun q hq e => hOff.out q e.symm hq);refine ⟨j + 1, Gd', Y ++ [y], Lj, by omega, by go_num, hR8, hSj.out, ⟨tW, hNx.out.foot⟩, O8.out, ?_, ?_, ?_, (HSB.out (by omega) (by omega)).1, (HSB.out (by omega) (by omega)).2⟩
      ·intro q hq hd;rcases V8.out with e8 | e8
       ·exact hOff.out q (by rw [<- e8]; exact hq) hd
       ·rw [e8] at hq;have h9 := hR.out.low q hd;have h10 := Option.some.inj hq;have h11 := K2.out.size;omega
      ·intro q hq;rcases List.mem_append.1 hq with h | h
       ·exact hYE.out q h
       ·rw [List.mem_singleton.1 h]; exact HRW.out
      ·have := hYl.out;unfold Hid;simp;omega
     case measure => simp [intOf]; omega
  ·obtain rfl : j = N := by omega
   obtain ⟨A7, c7, e7, -⟩ := hO.out.form;subst e7;obtain ⟨n7, hn7⟩ : ∃ n7, n7 = Y.length := ⟨_, rfl⟩;have hdr : X.drop j = [] := List.drop_of_length_le (by rw [HN.out]; exact Nat.le_refl _);have hfin := hF.out;have hfd := hFD.out;rw [hdr] at hfin hfd;have HFIN := hide hfin;have HFD := hide hfd;clear hfd hFD;have hLW := HW.out.turn hNx.out.turn (fun g hg hd => HAP.out g hd hg);have f2 := hLW.cells.frozen 2;have ho0 : OwnG W0 0 (.slice A7 Y.length c7) Y := ownsRow_more hO.out (Nat.zero_le _);have hnG : ∀ q, (Value.slice A7 Y.length c7).ownBlock = some q -> ¬ G q := fun q hq hG => by
    have := (World.ownsRow.lt hO.out q hq).1;have := HW.out.low q hG;omega
   have hLS := (hLW.setSegs ho0 (fun y hy => (hYE.out y hy).turn hNx.out.turn (fun q hq hd => HAP.out q hd (HW.out.mineE q hq))) hnG).setNext i;have f3 := hLW.cells.frozen 3;have k3 := (hNx.out.far (i := 3) hll hnl.out).trans c3;have LS := hide hLS;have LW := hide hLW;rw [<- hn7] at LS;have HNG := hide hnG;rw [<- hn7] at HNG hOff;rw [<- hn7];have HN7 := hide hn7;clear hLS hLW hfin hdr ho0 hnG hn7 hF;go_wp2_with fail
   go_ret;have t : Turn (fun k => k = l) W0 ((W0.setCell ⟨l, 2, none⟩ (.slice A7 n7 c7)).setCell ⟨l, 3, none⟩ (.int .i64 (i : Int))) := ((Turn.of_grown (grown_set W0 l 2 (.slice A7 n7 c7))).mono (fun i e => Option.some.inj e)).trans ((Turn.of_grown (grown_set (W0.setCell ⟨l, 2, none⟩ (.slice A7 n7 c7)) l 3 (.int .i64 (i : Int)))).mono (fun i e => Option.some.inj e));have hnd : ∀ k, Gd' k -> ¬ k = l := fun k hk e => by
    subst e;rcases hNx.out.foot k hk with h1 | h1
    ·exact hnl.out h1
    ·omega
   have hdw : cutW s.data.toList i ⟨segs, nx, dy⟩ L = (⟨Y.map (fun x : Sgx => (x.1, x.2.2)), i, dy⟩, Lj) := by
    unfold cutW;dsimp only;rw [HFIN.out, HFD.out];simp
   rw [hdw];refine ⟨rfl, Gd', _, ⟨hR.out.turn t hnd, ⟨E, _, _, Y, rfl, LS.out⟩, fun k hk hg => ?_, hSj.out⟩, (hNx.out.turn.mono (fun i hi => .inl hi)).trans (t.mono (fun i hi => .inr (by rw [hi]; exact HW.out.own))), hNx.out.foot, fun k hk => ?_⟩
   ·rcases hg with hg | hg
    ·rcases hNx.out.foot k hk with h1 | h1
     ·exact HAP.out k h1 hg
     ·have := HW.out.low k hg;omega
    ·exact hOff.out k hg hk
   ·rcases hk with hk | hk
    ·exact .inl hk
    ·exact .inr (World.ownsRow.lt hO.out k (by rw [<- HN7.out]; exact hk)).1
end Go.Proofs.YtbmhfnhfhdgdgaaGreat
