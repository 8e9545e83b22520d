/- The law's own 'stood': bounds, every entry, every file, in both. Condition: a prefix of 1 to 55 bytes. The law's own 'does', the step Append: both sides answer  -/
import Derived.Test.YtbmhfnhfhdgdgaaGreatW46
namespace Go.Proofs.YtbmhfnhfhdgdgaaGreat
open Go.RowKit Go.Maps
variable {w w' : World} {F G Fd Gd : Nat -> Prop} {L : DiskL} {s : ByteArray} {M : LogL} {B room l d p m q k : Nat}
theorem names_at10 (X : List (Str × Fil)) (hk : k < X.length) : ((absX X).map (·.1)).getD k [] = X[k].1 := by
 rw [abs_names10];simp [hk]
theorem PairAt.chain (h : PairAt B q w F G Fd Gd d l p m room s M L) : Chain (firstL M) M.segs M.next /\ M.next <= 1099511627776 := by
 obtain ⟨P, hb, ht, _, hm⟩ := h.duo.pro;obtain ⟨i, hc⟩ := ht.chain;have hfi : firstL M = i := chain_first (d := M.dirty) hc;rw [hfi];exact ⟨hc, hm⟩
theorem PairAt.code (h : PairAt B q w F G Fd Gd d l p m room s M L) {z : Nat} (h1 : firstL M <= z) (h2 : z < M.next) : (getE M (z : Int)).2 = 0 := by
 have := getE_chain (z : Int) h.chain.1 (nx := M.next) (d := M.dirty);have e : getE M (z : Int) = _ := this;rw [e, if_pos ⟨by omega, by omega⟩]
set_option maxRecDepth 100000 in
set_option maxHeartbeats 6400000 in
theorem stood10_any (h : PairAt B q w F G Fd Gd d l p m room s M L)
  (hsz : ∀ q ∈ M.segs, q.1 <= 1099511627776 /\ q.2.length <= 1099511627776 /\ ∀ p ∈ q.2, p.length <= 1099511627776) (hgl : ∀ z, (getE M z).1.length <= 1099511627776) :
  Calls Tryz.prog 13 #[.pointer (some ⟨q, 0, none⟩)] w fun e w' => e = .returned (.bool true) /\ Below w.heap.size w w' := by
 have hno := h.chain.2;obtain ⟨fa, hfa⟩ : ∃ x, x = firstL M := ⟨_, rfl⟩;obtain ⟨nb, hnb⟩ : ∃ x, x = M.next := ⟨_, rfl⟩;have hle : fa <= nb := by
  have := chain_len h.chain.1;omega
 rw [<- hnb] at hno;obtain ⟨x0, x1, x2, x3⟩ := pair_cells h.blk;have hql := h.blk.lt;have HH := hide h;have HS := hide (And.intro hsz hgl);have HAB := hide (And.intro hfa hnb);clear h hsz hgl hfa hnb x0 x1;go_enter Tryz.func13, Tryz.ntmps13;go_wp2_with fail
 refine (run_bounds (HH.out.duo.pro.run (B := 0) (fun _ _ => Nat.zero_le _) (fun _ _ => Nat.zero_le _) (Nat.zero_le _))).mono ?_;rintro e w1 ⟨rfl, k1⟩;rw [<- HAB.out.1, <- HAB.out.2];have H1 := hide (HH.out.below k1);obtain ⟨-, -, -, x3'⟩ := pair_cells H1.out.blk;have K1 := hide k1;clear x2 x3 k1;go_wp2_with fail
 refine (rbounds_any w1 Gd m p s M H1.out.duo.ref.log (by have := HAB.out.2; omega)).mono ?_;rintro e w2 ⟨rfl, d2, rfl⟩;rw [<- HAB.out.1, <- HAB.out.2];have H2 := hide (H1.out.below (below_drewN (Below.refl _ _) d2));have K2 := hide (below_drewN K1.out d2);clear H1 K1 x3';generalize w1.drewN d2 = W at *;have ta : ((fa : Int) != (fa : Int)) = false := by simp
 have tb : ((nb : Int) != (nb : Int)) = false := by simp
 go_wp2_with fail
 go_loopw [7] (fun i wr => ∃ k : Nat, fa <= k /\ k <= nb /\ i = .int .i64 (k : Int) /\ Hid (Below W.heap.size W wr)) (fun i _ => nb - (intOf i).toNat)
 case atStart => exact ⟨fa, Nat.le_refl _, hle, rfl, hide (Below.refl _ _)⟩
 case round =>
  obtain ⟨W0, hW0⟩ : ∃ Z, Z = wr := ⟨_, rfl⟩;subst hW0;obtain ⟨k, hk1, hk2, rfl, hbel⟩ := hrel;by_cases hlt : k < nb
  ·have H3 := hide (H2.out.below hbel.out);obtain ⟨-, -, y2, -⟩ := pair_cells H3.out.blk;have hltz : (k : Int) < (nb : Int) := by omega
   obtain ⟨gx, hgx⟩ : ∃ x, x = (getE M (k : Int)).1 := ⟨_, rfl⟩;have hcode := H3.out.code (z := k) (by have := HAB.out.1; omega) (by have := HAB.out.2; omega);obtain ⟨gn, hgn⟩ : ∃ x, x = gx.length := ⟨_, rfl⟩;have hgl := HS.out.2 (k : Int);rw [<- hgx, <- hgn] at hgl;have HG := hide (And.intro hgx (And.intro hgn hcode));clear hgx hgn hcode;go_wp2_with fail
   refine (read_get H3.out.duo.pro.read (k : Int)).mono ?_;rintro e w4 ⟨v4, rfl, o4, k4⟩;rw [<- HG.out.1] at o4;rw [HG.out.2.2];obtain ⟨A4, c4, rfl, i4, l4, m4⟩ := o4.isB.form HG.out.2.1.symm;have O4 := hide o4;have H4 := hide (H3.out.below k4);have K4 := hide (hbel.out.trans (k4.mono hbel.out.size));obtain ⟨-, -, -, y3⟩ := pair_cells H4.out.blk;clear o4 k4 i4 y2;go_wp2_with fail
   refine (rget_any w4 Gd m p s M (k : Int) H4.out.duo.ref.log (by omega) (by omega) HS.out.1).mono ?_;rintro e w5 ⟨v5, rfl, o5, k5⟩;rw [<- HG.out.1] at o5;rw [HG.out.2.2];obtain ⟨A5, c5, rfl, i5, l5, m5⟩ := o5.isB.form HG.out.2.1.symm;have O5 := hide o5;have O4 := hide (O4.out.keep k5);have K5 := hide (K4.out.trans (k5.mono K4.out.size));clear o5 k5 i5 y3 H3 H4 K4;go_wp2_with fail
   refine (same_any A4 A5 gn gn c4 c5 gx gx _ O4.out.isB.rd O5.out.isB.rd HG.out.2.1 HG.out.2.1 (by omega) (by omega)).mono ?_;rintro e w6 ⟨rfl, d6, rfl⟩;rw [decide_eq_true (rfl : gx = gx)];have K6 := hide (below_drewN K5.out d6);go_wp2_with fail
   go_roundw
   case rel => exact ⟨k + 1, by omega, by omega, by go_num, K6⟩
   case measure => simp [intOf]; omega
  ·have hltz : ¬ ((k : Int) < (nb : Int)) := by omega
   clear hlt;have H3 := hide (H2.out.below hbel.out);have KK := hide (K2.out.trans (hbel.out.mono K2.out.size));obtain ⟨y0, -, -, -⟩ := pair_cells H3.out.blk;clear H2 hbel K2;go_wp2_with fail
   obtain ⟨P0, hPb, -⟩ := H3.out.duo.pro;have HD := hide hPb.disk;clear hPb;refine (list_any F d room L W0 HD.out).mono ?_;rintro e w1' ⟨v1, rfl, o1, k1⟩;obtain ⟨v0, X0, hX, hx0⟩ := H3.out.duo.ref.disk;obtain ⟨T, hT⟩ : ∃ T, T = X0.length := ⟨_, rfl⟩;have hT256 : T <= 256 := by rw [hT, <- absX_length, <- hX]; exact H3.out.duo.ref.sane.few
   have hnl : (L.map (·.1)).length = T := by rw [hX, List.length_map, absX_length, hT]
   obtain ⟨A1, c1, rfl, l1, m1, q1⟩ := o1.rows hnl;have hp0 : p < W0.heap.size := hx0.low p hx0.own;have hp1 : p < w1'.heap.size := Nat.lt_of_lt_of_le hp0 k1.size;have hq1 : q < w1'.heap.size := Nat.lt_of_lt_of_le H3.out.blk.lt k1.size;have R1 := hide (hx0.below k1);have Q1 := hide q1;have HD := hide (HD.out.below k1);have H4 := hide (H3.out.below k1);have KK := hide (KK.out.trans (k1.mono KK.out.size));have SA := hide H3.out.duo.ref.sane;have NM := hide HD.out.facts.2.2.2.2.2;have HX := hide hX;have HT := hide hT;obtain ⟨z0, z1, -, -⟩ := pair_cells H4.out.blk;obtain ⟨A, c, e0, hlc, hc63, -, hcell⟩ := R1.out.form;have c1' : w1'.cell? ⟨p, 1, none⟩ = some (.slice A T c) := by rw [HT.out, <- e0]; exact R1.out.cells.cell 1
   have HC := hide hcell;have hlc : T <= c := by rw [HT.out]; exact hlc
   have hTT : ((T : Int) != (T : Int)) = false := by simp
   clear e0 hcell k1 o1 q1 hX hT hnl hx0 H3 hp0 y0;go_wp2_with fail
   go_loopw [13] (fun i wr => ∃ k : Nat, k <= T /\ i = .int .i64 (k : Int) /\ Hid (Below w1'.heap.size w1' wr)) (fun i _ => T - (intOf i).toNat)
   case atStart => exact ⟨0, Nat.zero_le _, rfl, hide (Below.refl _ _)⟩
   case round =>
    obtain ⟨j, hj, rfl, hbel⟩ := hrel;by_cases hlt : j < T
    ·have hjX : j < X0.length := by rw [<- HT.out]; exact hlt
     have hltz : (j : Int) < (T : Int) := by omega
     obtain ⟨g, rfl, _, hgl, q0, q1, _, _⟩ := HC.out j hjX;obtain ⟨g1, rfl, n1⟩ := Q1.out j hlt;have hnk : (L.map (·.1)).getD j [] = X0[j].1 := by rw [HX.out]; exact names_at10 X0 hjX
     rw [hnk] at n1;have hoj := R1.out.each X0[j] (List.getElem_mem hjX);have hg0 := abs_at (HX.out ▸ SA.out.rise) hjX;rw [<- HX.out] at hg0;have hnm := NM.out (X0[j].1, X0[j].2.2) (getK_mem hg0);obtain ⟨A', cc, e, hIB, h7, h8⟩ := hoj.1.isB.form rfl;obtain ⟨nm, hnm2⟩ : ∃ nm, nm = X0[j].1 := ⟨_, rfl⟩;obtain ⟨xs, hxs⟩ : ∃ xs, xs = X0[j].2.2.1 := ⟨_, rfl⟩;obtain ⟨la, hla⟩ : ∃ la, la = X0[j].2.2.2 := ⟨_, rfl⟩;have hpe : X0[j].2.2 = (xs, la) := by rw [hxs, hla]
     rw [hpe, <- hnm2] at hg0 hnm;rw [e] at q1;rw [<- hnm2] at q0 n1;rw [<- hxs] at q1 hIB h7;obtain ⟨s9, hs, hs2⟩ := str_at nm;rw [hs] at q0 n1;rw [<- hs2] at hg0 hnm;have hxl := SA.out.len hg0;obtain ⟨n9, hn9⟩ : ∃ n9, n9 = xs.length := ⟨_, rfl⟩;rw [<- hn9] at q1 hIB h7;have hxl : n9 <= 1073741824 := by rw [hn9]; exact hxl
     have hs64 : s9.size <= 64 := hnm;have hg1 : g1 < w1'.heap.size := cell_lt n1;have r0 := (hbel.out.cell (p := ⟨g1, j, none⟩) hg1).trans n1;have r1 := (hbel.out.cell (p := ⟨q, 0, none⟩) hq1).trans z0;have HG := hide hg0;have HIB := hide hIB;have HMX := hide hn9;have Q0 := hide q0;have QQ := hide q1;have N1 := hide n1;have C1 := hide c1';have Z1 := hide z1;have Z0 := hide z0;clear hoj hg0 hnm e hIB hnm2 hxs hla hpe hs hs2 q0 q1 n1 hn9 hnk c1' z0 z1;go_wp2_with fail
     refine heldT_top (fun W' => W'.cell? ⟨q, 0, none⟩ = some (.pointer (some ⟨d, 0, none⟩)) /\ W'.cell? ⟨g1, j, none⟩ = some (.string s9)) 14 #[false, false, false, false, false, false, false, false, false, false, false, false, false, false] (by kernel_rfl) (by kernel_rfl) (by kernel_rfl) ?_;have hHeld : (fun W' => W'.cell? ⟨q, 0, none⟩ = some (.pointer (some ⟨d, 0, none⟩)) /\ W'.cell? ⟨g1, j, none⟩ = some (.string s9)) (wr.drewN 1) := ⟨r1, r0⟩;have BW := hide (below_drewN hbel.out 1);clear r0 r1 hbel;change wpAnyH _ _ _ _ _ _ _ _ (wr.drewN 1);generalize wr.drewN 1 = U at *
     iterate 8
      first | refine' tkH 0 rfl hHeld rfl ?_ ?_ | refine' tkH 1 rfl hHeld rfl ?_ ?_ | refine' tkH 2 rfl hHeld rfl ?_ ?_ | refine' tkH 3 rfl hHeld rfl ?_ ?_ | refine' tkH 4 rfl hHeld rfl ?_ ?_ | refine' tkH 5 rfl hHeld rfl ?_ ?_ | refine' tkH 6 rfl hHeld rfl ?_ ?_ | refine' tkH 7 rfl hHeld rfl ?_ ?_
      rotate_left
      ·(intro W' hW; (try dsimp only at hW); obtain ⟨a1, a2⟩ := hW; go_simp; (try with_reducible rfl))
      try simp only [Act.put, List.setIfInBounds_toArray, List.set_cons_zero, List.set_cons_succ]
     clear hHeld;refine heldT_one (i := 8) (by kernel_rfl) rfl (fun K' hK => ?_);go_simp;go_at_call 56;refine (read_some F d room L s9 xs la U (HD.out.below BW.out) (by omega) HG.out).mono ?_;rintro e w4 ⟨v4, rfl, o4, k4⟩;obtain ⟨A4, c4, rfl, i4, l4, m4⟩ := o4.isB.form HMX.out.symm;have K4 := hide (BW.out.trans (k4.mono BW.out.size));have I4 := hide i4;have t0 := (K4.out.cell (p := ⟨p, 1, none⟩) hp1).trans C1.out;have t1 := (K4.out.cell (p := ⟨g, j * 3, none⟩) hgl).trans Q0.out;have t2 := (K4.out.cell (p := ⟨g, j * 3 + 1, none⟩) hgl).trans QQ.out;have t3 := (K4.out.cell (p := ⟨g1, j, none⟩) hg1).trans N1.out;have t4 := (K4.out.cell (p := ⟨q, 1, none⟩) hq1).trans Z1.out;have t5 := (K4.out.cell (p := ⟨q, 0, none⟩) hq1).trans Z0.out;have BI := hide (HIB.out.keep K4.out);clear k4 o4 i4;have hHeld : (fun W' => W'.cell? ⟨q, 0, none⟩ = some (.pointer (some ⟨d, 0, none⟩)) /\ W'.cell? ⟨g1, j, none⟩ = some (.string s9)) w4 := ⟨t5, t3⟩;refine hK.out _ _ hHeld ?_;clear hK;try simp only [List.setIfInBounds_toArray, List.set_cons_zero, List.set_cons_succ]
     iterate 5
      first | refine' tkH 9 rfl hHeld rfl ?_ ?_ | refine' tkH 10 rfl hHeld rfl ?_ ?_ | refine' tkH 11 rfl hHeld rfl ?_ ?_ | refine' tkH 12 rfl hHeld rfl ?_ ?_ | refine' tkH 13 rfl hHeld rfl ?_ ?_
      rotate_left
      ·(intro W' hW; (try dsimp only at hW); obtain ⟨a1, a2⟩ := hW; go_simp; (try with_reducible rfl))
      try simp only [Act.put, List.setIfInBounds_toArray, List.set_cons_zero, List.set_cons_succ]
     refine wpAnyH_done (by kernel_rfl) ?_ _;clear hHeld t5;go_wp2_with fail
     go_quiet ((go_at_call 43; refine Calls.quiet_of (v := .bool true) ?_; refine (same_any A4 A' n9 n9 c4 cc xs xs _ (I4.out.keep (below_drewN (Below.refl _ _) _)).rd (BI.out.keep (below_drewN (Below.refl _ _) _)).rd HMX.out HMX.out (by omega) (by omega)).mono ?_; rintro e w' ⟨rfl, d9, rfl⟩; exact ⟨by rw [decide_eq_true (rfl : xs = xs)], d9, rfl⟩))
     have K5 := hide (below_drewN K4.out nq);clear t0 t1 t2 t3 t4;go_wp2_with fail
     go_roundw
     case rel => exact ⟨j + 1, by omega, by go_num, K5⟩
     case measure => simp [intOf]; omega
    ·have hltz : ¬ ((j : Int) < (T : Int)) := by omega
     go_wp2_with fail
     go_ret;exact ⟨rfl, KK.out.trans (hbel.out.mono KK.out.size)⟩
theorem IsB.under {u : World} {v : Value} {p : List Nat} (h : IsB w v p) (hv : p ≠ [] -> ∀ g, v.ownBlock = some g -> g < B) (k : Below B w u) : IsB u v p := by
 obtain ⟨A, c, rfl, hr, hn⟩ := h;refine ⟨A, c, rfl, fun hne => ?_, hn⟩;obtain ⟨b', o', rfl, hc⟩ := hr hne;refine ⟨b', o', rfl, fun i hi => ?_⟩;rw [k.cell (p := ⟨b', o' + i, none⟩) (hv hne b' rfl)];exact hc i hi
theorem PairAt.turn {S : Nat -> Prop} (h : PairAt B q w F G Fd Gd d l p m room s M L) (t : Turn S w w') (hS : ∀ k, (F k \/ G k) \/ (Fd k \/ Gd k) -> ¬ S k) (hq : ¬ S q) : PairAt B q w' F G Fd Gd d l p m room s M L :=
 ⟨⟨h.duo.pro.turn t (fun k hk => hS k (.inl hk)), h.duo.ref.turn t (fun k hk => hS k (.inr hk)), h.duo.apart, h.duo.upP, h.duo.upR, Nat.le_trans h.duo.base t.size⟩, h.blk.turn t hq, h.off⟩
set_option maxRecDepth 100000 in
set_option maxHeartbeats 3200000 in
theorem does_add (h : PairAt B q w F G Fd Gd d l p m room s M L) (N K : Int) (P : Option Addr) (n c : Nat) (y : Int) (ps : List Nat) (hP : IsB w (.slice P n c) ps) (hn : ps.length = n) (h8 : ∀ x ∈ ps, x < 256) (h3 : n <= 1000000) (hPo : ps ≠ [] -> ∀ g, (Value.slice P n c).ownBlock = some g -> g < B)
  (hs : s.size <= 64) (hf : ∀ s ∈ M.segs, s.1 <= 1099511627776) (hsl : M.segs.length < 1073741824) (he : ∀ s ∈ M.segs, s.2.length <= 1073741824) (hdy : M.dirty.length <= 1073741824) :
  Calls Tryz.prog 12 #[.pointer (some ⟨q, 0, none⟩), .agg #[.int .i64 1, .int .i64 N, .int .i64 K, .slice P n c, .int .u8 y]] w fun e w' => e = .returned (.bool true) /\ Stood B q d l p m room s (addL room s.data.toList ps M L).1.1 (addL room s.data.toList ps M L).1.2 w' /\ Below B w w' := by
 have HB : Hid (B <= w.heap.size) := hide h.duo.base;have kb := below_alloc w (.cells #[.int .i64 1, .int .i64 N, .int .i64 K, .slice P n c, .int .u8 y] 42);have bx := Blk.new w (B := 0) 42 #[.int .i64 1, .int .i64 N, .int .i64 K, .slice P n c, .int .u8 y] (Nat.zero_le _);obtain ⟨g0, hg0⟩ : ∃ g, g = w.heap.size := ⟨_, rfl⟩;have hx0 : ¬ (F g0 \/ G g0) := fun hk => by have := h.duo.pro.low g0 hk; omega
 have hx1 : ¬ (Fd g0 \/ Gd g0) := fun hk => by have := h.duo.ref.low g0 hk; omega
 have HX := hide (And.intro hx0 hx1);obtain ⟨R, hR⟩ : ∃ R, R = addL room s.data.toList ps M L := ⟨_, rfl⟩;obtain ⟨ra, hra⟩ : ∃ x, x = R.2.1 := ⟨_, rfl⟩;obtain ⟨rb, hrb⟩ : ∃ x, x = R.2.2 := ⟨_, rfl⟩;rw [<- hR];have HR := hide (And.intro hR (And.intro hra hrb));have KB : Hid (Below B w (w.alloc (.cells #[.int .i64 1, .int .i64 N, .int .i64 K, .slice P n c, .int .u8 y] 42))) := hide (kb.mono HB.out);have H0 := hide (h.below kb);have HP := hide (And.intro hP (And.intro hn (And.intro h8 hPo)));have HS := hide (And.intro hs (And.intro hf (And.intro hsl (And.intro he hdy))));have q1 : ((ra : Int) == (ra : Int)) = true := by simp
 have q2 : ((rb : Int) == (rb : Int)) = true := by simp
 clear h kb hP hn h8 hPo hs hf hsl he hdy hx0 hx1 hR hra hrb;go_enter Tryz.func12, Tryz.ntmps12;go_wp2_with fail
 obtain ⟨W, hW⟩ : ∃ W, W = w.alloc (.cells #[.int .i64 1, .int .i64 N, .int .i64 K, .slice P n c, .int .u8 y] 42) := ⟨_, rfl⟩;rw [<- hW, <- hg0] at bx;rw [<- hW] at KB H0;rw [<- hW, <- hg0];have BX := hide bx;clear hW hg0 bx;refine (roomyO_any P n c ps W (HP.out.1.under HP.out.2.2.2 KB.out) HP.out.2.1 h3).mono ?_;rintro e w1 ⟨g1, c1, rfl, o1, l1, m1, k1⟩;have G1 : Hid (W.heap.size <= g1 /\ g1 < w1.heap.size) := hide (o1.lt g1 rfl);have O1 := hide o1;have HL : Hid (∀ k, (F k \/ G k) \/ (Fd k \/ Gd k) -> k < W.heap.size) := hide (fun k hk => hk.elim (H0.out.duo.pro.low k) (H0.out.duo.ref.low k));have HQ : Hid (q < W.heap.size) := hide H0.out.blk.lt;have HBW : Hid (B <= W.heap.size) := hide H0.out.duo.base;have H1 := hide (H0.out.below k1);have BX := hide (BX.out.keep k1);have K1 := hide (KB.out.trans (k1.mono H0.out.duo.base));have hnc : (n : Int) <= (c1 : Int) := by omega
 clear o1 k1 H0 KB;go_wp2_with fail
 obtain ⟨-, -, c2, c3⟩ := pair_cells H1.out.blk;have c4 : w1.cell? ⟨g0, 3, none⟩ = some (.slice P n c) := BX.out.cell 3;refine heldT_top (fun W' => W'.cell? ⟨q, 2, none⟩ = some (.pointer (some ⟨l, 0, none⟩)) /\ W'.cell? ⟨q, 3, none⟩ = some (.pointer (some ⟨m, 0, none⟩)) /\ W'.cell? ⟨g0, 3, none⟩ = some (.slice P n c)) 15 #[false, false, false, false, false, false, false, false, false, false, false, false, false, false, false] (by kernel_rfl) (by kernel_rfl) (by kernel_rfl) ?_;have hHeld : (fun W' => W'.cell? ⟨q, 2, none⟩ = some (.pointer (some ⟨l, 0, none⟩)) /\ W'.cell? ⟨q, 3, none⟩ = some (.pointer (some ⟨m, 0, none⟩)) /\ W'.cell? ⟨g0, 3, none⟩ = some (.slice P n c)) (w1.drewN 1) := ⟨c2, c3, c4⟩;have H1 := hide (H1.out.below (below_drewN (Below.refl _ _) 1));have BX := hide (BX.out.drewN 1);have O1 := hide (O1.out.drewN 1);have K1 := hide (below_drewN K1.out 1);have G1 : Hid (W.heap.size <= g1 /\ g1 < (w1.drewN 1).heap.size) := G1;clear c2 c3 c4;change wpAnyH _ _ _ _ _ _ _ _ (w1.drewN 1);generalize w1.drewN 1 = U at *
 iterate 9
  first | refine' tkH 0 rfl hHeld rfl ?_ ?_ | refine' tkH 1 rfl hHeld rfl ?_ ?_ | refine' tkH 2 rfl hHeld rfl ?_ ?_ | refine' tkH 3 rfl hHeld rfl ?_ ?_ | refine' tkH 4 rfl hHeld rfl ?_ ?_ | refine' tkH 5 rfl hHeld rfl ?_ ?_ | refine' tkH 6 rfl hHeld rfl ?_ ?_ | refine' tkH 7 rfl hHeld rfl ?_ ?_ | refine' tkH 8 rfl hHeld rfl ?_ ?_
  rotate_left
  ·(intro W' hW; (try dsimp only at hW); obtain ⟨z2, z3, z4⟩ := hW; go_simp; (try with_reducible rfl))
  try simp only [Act.put, List.setIfInBounds_toArray, List.set_cons_zero, List.set_cons_succ]
 clear hHeld;refine heldT_one (i := 9) (by kernel_rfl) rfl (fun K' hK => ?_);go_simp;go_at_call 24;have hnF : ∀ k, (F k \/ G k) \/ (Fd k \/ Gd k) -> k ≠ g1 := fun k hk e => by have h1 := HL.out k hk; have h2 := G1.out.1; omega
 have hI : IsB U (.slice (some ⟨g1, 0, none⟩) n c1) ps := by have h9 := O1.out.isB.take n (by omega); rwa [List.take_left' HP.out.2.1] at h9
 have hc := pro_add H1.out.duo.pro (some ⟨g1, 0, none⟩) n c1 ps hI HP.out.2.1 HP.out.2.2.1 (fun _ g hg => by
  have e : g = g1 := by simpa [Value.ownBlock] using hg.symm
  subst e;exact ⟨fun hk => hnF _ (.inl (.inl hk)) rfl, fun hk => hnF _ (.inl (.inr hk)) rfl⟩)
 have HNF := hide hnF;rw [<- HR.out.1] at hc;refine hc.mono ?_;rintro e u1 ⟨rfl, F1, G1', hp1, t1, f1, g1'⟩;rw [<- HR.out.2.1, <- HR.out.2.2];obtain ⟨mid, k1⟩ := H1.out.first hp1 t1 f1 g1';have HM := hide mid;have BX := hide (BX.out.turn t1 HX.out.1);have O2 := hide (O1.out.turn t1 (fun g hg hk => HNF.out g (.inl hk) (by simpa [Value.ownBlock] using hg.symm)));have HF1 : Hid ((∀ k, F1 k -> k ≠ g1) /\ (∀ k, G1' k -> k ≠ g1)) := hide ⟨fun k hk e => (f1 k hk).elim (fun h => HNF.out k (.inl (.inl h)) e) (fun h => by have := G1.out.2; omega), fun k hk e => (g1' k hk).elim (fun h => HNF.out k (.inl (.inr h)) e) (fun h => by have := G1.out.2; omega)⟩;have K2 := hide (K1.out.trans k1);have G2 : Hid (g1 < u1.heap.size) := hide (Nat.lt_of_lt_of_le G1.out.2 t1.size);clear hp1 t1 f1 g1' mid k1 H1 K1 hI hnF hc;obtain ⟨-, -, c2, c3⟩ := pair_cells HM.out.blk;have hHeld : (fun W' => W'.cell? ⟨q, 2, none⟩ = some (.pointer (some ⟨l, 0, none⟩)) /\ W'.cell? ⟨q, 3, none⟩ = some (.pointer (some ⟨m, 0, none⟩)) /\ W'.cell? ⟨g0, 3, none⟩ = some (.slice P n c)) u1 := ⟨c2, c3, BX.out.cell 3⟩;refine hK.out _ _ hHeld ?_;clear hK;try simp only [List.setIfInBounds_toArray, List.set_cons_zero, List.set_cons_succ]
 iterate 5
  first | refine' tkH 10 rfl hHeld rfl ?_ ?_ | refine' tkH 11 rfl hHeld rfl ?_ ?_ | refine' tkH 12 rfl hHeld rfl ?_ ?_ | refine' tkH 13 rfl hHeld rfl ?_ ?_ | refine' tkH 14 rfl hHeld rfl ?_ ?_
  rotate_left
  ·(intro W' hW; (try dsimp only at hW); obtain ⟨z2, z3, z4⟩ := hW; go_simp; (try with_reducible rfl))
  try simp only [Act.put, List.setIfInBounds_toArray, List.set_cons_zero, List.set_cons_succ]
 refine wpAnyH_done (by kernel_rfl) ?_ _;clear hHeld;go_wp2_with fail
 refine heldT_top (fun W' => W'.cell? ⟨q, 2, none⟩ = some (.pointer (some ⟨l, 0, none⟩)) /\ W'.cell? ⟨q, 3, none⟩ = some (.pointer (some ⟨m, 0, none⟩)) /\ W'.cell? ⟨g0, 3, none⟩ = some (.slice P n c)) 12 #[false, false, false, false, false, false, false, false, false, false, false, false] (by kernel_rfl) (by kernel_rfl) (by kernel_rfl) ?_;have hHeld : (fun W' => W'.cell? ⟨q, 2, none⟩ = some (.pointer (some ⟨l, 0, none⟩)) /\ W'.cell? ⟨q, 3, none⟩ = some (.pointer (some ⟨m, 0, none⟩)) /\ W'.cell? ⟨g0, 3, none⟩ = some (.slice P n c)) (u1.drewN 1) := ⟨c2, c3, BX.out.cell 3⟩;have HM := hide (HM.out.below (below_drewN (Below.refl _ _) 1));have BX := hide (BX.out.drewN 1);have O2 := hide (O2.out.drewN 1);have K2 := hide (below_drewN K2.out 1);have G2 : Hid (g1 < (u1.drewN 1).heap.size) := G2;clear c2 c3;change wpAnyH _ _ _ _ _ _ _ _ (u1.drewN 1);generalize u1.drewN 1 = u2 at *
 iterate 6
  first | refine' tkH 0 rfl hHeld rfl ?_ ?_ | refine' tkH 1 rfl hHeld rfl ?_ ?_ | refine' tkH 2 rfl hHeld rfl ?_ ?_ | refine' tkH 3 rfl hHeld rfl ?_ ?_ | refine' tkH 4 rfl hHeld rfl ?_ ?_ | refine' tkH 5 rfl hHeld rfl ?_ ?_
  rotate_left
  ·(intro W' hW; (try dsimp only at hW); obtain ⟨z2, z3, z4⟩ := hW; go_simp; (try with_reducible rfl))
  try simp only [Act.put, List.setIfInBounds_toArray, List.set_cons_zero, List.set_cons_succ]
 clear hHeld;refine heldT_one (i := 6) (by kernel_rfl) rfl (fun K' hK => ?_);go_simp;go_at_call 37;have hc := rlogadd_any u2 Fd Gd p m room s M L P n c ps HM.out.ref HS.out.1 (HP.out.1.under HP.out.2.2.2 K2.out) HP.out.2.1 HP.out.2.2.1 (fun hne g hg => by
  have h1 := HP.out.2.2.2 hne g hg;exact ⟨fun hk => by have := HM.out.upR g (.inl hk); omega, fun hk => by have := HM.out.upR g (.inr hk); omega⟩) HS.out.2.1 HS.out.2.2.1 HS.out.2.2.2.1 HS.out.2.2.2.2
 rw [<- HR.out.1] at hc;refine hc.mono ?_;rintro e u3 ⟨rfl, Fd2, Gd2, hr2, t2, f2, g2⟩;rw [<- HR.out.2.1, <- HR.out.2.2];obtain ⟨pr, k2⟩ := HM.out.second hr2 t2 f2 g2;have HT := hide pr;have BX := hide (BX.out.turn t2 HX.out.2);have O3 := hide (O2.out.turn t2 (fun g hg hk => HNF.out g (.inr hk) (by simpa [Value.ownBlock] using hg.symm)));have HF2 : Hid ((∀ k, Fd2 k -> k ≠ g1) /\ (∀ k, Gd2 k -> k ≠ g1)) := hide ⟨fun k hk e => (f2 k hk).elim (fun h => HNF.out k (.inr (.inl h)) e) (fun h => by have := G2.out; omega), fun k hk e => (g2 k hk).elim (fun h => HNF.out k (.inr (.inr h)) e) (fun h => by have := G2.out; omega)⟩;have K3 := hide (K2.out.trans k2);clear hr2 t2 f2 g2 pr k2 HM K2 O2 hc;obtain ⟨-, -, c2, c3⟩ := pair_cells HT.out.blk;have hHeld : (fun W' => W'.cell? ⟨q, 2, none⟩ = some (.pointer (some ⟨l, 0, none⟩)) /\ W'.cell? ⟨q, 3, none⟩ = some (.pointer (some ⟨m, 0, none⟩)) /\ W'.cell? ⟨g0, 3, none⟩ = some (.slice P n c)) u3 := ⟨c2, c3, BX.out.cell 3⟩;refine hK.out _ _ hHeld ?_;clear hK;try simp only [List.setIfInBounds_toArray, List.set_cons_zero, List.set_cons_succ]
 iterate 5
  first | refine' tkH 7 rfl hHeld rfl ?_ ?_ | refine' tkH 8 rfl hHeld rfl ?_ ?_ | refine' tkH 9 rfl hHeld rfl ?_ ?_ | refine' tkH 10 rfl hHeld rfl ?_ ?_ | refine' tkH 11 rfl hHeld rfl ?_ ?_
  rotate_left
  ·(intro W' hW; (try dsimp only at hW); obtain ⟨z2, z3, z4⟩ := hW; go_simp; (try with_reducible rfl))
  try simp only [Act.put, List.setIfInBounds_toArray, List.set_cons_zero, List.set_cons_succ]
 refine wpAnyH_done (by kernel_rfl) ?_ _;have c4 := hHeld.2.2;clear hHeld c2 c3;go_wp2_with fail
 refine (stands_any (some ⟨g1, 0, none⟩) c1 P n c ps u3 O3.out.isB (HP.out.1.under HP.out.2.2.2 K3.out) HP.out.2.1 h3 l1 m1).mono ?_;rintro e u4 ⟨rfl, d4, rfl⟩;have HT := hide (HT.out.below (below_drewN (Below.refl _ _) d4));have O4 := hide (O3.out.drewN d4);have K4 := hide (below_drewN K3.out d4);clear c4;go_wp2_with fail
 generalize u3.drewN d4 = u5 at *;refine (spoilT_any (some ⟨g1, 0, none⟩) (n + 1) c1 (ps ++ [171]) u5 (O4.out.more (Nat.zero_le _)) (by rw [List.length_append, HP.out.2.1]; rfl) (by omega)).mono ?_;rintro e u6 ⟨rfl, t6⟩;have hsub : ∀ k, (Value.slice (some ⟨g1, 0, none⟩) (n + 1) c1).ownBlock = some k -> k = g1 := fun k hk => by simpa [Value.ownBlock] using hk.symm
 have HT6 := HT.out.turn t6 (fun k hk hS => by
  have e := hsub k hS;rcases hk with (hk | hk) | (hk | hk)
  ·exact HF1.out.1 k hk e
  ·exact HF1.out.2 k hk e
  ·exact HF2.out.1 k hk e
  ·exact HF2.out.2 k hk e) (fun hS => by have e := hsub q hS; have h1 := HQ.out; have h2 := G1.out.1; omega)
 have K6 := K4.out.trans (t6.below HT.out.duo.base (fun k hS => by have e := hsub k hS; have h1 := HBW.out; have h2 := G1.out.1; omega));go_wp2_with fail
 go_ret;exact ⟨rfl, ⟨_, _, _, _, HT6⟩, K6⟩
set_option maxRecDepth 100000 in
set_option maxHeartbeats 3200000 in
theorem does_cutG (h : PairAt B q w F G Fd Gd d l p m room s M L) (N K : Int) (A : Option Addr) (n c : Nat) (y : Int) (code : Int) (M' : LogL) (L' : DiskL)
  (hp : ∀ u, Pro u F G d l room s M L -> Calls Tryz.prog 44 #[.pointer (some ⟨l, 0, none⟩), .int .i64 N] u fun e w' => e = .returned (.int .i64 code) /\ ∃ F' G', Pro w' F' G' d l room s M' L' /\ Turn (fun k => F k \/ G k) u w' /\ (∀ k, F' k -> F k \/ u.heap.size <= k) /\ (∀ k, G' k -> G k \/ u.heap.size <= k))
  (hr : ∀ u, RBoth u Fd Gd p m room s M L -> Calls Tryz.prog 45 #[.pointer (some ⟨m, 0, none⟩), .int .i64 N] u fun e w' => e = .returned (.int .i64 code) /\ ∃ Fd' Gd', RBoth w' Fd' Gd' p m room s M' L' /\ Turn (fun k => Fd k \/ Gd k) u w' /\ (∀ k, Fd' k -> Fd k \/ u.heap.size <= k) /\ (∀ k, Gd' k -> Gd k \/ u.heap.size <= k)) :
  Calls Tryz.prog 12 #[.pointer (some ⟨q, 0, none⟩), .agg #[.int .i64 4, .int .i64 N, .int .i64 K, .slice A n c, .int .u8 y]] w fun e w' => e = .returned (.bool true) /\ Stood B q d l p m room s M' L' w' /\ Below B w w' := by
 have HB : Hid (B <= w.heap.size) := hide h.duo.base;have kb := below_alloc w (.cells #[.int .i64 4, .int .i64 N, .int .i64 K, .slice A n c, .int .u8 y] 42);have bx := Blk.new w (B := 0) 42 #[.int .i64 4, .int .i64 N, .int .i64 K, .slice A n c, .int .u8 y] (Nat.zero_le _);obtain ⟨g0, hg0⟩ : ∃ g, g = w.heap.size := ⟨_, rfl⟩;have hx0 : ¬ (F g0 \/ G g0) := fun hk => by have := h.duo.pro.low g0 hk; omega
 have hx1 : ¬ (Fd g0 \/ Gd g0) := fun hk => by have := h.duo.ref.low g0 hk; omega
 have HX := hide (And.intro hx0 hx1);have KB := hide kb;have H0 := hide (h.below kb);have HP := hide hp;have HR := hide hr;have hcc : ((code : Int) == code) = true := by simp
 clear h kb hp hr hx0 hx1;go_enter Tryz.func12, Tryz.ntmps12;go_wp2_with fail
 obtain ⟨W, hW⟩ : ∃ W, W = w.alloc (.cells #[.int .i64 4, .int .i64 N, .int .i64 K, .slice A n c, .int .u8 y] 42) := ⟨_, rfl⟩;rw [<- hW, <- hg0] at bx;rw [<- hW] at KB H0;rw [<- hW, <- hg0];have BX := hide bx;clear hW hg0 bx;obtain ⟨-, -, c2, c3⟩ := pair_cells H0.out.blk;have c4 : W.cell? ⟨g0, 1, none⟩ = some (.int .i64 N) := BX.out.cell 1;refine heldT_top (fun W' => W'.cell? ⟨q, 2, none⟩ = some (.pointer (some ⟨l, 0, none⟩)) /\ W'.cell? ⟨q, 3, none⟩ = some (.pointer (some ⟨m, 0, none⟩)) /\ W'.cell? ⟨g0, 1, none⟩ = some (.int .i64 N)) 16 #[false, false, false, false, false, false, false, false, false, false, false, false, false, false, false, false] (by kernel_rfl) (by kernel_rfl) (by kernel_rfl) ?_;have hHeld : (fun W' => W'.cell? ⟨q, 2, none⟩ = some (.pointer (some ⟨l, 0, none⟩)) /\ W'.cell? ⟨q, 3, none⟩ = some (.pointer (some ⟨m, 0, none⟩)) /\ W'.cell? ⟨g0, 1, none⟩ = some (.int .i64 N)) (W.drewN 1) := ⟨c2, c3, c4⟩;have H1 := hide (H0.out.below (below_drewN (Below.refl _ _) 1));have BX := hide (BX.out.drewN 1);have K1 : Hid (Below B w (W.drewN 1)) := hide (by have h9 := KB.out.mono HB.out; exact below_drewN h9 1);clear H0 KB c2 c3 c4;change wpAnyH _ _ _ _ _ _ _ _ (W.drewN 1);generalize W.drewN 1 = U at *
 iterate 12
  first | refine' tkH 0 rfl hHeld rfl ?_ ?_ | refine' tkH 1 rfl hHeld rfl ?_ ?_ | refine' tkH 2 rfl hHeld rfl ?_ ?_ | refine' tkH 3 rfl hHeld rfl ?_ ?_ | refine' tkH 4 rfl hHeld rfl ?_ ?_ | refine' tkH 5 rfl hHeld rfl ?_ ?_ | refine' tkH 7 rfl hHeld rfl ?_ ?_ | refine' tkH 8 rfl hHeld rfl ?_ ?_ | refine' tkH 9 rfl hHeld rfl ?_ ?_ | refine' tkH 10 rfl hHeld rfl ?_ ?_ | refine' tkH 11 rfl hHeld rfl ?_ ?_ | refine' tkH 12 rfl hHeld rfl ?_ ?_
  rotate_left
  ·(intro W' hW; (try dsimp only at hW); obtain ⟨z2, z3, z4⟩ := hW; go_simp; (try with_reducible rfl))
  try simp only [Act.put, List.setIfInBounds_toArray, List.set_cons_zero, List.set_cons_succ]
 clear hHeld;refine heldT_one (i := 6) (by kernel_rfl) rfl (fun K' hK => ?_);go_simp;go_at_call 44;refine (HP.out _ H1.out.duo.pro).mono ?_;rintro e u1 ⟨rfl, F1, G1, hp1, t1, f1, g1⟩;obtain ⟨mid, k1⟩ := H1.out.first hp1 t1 f1 g1;have HM := hide mid;have BX := hide (BX.out.turn t1 HX.out.1);have K2 := hide (K1.out.trans k1);clear hp1 t1 f1 g1 mid k1 H1 K1 HP;obtain ⟨-, -, c2, c3⟩ := pair_cells HM.out.blk;refine hK.out _ _ ⟨c2, c3, BX.out.cell 1⟩ ?_;clear hK;try simp only [List.setIfInBounds_toArray, List.set_cons_zero, List.set_cons_succ]
 refine heldT_one (i := 13) (by kernel_rfl) rfl (fun K' hK => ?_);go_simp;go_at_call 45;refine (HR.out _ HM.out.ref).mono ?_;rintro e u2 ⟨rfl, Fd2, Gd2, hr2, t2, f2, g2⟩;obtain ⟨pr, k2⟩ := HM.out.second hr2 t2 f2 g2;have HQ := hide pr;have BX := hide (BX.out.turn t2 HX.out.2);have K3 := hide (K2.out.trans k2);clear hr2 t2 f2 g2 pr k2 HM K2 c2 c3 HR;obtain ⟨-, -, c2, c3⟩ := pair_cells HQ.out.blk;have hHeld : (fun W' => W'.cell? ⟨q, 2, none⟩ = some (.pointer (some ⟨l, 0, none⟩)) /\ W'.cell? ⟨q, 3, none⟩ = some (.pointer (some ⟨m, 0, none⟩)) /\ W'.cell? ⟨g0, 1, none⟩ = some (.int .i64 N)) u2 := ⟨c2, c3, BX.out.cell 1⟩;refine hK.out _ _ hHeld ?_;clear hK c2 c3;try simp only [List.setIfInBounds_toArray, List.set_cons_zero, List.set_cons_succ]
 iterate 2
  first | refine' tkH 14 rfl hHeld rfl ?_ ?_ | refine' tkH 15 rfl hHeld rfl ?_ ?_
  rotate_left
  ·(intro W' hW; (try dsimp only at hW); obtain ⟨z2, z3, z4⟩ := hW; go_simp; (try with_reducible rfl))
  try simp only [Act.put, List.setIfInBounds_toArray, List.set_cons_zero, List.set_cons_succ]
 refine wpAnyH_done (by kernel_rfl) ?_ _;clear hHeld;go_wp2_with fail
 go_ret;exact ⟨rfl, ⟨_, _, _, _, HQ.out⟩, K3.out⟩
theorem does_cut_bad (h : PairAt B q w F G Fd Gd d l p m room s M L) (N K : Int) (A : Option Addr) (n c : Nat) (y : Int) (hn : M.next <= 1099511627776) (hz : N < (firstL M : Int) \/ (M.next : Int) < N) :
  Calls Tryz.prog 12 #[.pointer (some ⟨q, 0, none⟩), .agg #[.int .i64 4, .int .i64 N, .int .i64 K, .slice A n c, .int .u8 y]] w fun e w' => e = .returned (.bool true) /\ Stood B q d l p m room s M L w' /\ Below B w w' := by
 refine does_cutG h N K A n c y 1 M L (fun u hu => (pro_cut_bad hu N hz).mono ?_) (fun u hu => (rlogcut_bad u Gd m p s M N hu.log hn hz).mono ?_)
 ·rintro e w' ⟨rfl, k⟩;exact ⟨rfl, F, G, hu.below k, Turn.of_below _ k, fun k h => .inl h, fun k h => .inl h⟩
 ·rintro e w' ⟨rfl, j, rfl⟩;exact ⟨rfl, Fd, Gd, hu.turn (S := fun _ => False) ((Turn.refl _ _).drewN j) (fun _ _ h => h), (Turn.refl _ _).drewN j, fun k h => .inl h, fun k h => .inl h⟩
theorem does_cut_ok (h : PairAt B q w F G Fd Gd d l p m room s M L) (i : Nat) (K : Int) (A : Option Addr) (n c : Nat) (y : Int) (hs : s.size <= 64) (hn : M.next <= 1099511627776) (h1 : firstL M <= i) (h2 : i <= M.next)
  (hsz : ∀ x ∈ M.segs, x.1 <= 1099511627776 /\ x.2.length <= 1099511627776 /\ (recsL x.1 x.2).length <= 1099511627776 /\ ∀ p ∈ x.2, p.length <= 1048566 /\ ∀ b ∈ p, b < 256) (hsl : M.segs.length < 1073741824) :
  Calls Tryz.prog 12 #[.pointer (some ⟨q, 0, none⟩), .agg #[.int .i64 4, .int .i64 (i : Int), .int .i64 K, .slice A n c, .int .u8 y]] w fun e w' => e = .returned (.bool true) /\ Stood B q d l p m room s (cutW s.data.toList i M L).1 (cutW s.data.toList i M L).2 w' /\ Below B w w' :=
 does_cutG h (i : Int) K A n c y 0 _ _ (fun _u hu => pro_cut hu i h1 h2) (fun u hu => rlogcut_ok u Fd Gd p m room s M L i hu hs hn h1 h2 hsz hsl)
set_option maxRecDepth 100000 in
set_option maxHeartbeats 3200000 in
theorem does_dropG (h : PairAt B q w F G Fd Gd d l p m room s M L) (N K : Int) (A : Option Addr) (n c : Nat) (y : Int) (code : Int) (M' : LogL) (L' : DiskL)
  (hp : ∀ u, Pro u F G d l room s M L -> Calls Tryz.prog 46 #[.pointer (some ⟨l, 0, none⟩), .int .i64 N] u fun e w' => e = .returned (.int .i64 code) /\ ∃ F' G', Pro w' F' G' d l room s M' L' /\ Turn (fun k => F k \/ G k) u w' /\ (∀ k, F' k -> F k \/ u.heap.size <= k) /\ (∀ k, G' k -> G k \/ u.heap.size <= k))
  (hr : ∀ u, RBoth u Fd Gd p m room s M L -> Calls Tryz.prog 47 #[.pointer (some ⟨m, 0, none⟩), .int .i64 N] u fun e w' => e = .returned (.int .i64 code) /\ ∃ Fd' Gd', RBoth w' Fd' Gd' p m room s M' L' /\ Turn (fun k => Fd k \/ Gd k) u w' /\ (∀ k, Fd' k -> Fd k \/ u.heap.size <= k) /\ (∀ k, Gd' k -> Gd k \/ u.heap.size <= k)) :
  Calls Tryz.prog 12 #[.pointer (some ⟨q, 0, none⟩), .agg #[.int .i64 5, .int .i64 N, .int .i64 K, .slice A n c, .int .u8 y]] w fun e w' => e = .returned (.bool true) /\ Stood B q d l p m room s M' L' w' /\ Below B w w' := by
 have HB : Hid (B <= w.heap.size) := hide h.duo.base;have kb := below_alloc w (.cells #[.int .i64 5, .int .i64 N, .int .i64 K, .slice A n c, .int .u8 y] 42);have bx := Blk.new w (B := 0) 42 #[.int .i64 5, .int .i64 N, .int .i64 K, .slice A n c, .int .u8 y] (Nat.zero_le _);obtain ⟨g0, hg0⟩ : ∃ g, g = w.heap.size := ⟨_, rfl⟩;have hx0 : ¬ (F g0 \/ G g0) := fun hk => by have := h.duo.pro.low g0 hk; omega
 have hx1 : ¬ (Fd g0 \/ Gd g0) := fun hk => by have := h.duo.ref.low g0 hk; omega
 have HX := hide (And.intro hx0 hx1);have KB := hide kb;have H0 := hide (h.below kb);have HP := hide hp;have HR := hide hr;have hcc : ((code : Int) == code) = true := by simp
 clear h kb hp hr hx0 hx1;go_enter Tryz.func12, Tryz.ntmps12;go_wp2_with fail
 obtain ⟨W, hW⟩ : ∃ W, W = w.alloc (.cells #[.int .i64 5, .int .i64 N, .int .i64 K, .slice A n c, .int .u8 y] 42) := ⟨_, rfl⟩;rw [<- hW, <- hg0] at bx;rw [<- hW] at KB H0;rw [<- hW, <- hg0];have BX := hide bx;clear hW hg0 bx;obtain ⟨-, -, c2, c3⟩ := pair_cells H0.out.blk;have c4 : W.cell? ⟨g0, 1, none⟩ = some (.int .i64 N) := BX.out.cell 1;refine heldT_top (fun W' => W'.cell? ⟨q, 2, none⟩ = some (.pointer (some ⟨l, 0, none⟩)) /\ W'.cell? ⟨q, 3, none⟩ = some (.pointer (some ⟨m, 0, none⟩)) /\ W'.cell? ⟨g0, 1, none⟩ = some (.int .i64 N)) 16 #[false, false, false, false, false, false, false, false, false, false, false, false, false, false, false, false] (by kernel_rfl) (by kernel_rfl) (by kernel_rfl) ?_;have hHeld : (fun W' => W'.cell? ⟨q, 2, none⟩ = some (.pointer (some ⟨l, 0, none⟩)) /\ W'.cell? ⟨q, 3, none⟩ = some (.pointer (some ⟨m, 0, none⟩)) /\ W'.cell? ⟨g0, 1, none⟩ = some (.int .i64 N)) (W.drewN 1) := ⟨c2, c3, c4⟩;have H1 := hide (H0.out.below (below_drewN (Below.refl _ _) 1));have BX := hide (BX.out.drewN 1);have K1 : Hid (Below B w (W.drewN 1)) := hide (by have h9 := KB.out.mono HB.out; exact below_drewN h9 1);clear H0 KB c2 c3 c4;change wpAnyH _ _ _ _ _ _ _ _ (W.drewN 1);generalize W.drewN 1 = U at *
 iterate 12
  first | refine' tkH 0 rfl hHeld rfl ?_ ?_ | refine' tkH 1 rfl hHeld rfl ?_ ?_ | refine' tkH 2 rfl hHeld rfl ?_ ?_ | refine' tkH 3 rfl hHeld rfl ?_ ?_ | refine' tkH 4 rfl hHeld rfl ?_ ?_ | refine' tkH 5 rfl hHeld rfl ?_ ?_ | refine' tkH 7 rfl hHeld rfl ?_ ?_ | refine' tkH 8 rfl hHeld rfl ?_ ?_ | refine' tkH 9 rfl hHeld rfl ?_ ?_ | refine' tkH 10 rfl hHeld rfl ?_ ?_ | refine' tkH 11 rfl hHeld rfl ?_ ?_ | refine' tkH 12 rfl hHeld rfl ?_ ?_
  rotate_left
  ·(intro W' hW; (try dsimp only at hW); obtain ⟨z2, z3, z4⟩ := hW; go_simp; (try with_reducible rfl))
  try simp only [Act.put, List.setIfInBounds_toArray, List.set_cons_zero, List.set_cons_succ]
 clear hHeld;refine heldT_one (i := 6) (by kernel_rfl) rfl (fun K' hK => ?_);go_simp;go_at_call 46;refine (HP.out _ H1.out.duo.pro).mono ?_;rintro e u1 ⟨rfl, F1, G1, hp1, t1, f1, g1⟩;obtain ⟨mid, k1⟩ := H1.out.first hp1 t1 f1 g1;have HM := hide mid;have BX := hide (BX.out.turn t1 HX.out.1);have K2 := hide (K1.out.trans k1);clear hp1 t1 f1 g1 mid k1 H1 K1 HP;obtain ⟨-, -, c2, c3⟩ := pair_cells HM.out.blk;refine hK.out _ _ ⟨c2, c3, BX.out.cell 1⟩ ?_;clear hK;try simp only [List.setIfInBounds_toArray, List.set_cons_zero, List.set_cons_succ]
 refine heldT_one (i := 13) (by kernel_rfl) rfl (fun K' hK => ?_);go_simp;go_at_call 47;refine (HR.out _ HM.out.ref).mono ?_;rintro e u2 ⟨rfl, Fd2, Gd2, hr2, t2, f2, g2⟩;obtain ⟨pr, k2⟩ := HM.out.second hr2 t2 f2 g2;have HQ := hide pr;have BX := hide (BX.out.turn t2 HX.out.2);have K3 := hide (K2.out.trans k2);clear hr2 t2 f2 g2 pr k2 HM K2 c2 c3 HR;obtain ⟨-, -, c2, c3⟩ := pair_cells HQ.out.blk;have hHeld : (fun W' => W'.cell? ⟨q, 2, none⟩ = some (.pointer (some ⟨l, 0, none⟩)) /\ W'.cell? ⟨q, 3, none⟩ = some (.pointer (some ⟨m, 0, none⟩)) /\ W'.cell? ⟨g0, 1, none⟩ = some (.int .i64 N)) u2 := ⟨c2, c3, BX.out.cell 1⟩;refine hK.out _ _ hHeld ?_;clear hK c2 c3;try simp only [List.setIfInBounds_toArray, List.set_cons_zero, List.set_cons_succ]
 iterate 2
  first | refine' tkH 14 rfl hHeld rfl ?_ ?_ | refine' tkH 15 rfl hHeld rfl ?_ ?_
  rotate_left
  ·(intro W' hW; (try dsimp only at hW); obtain ⟨z2, z3, z4⟩ := hW; go_simp; (try with_reducible rfl))
  try simp only [Act.put, List.setIfInBounds_toArray, List.set_cons_zero, List.set_cons_succ]
 refine wpAnyH_done (by kernel_rfl) ?_ _;clear hHeld;go_wp2_with fail
 go_ret;exact ⟨rfl, ⟨_, _, _, _, HQ.out⟩, K3.out⟩
theorem does_drop_bad (h : PairAt B q w F G Fd Gd d l p m room s M L) (N K : Int) (A : Option Addr) (n c : Nat) (y : Int) (hn : M.next <= 1099511627776) (hz : N < (firstL M : Int) \/ (M.next : Int) < N) :
  Calls Tryz.prog 12 #[.pointer (some ⟨q, 0, none⟩), .agg #[.int .i64 5, .int .i64 N, .int .i64 K, .slice A n c, .int .u8 y]] w fun e w' => e = .returned (.bool true) /\ Stood B q d l p m room s M L w' /\ Below B w w' := by
 refine does_dropG h N K A n c y 1 M L (fun u hu => (pro_drop_bad hu N hz).mono ?_) (fun u hu => (rlogdrop_bad u Gd m p s M N hu.log hn hz).mono ?_)
 ·rintro e w' ⟨rfl, k⟩;exact ⟨rfl, F, G, hu.below k, Turn.of_below _ k, fun k h => .inl h, fun k h => .inl h⟩
 ·rintro e w' ⟨rfl, j, rfl⟩;exact ⟨rfl, Fd, Gd, hu.turn (S := fun _ => False) ((Turn.refl _ _).drewN j) (fun _ _ h => h), (Turn.refl _ _).drewN j, fun k h => .inl h, fun k h => .inl h⟩
theorem does_drop_ok (h : PairAt B q w F G Fd Gd d l p m room s M L) (i : Nat) (K : Int) (A : Option Addr) (n c : Nat) (y : Int) (hs : s.size <= 64) (hn : M.next <= 1099511627776) (h1 : firstL M <= i) (h2 : i <= M.next)
  (hsz : ∀ x ∈ M.segs, x.1 <= 1099511627776 /\ x.2.length <= 1099511627776) (hsl : M.segs.length < 1073741824) :
  Calls Tryz.prog 12 #[.pointer (some ⟨q, 0, none⟩), .agg #[.int .i64 5, .int .i64 (i : Int), .int .i64 K, .slice A n c, .int .u8 y]] w fun e w' => e = .returned (.bool true) /\ Stood B q d l p m room s (dropW s.data.toList i M L).1 (dropW s.data.toList i M L).2 w' /\ Below B w w' :=
 does_dropG h (i : Int) K A n c y 0 _ _ (fun _u hu => pro_drop hu i h1 h2) (fun u hu => rlogdrop_ok u Fd Gd p m room s M L i hu hs hn h1 h2 hsz hsl)
set_option maxRecDepth 100000 in
set_option maxHeartbeats 3200000 in
theorem does_get (h : PairAt B q w F G Fd Gd d l p m room s M L) (N K : Int) (A : Option Addr) (n c : Nat) (y : Int) (hz1 : -9223372036854775808 <= N) (hz2 : N <= 9223372036854775807)
  (hsz : ∀ q ∈ M.segs, q.1 <= 1099511627776 /\ q.2.length <= 1099511627776 /\ ∀ p ∈ q.2, p.length <= 1099511627776) (hgl : (getE M N).1.length <= 1099511627776) :
  Calls Tryz.prog 12 #[.pointer (some ⟨q, 0, none⟩), .agg #[.int .i64 3, .int .i64 N, .int .i64 K, .slice A n c, .int .u8 y]] w fun e w' => e = .returned (.bool true) /\ PairAt B q w' F G Fd Gd d l p m room s M L /\ Below B w w' := by
 have HB : Hid (B <= w.heap.size) := hide h.duo.base;have kb := below_alloc w (.cells #[.int .i64 3, .int .i64 N, .int .i64 K, .slice A n c, .int .u8 y] 42);have bx := Blk.new w (B := 0) 42 #[.int .i64 3, .int .i64 N, .int .i64 K, .slice A n c, .int .u8 y] (Nat.zero_le _);obtain ⟨g0, hg0⟩ : ∃ g, g = w.heap.size := ⟨_, rfl⟩;obtain ⟨gx, hgx⟩ : ∃ x, x = (getE M N).1 := ⟨_, rfl⟩;obtain ⟨gc, hgc⟩ : ∃ x, x = (getE M N).2 := ⟨_, rfl⟩;obtain ⟨gn, hgn⟩ : ∃ x, x = gx.length := ⟨_, rfl⟩;rw [<- hgx, <- hgn] at hgl;have HG := hide (And.intro hgx (And.intro hgc hgn));have KB := hide kb;have H0 := hide (h.below kb);have HZ := hide (And.intro hz1 (And.intro hz2 hsz));have hcc : ((gc : Int) == (gc : Int)) = true := by simp
 clear h kb hz1 hz2 hsz hgx hgc hgn;go_enter Tryz.func12, Tryz.ntmps12;go_wp2_with fail
 obtain ⟨W, hW⟩ : ∃ W, W = w.alloc (.cells #[.int .i64 3, .int .i64 N, .int .i64 K, .slice A n c, .int .u8 y] 42) := ⟨_, rfl⟩;rw [<- hW, <- hg0] at bx;rw [<- hW] at KB H0;rw [<- hW, <- hg0];have BX := hide bx;clear hW hg0 bx;obtain ⟨-, -, c2, c3⟩ := pair_cells H0.out.blk;have c4 : W.cell? ⟨g0, 1, none⟩ = some (.int .i64 N) := BX.out.cell 1;refine heldT_top (fun W' => W'.cell? ⟨q, 2, none⟩ = some (.pointer (some ⟨l, 0, none⟩)) /\ W'.cell? ⟨q, 3, none⟩ = some (.pointer (some ⟨m, 0, none⟩)) /\ W'.cell? ⟨g0, 1, none⟩ = some (.int .i64 N)) 12 #[false, false, false, false, false, false, false, false, false, false, false, false] (by kernel_rfl) (by kernel_rfl) (by kernel_rfl) ?_;have hHeld : (fun W' => W'.cell? ⟨q, 2, none⟩ = some (.pointer (some ⟨l, 0, none⟩)) /\ W'.cell? ⟨q, 3, none⟩ = some (.pointer (some ⟨m, 0, none⟩)) /\ W'.cell? ⟨g0, 1, none⟩ = some (.int .i64 N)) (W.drewN 1) := ⟨c2, c3, c4⟩;have H1 := hide (H0.out.below (below_drewN (Below.refl _ _) 1));have BX := hide (BX.out.drewN 1);have K1 : Hid (Below B w (W.drewN 1)) := hide (by have h9 := KB.out.mono HB.out; exact below_drewN h9 1);clear H0 KB c2 c3 c4;change wpAnyH _ _ _ _ _ _ _ _ (W.drewN 1);generalize W.drewN 1 = U at *
 iterate 6
  first | refine' tkH 0 rfl hHeld rfl ?_ ?_ | refine' tkH 1 rfl hHeld rfl ?_ ?_ | refine' tkH 2 rfl hHeld rfl ?_ ?_ | refine' tkH 3 rfl hHeld rfl ?_ ?_ | refine' tkH 4 rfl hHeld rfl ?_ ?_ | refine' tkH 5 rfl hHeld rfl ?_ ?_
  rotate_left
  ·(intro W' hW; (try dsimp only at hW); obtain ⟨z2, z3, z4⟩ := hW; go_simp; (try with_reducible rfl))
  try simp only [Act.put, List.setIfInBounds_toArray, List.set_cons_zero, List.set_cons_succ]
 clear hHeld;refine heldT_one (i := 6) (by kernel_rfl) rfl (fun K' hK => ?_);go_simp;go_at_call 41;refine (read_get H1.out.duo.pro.read N).mono ?_;rintro e u1 ⟨v1, rfl, o1, k1⟩;rw [<- HG.out.1] at o1;rw [<- HG.out.2.1];obtain ⟨A1, q1, rfl, i1, l1, m1⟩ := o1.isB.form (n := gn) HG.out.2.2.symm;have O1 := hide o1;have J1 := hide k1;have BX := hide (BX.out.keep k1);obtain ⟨-, -, c2, c3⟩ := pair_cells (H1.out.below J1.out).blk;have hHeld : (fun W' => W'.cell? ⟨q, 2, none⟩ = some (.pointer (some ⟨l, 0, none⟩)) /\ W'.cell? ⟨q, 3, none⟩ = some (.pointer (some ⟨m, 0, none⟩)) /\ W'.cell? ⟨g0, 1, none⟩ = some (.int .i64 N)) u1 := ⟨c2, c3, BX.out.cell 1⟩;refine hK.out _ _ hHeld ?_;clear hK o1 k1 i1;try simp only [List.setIfInBounds_toArray, List.set_cons_zero, List.set_cons_succ]
 iterate 5
  first | refine' tkH 7 rfl hHeld rfl ?_ ?_ | refine' tkH 8 rfl hHeld rfl ?_ ?_ | refine' tkH 9 rfl hHeld rfl ?_ ?_ | refine' tkH 10 rfl hHeld rfl ?_ ?_ | refine' tkH 11 rfl hHeld rfl ?_ ?_
  rotate_left
  ·(intro W' hW; (try dsimp only at hW); obtain ⟨z2, z3, z4⟩ := hW; go_simp; (try with_reducible rfl))
  try simp only [Act.put, List.setIfInBounds_toArray, List.set_cons_zero, List.set_cons_succ]
 refine wpAnyH_done (by kernel_rfl) ?_ _;clear hHeld;go_wp2_with fail
 refine heldT_top (fun W' => W'.cell? ⟨q, 2, none⟩ = some (.pointer (some ⟨l, 0, none⟩)) /\ W'.cell? ⟨q, 3, none⟩ = some (.pointer (some ⟨m, 0, none⟩)) /\ W'.cell? ⟨g0, 1, none⟩ = some (.int .i64 N)) 12 #[false, false, false, false, false, false, false, false, false, false, false, false] (by kernel_rfl) (by kernel_rfl) (by kernel_rfl) ?_;have hHeld : (fun W' => W'.cell? ⟨q, 2, none⟩ = some (.pointer (some ⟨l, 0, none⟩)) /\ W'.cell? ⟨q, 3, none⟩ = some (.pointer (some ⟨m, 0, none⟩)) /\ W'.cell? ⟨g0, 1, none⟩ = some (.int .i64 N)) (u1.drewN 1) := ⟨c2, c3, BX.out.cell 1⟩;have J2 := hide (below_drewN J1.out 1);have BX := hide (BX.out.drewN 1);have O1 := hide (O1.out.drewN 1);clear J1 c2 c3;change wpAnyH _ _ _ _ _ _ _ _ (u1.drewN 1);generalize u1.drewN 1 = u2 at *
 iterate 6
  first | refine' tkH 0 rfl hHeld rfl ?_ ?_ | refine' tkH 1 rfl hHeld rfl ?_ ?_ | refine' tkH 2 rfl hHeld rfl ?_ ?_ | refine' tkH 3 rfl hHeld rfl ?_ ?_ | refine' tkH 4 rfl hHeld rfl ?_ ?_ | refine' tkH 5 rfl hHeld rfl ?_ ?_
  rotate_left
  ·(intro W' hW; (try dsimp only at hW); obtain ⟨z2, z3, z4⟩ := hW; go_simp; (try with_reducible rfl))
  try simp only [Act.put, List.setIfInBounds_toArray, List.set_cons_zero, List.set_cons_succ]
 clear hHeld;refine heldT_one (i := 6) (by kernel_rfl) rfl (fun K' hK => ?_);go_simp;go_at_call 42;refine (rget_any _ Gd m p s M N (H1.out.below J2.out).duo.ref.log HZ.out.1 HZ.out.2.1 HZ.out.2.2).mono ?_;rintro e u3 ⟨v2, rfl, o2, k2⟩;rw [<- HG.out.1] at o2;rw [<- HG.out.2.1];obtain ⟨A2, q2, rfl, i2, l2, m2⟩ := o2.isB.form (n := gn) HG.out.2.2.symm;have I2 := hide i2;have O1 := hide (O1.out.keep k2);have J3 := hide (below_step J2.out k2);have BX := hide (BX.out.keep k2);obtain ⟨-, -, c2, c3⟩ := pair_cells (H1.out.below J3.out).blk;have hHeld : (fun W' => W'.cell? ⟨q, 2, none⟩ = some (.pointer (some ⟨l, 0, none⟩)) /\ W'.cell? ⟨q, 3, none⟩ = some (.pointer (some ⟨m, 0, none⟩)) /\ W'.cell? ⟨g0, 1, none⟩ = some (.int .i64 N)) u3 := ⟨c2, c3, BX.out.cell 1⟩;refine hK.out _ _ hHeld ?_;clear hK o2 k2 i2 J2;try simp only [List.setIfInBounds_toArray, List.set_cons_zero, List.set_cons_succ]
 iterate 5
  first | refine' tkH 7 rfl hHeld rfl ?_ ?_ | refine' tkH 8 rfl hHeld rfl ?_ ?_ | refine' tkH 9 rfl hHeld rfl ?_ ?_ | refine' tkH 10 rfl hHeld rfl ?_ ?_ | refine' tkH 11 rfl hHeld rfl ?_ ?_
  rotate_left
  ·(intro W' hW; (try dsimp only at hW); obtain ⟨z2, z3, z4⟩ := hW; go_simp; (try with_reducible rfl))
  try simp only [Act.put, List.setIfInBounds_toArray, List.set_cons_zero, List.set_cons_succ]
 refine wpAnyH_done (by kernel_rfl) ?_ _;clear hHeld c2 c3;go_wp2_with fail
 refine (same_any A1 A2 gn gn q1 q2 gx gx _ O1.out.isB.rd I2.out.rd HG.out.2.2 HG.out.2.2 (by omega) (by omega)).mono ?_;rintro e u4 ⟨rfl, d4, rfl⟩;rw [decide_eq_true rfl];have J4 := hide (below_drewN J3.out d4);have O4 := hide (O1.out.drewN d4);go_wp2_with fail
 refine (spoil_any A1 gn q1 gx _ U.heap.size O4.out HG.out.2.2.symm J4.out.size hgl).mono ?_;rintro e u5 ⟨rfl, k5⟩;have J5 := J4.out.trans k5;go_wp2_with fail
 go_ret;exact ⟨rfl, H1.out.below J5, K1.out.trans (J5.mono H1.out.duo.base)⟩
end Go.Proofs.YtbmhfnhfhdgdgaaGreat
