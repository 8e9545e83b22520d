/- The walk of the law's own known(): one that is alone leads. No condition. RaftKeeps: Hear of the rows as entries, whether there are any or none; a crash and an  -/
import Derived.Test.YtedlibkkeegnaaaGreatRp37
namespace Go.Proofs.YtedlibkkeegnaaaGreat
open Go.RowKit Go.Maps
variable {w : World} {F : Nat -> Prop} {L : DiskL} {M : LogL} {room l d : Nat}
def kN (j : Nat) : Nd := { ndNew 0 1 0 0 0 with wait := ((10 - j : Nat) : Int) }
def kN9 (vt : Nat) : Nd := ⟨0, 1, 1, 0, 2, 0, 1, 0, 3, vt, pairsL 1 5⟩
theorem k_ents : ∀ i (hi : i < ([(1, [])] : List (Nat × List Nat)).length), HasE (addE 10000 1 kM0 kL1).1 ((0 + 1 + i : Nat) : Int) (([(1, [])] : List (Nat × List Nat))[i]).1 (([(1, [])] : List (Nat × List Nat))[i]).2 := by
 intro i hi;have hi0 : i = 0 := by simpa using hi
 subst hi0;exact k_has
theorem ktick_wait {j : Nat} {S : Nat -> Prop} {r : Nat} (h : NdS w S r d l 10000 (kN j) kM0 []) (hj : j < 9) :
  Calls Tryz.prog 14 #[.pointer (some ⟨r, 0, none⟩), .int .i64 0] w fun e w' => (∃ A n c, e = .returned (.slice A n c)) /\ NdS w' S r d l 10000 (kN (j + 1)) kM0 [] /\ Next S w S w' := by
 refine (tick_wait h 0 (10 - j) rfl (by omega) (by omega)).mono ?_;rintro e w' ⟨rfl, h2, n2⟩;refine ⟨⟨_, _, _, rfl⟩, ?_, n2⟩;have e9 : (10 - j - 1 : Nat) = 10 - (j + 1) := by omega
 rw [e9] at h2;exact h2
theorem ktick_last {S : Nat -> Prop} {r : Nat} (h : NdS w S r d l 10000 (kN 9) kM0 []) :
  Calls Tryz.prog 14 #[.pointer (some ⟨r, 0, none⟩), .int .i64 0] w fun e w' => (∃ A n c, e = .returned (.slice A n c)) /\ ∃ S' vt, NdS w' S' r d l 10000 (kN9 vt) (addE 10000 1 kM0 kL1).1 (addE 10000 1 kM0 kL1).2 /\ Next S w S' w' := by
 refine tick_stand h 0 rfl (.inl rfl) (fun w1 h1 n1 => ?_);have hL : termP (numsL [1, 1]) [] = kL1 := by rw [k_nums]; rfl
 have h9 := stand_one h1 0 rfl rfl rfl rfl rfl (by decide) (by show (draftL 10000 termK (numsL [1, 1]) []).2 = 0; rw [k_nums]; exact k_draft)
  (by show (addL 10000 logK (uvl 1) kM0 (termP (numsL [1, 1]) [])).2.2 = 0; rw [hL, k_uvl]; exact k_add.1)
  (by show (addE 10000 1 kM0 (termP (numsL [1, 1]) [])).1.next = 2; rw [hL]; unfold addE; rw [k_uvl]; exact k_add.2.1)
  (by show TermE (addE 10000 1 kM0 (termP (numsL [1, 1]) [])).1 1 1; rw [hL]; exact .inl ⟨[], k_has⟩)
 refine h9.mono ?_;rintro e w2 ⟨rfl, S2, vt, h2, n2⟩;refine ⟨_, _, _, rfl, ⟨_, _, _, rfl⟩, S2, vt, ?_, n1.trans n2⟩;have h3 : NdS w2 S2 r d l 10000 (kN9 vt) (addE 10000 1 kM0 (termP (numsL [1, 1]) [])).1 (addE 10000 1 kM0 (termP (numsL [1, 1]) [])).2 := h2;rw [hL] at h3;exact h3
set_option maxRecDepth 100000 in
set_option maxHeartbeats 3200000 in
theorem known_any (w : World) : Calls Tryz.prog 5 #[] w fun e w' => e = .returned (.bool true) /\ Below w.heap.size w w' := by
 go_enter Tryz.func5, Tryz.ntmps5;go_wp2_with fail
 refine (new_any 10000 w (by decide)).mono ?_;rintro e w1 ⟨d, F1, rfl, d1, l1, k1⟩;have D1 := hide d1;have K1 := hide k1;have L1 := hide l1;clear d1 l1 k1;go_wp2_with fail
 have hop := ropen_any F1 d 10000 [] 0 1 0 0 0 w1 D1.out (.inl rfl) (by decide) k_term (by decide) (by decide) rfl (by rw [k_open.1]; exact k_all);rw [k_open.1, k_open.2] at hop;refine Calls.mono (show Calls Tryz.prog 7 #[.int .i64 0, .int .i64 1, .pointer (some ⟨d, 0, none⟩), .int .i64 0] w1 _ from hop) ?_;rintro e w2 ⟨r, l, rfl, S2, h2, n2⟩;have H2 := hide (show NdS w2 S2 r d l 10000 (kN 0) kM0 [] from h2);have K2 := hide (K1.out.trans (n2.below K1.out.size L1.out));have HS2 := hide (n2.up K1.out.size L1.out);clear h2 n2 hop;go_wp2_with fail
 go_loopw [5] (fun i wr => ∃ (j : Nat) (S : Nat -> Prop), j <= 10 /\ i = .int .i64 (j : Int) /\ Hid (∀ k, S k -> w.heap.size <= k) /\ Hid (Below w.heap.size w wr) /\ (j < 10 -> Hid (NdS wr S r d l 10000 (kN j) kM0 [])) /\ (j = 10 -> Hid (∃ vt, NdS wr S r d l 10000 (kN9 vt) (addE 10000 1 kM0 kL1).1 (addE 10000 1 kM0 kL1).2))) (fun i _ => 10 - (intOf i).toNat)
 case atStart => exact ⟨0, S2, by omega, rfl, HS2, K2, fun _ => H2, fun h => by omega⟩
 case round =>
  obtain ⟨j, S, hj, rfl, HS, HK, HA, HB⟩ := hrel;by_cases hlt : j < 10
  ·have hjz : (j : Int) < 10 := by omega
   by_cases h9 : j < 9
   ·have TW := hide (ktick_wait (HA hlt).out h9);clear HA HB;go_wp2_with fail
    refine TW.out.mono ?_;rintro e w3 ⟨⟨A, n, c, rfl⟩, h3, n3⟩;have H3 := hide h3;have N3 := hide n3;clear h3 n3 TW;go_wp2_with fail
    go_roundw
    case rel => exact ⟨j + 1, S, by omega, by go_num, HS, hide (HK.out.trans (N3.out.below HK.out.size HS.out)), fun _ => H3, fun h => by omega⟩
    case measure => simp [intOf]; omega
   ·obtain rfl : j = 9 := by omega
    have TW := hide (ktick_last (HA hlt).out);clear HA HB;go_wp2_with fail
    refine TW.out.mono ?_;rintro e w3 ⟨⟨A, n, c, rfl⟩, S3, vt, h3, n3⟩;have H3 : Hid (∃ vt, NdS w3 S3 r d l 10000 (kN9 vt) (addE 10000 1 kM0 kL1).1 (addE 10000 1 kM0 kL1).2) := hide ⟨vt, h3⟩;have N3 := hide n3;clear h3 n3 TW;go_wp2_with fail
    go_roundw
    case rel => exact ⟨10, S3, by omega, by go_num, hide (N3.out.up HK.out.size HS.out), hide (HK.out.trans (N3.out.below HK.out.size HS.out)), fun h => by omega, fun _ => H3⟩
    case measure => simp [intOf]
  ·obtain rfl : j = 10 := by omega
   obtain ⟨vt, h9⟩ := (HB rfl).out;have H9 := hide h9;clear h9 HA HB;go_wp2_with fail
   refine (state_any H9.out).mono ?_;rintro e w3 ⟨rfl, k3⟩;have H3 := hide (H9.out.below k3);have K3 := hide (HK.out.trans (k3.mono HK.out.size));clear k3;go_wp2_with fail
   refine (rtake_any H3.out [(1, [])] 1 0 rfl rfl rfl (by decide) (by decide) k_ents).mono ?_;rintro e w4 ⟨v, rfl, r4, _, n4⟩;have K4 := hide (K3.out.trans (n4.below K3.out.size HS.out));clear n4;rcases r4.form with ⟨h0, _⟩ | ⟨g, c, rfl, _, _, hf⟩
   ·cases h0
   obtain ⟨A, n, cc, _, c1, _, hn⟩ := hf 0 (by decide);have hn0 : n = 0 := hn.symm;subst hn0;have c1 : w4.cell? ⟨g, 1, none⟩ = some (.slice A 0 cc) := c1;clear hf hn r4;go_wp2_with fail
   go_ret;exact ⟨rfl, K4.out⟩
def rowE (xss : List (List Nat)) : List (Nat × List Nat) := xss.map fun r => (1, r)
theorem rowE_len (xss : List (List Nat)) : (rowE xss).length = xss.length := by simp [rowE]
def cntR (xss : List (List Nat)) : Nat := (xss.map fun r => 1 + r.length).sum
theorem cntR_step (xss : List (List Nat)) (j : Nat) (hj : j < xss.length) : cntR (xss.take (j + 1)) = cntR (xss.take j) + 1 + (xss.getD j []).length := by
 unfold cntR;rw [List.take_succ_eq_append_getElem hj, List.map_append, List.sum_append];simp [List.getD_eq_getElem?_getD, hj];omega
theorem cntR_mem : ∀ {xss : List (List Nat)} {r : List Nat}, r ∈ xss -> 1 + r.length <= cntR xss
 | x :: xs, r, h => by
  have e : cntR (x :: xs) = (1 + x.length) + cntR xs := by simp [cntR]
  rcases List.mem_cons.1 h with rfl | h'
  ·omega
  ·have := cntR_mem h';omega
theorem tot_rowE : ∀ xss : List (List Nat), totR ((rowE xss).map payE) = 10 * xss.length + cntR xss
 | [] => rfl
 | x :: xs => by
  have e1 : totR ((rowE (x :: xs)).map payE) = (10 + (payE (1, x)).length) + totR ((rowE xs).map payE) := by simp [totR, rowE]
  have e2 : cntR (x :: xs) = (1 + x.length) + cntR xs := by simp [cntR]
  have e3 : (payE (1, x)).length = 1 + x.length := by
   unfold payE;rw [List.length_append, uvl_low (by show 1 < 128; decide)]
   rfl
  rw [e1, e2, e3, tot_rowE xs, List.length_cons];omega
theorem rowE_fit {xss : List (List Nat)} (hc : cntR xss <= 4000) (hb : ∀ r ∈ xss, ∀ x ∈ r, x < 256) : ∀ x ∈ rowE xss, FitE x := fun x hx => by
 obtain ⟨r, hr, rfl⟩ := List.mem_map.1 hx;have h1 := cntR_mem hr;refine ⟨by show 1 <= _; decide, ?_, hb r hr⟩;rw [show (1, r).1 = 1 from rfl, uvl_low (by decide)]
 show 1 + r.length <= _
 omega
def uM0 : LogL := ⟨[], 1, []⟩
theorem u_term0 : TermE uM0 0 0 := .inr ⟨rfl, 7, rfl⟩
def layR (tm : Nat) (xss : List (List Nat)) : LogL × DiskL := layS 1048576 (rowE xss) (uM0, oneD (numsL [tm, 0]))
def logR (tm : Nat) (xss : List (List Nat)) : LogL := ⟨(layR tm xss).1.segs, (layR tm xss).1.next, []⟩
def diskR (tm : Nat) (xss : List (List Nat)) : DiskL := syncsL logK (layR tm xss).1.dirty (layR tm xss).2
def uN (draw : Int) (tm n tk : Nat) : Nd := ⟨0, 3, tm, -1, 0, 1, n, tk, waitOf draw, 0, noPeers⟩
theorem u_nums {x y : Nat} (h1 : x <= 1099511627776) (h2 : y <= 5) : (numsL [x, y]).length <= 20 := by
 have := numsL_len [x, y] (by intro z hz; simp at hz; omega);exact this
set_option maxRecDepth 100000 in
theorem hear_rows {S : Nat -> Prop} {r : Nat} {dr : Int} (h : NdS w S r d l 1048576 (ndNew 0 3 0 0 dr) uM0 []) (g tm : Nat) (D : Option Addr) (m dc : Nat) (xss : List (List Nat)) (n : Nat) (hn : xss.length = n) (hn8 : n <= 8) (hc : cntR xss <= 4000) (hb : ∀ r ∈ xss, ∀ x ∈ r, x < 256) (htm : 1 <= tm /\ tm <= 1073741824)
  (hN : NumsAt w g [(tm : Int), 0, 0, (n : Int)]) (hg : ¬ S g) (hLB : LowB w w.heap.size D m dc (sentL (rowE xss))) (hDS : ∀ b, D = some b -> ¬ S b.block) :
  Calls Tryz.prog 8 #[.pointer (some ⟨r, 0, none⟩), .agg #[.int .i64 1, .int .i64 0, .int .i64 3, .slice (some ⟨g, 0, none⟩) 4 4, .slice D m dc], .int .i64 0] w fun e w' => ∃ v ga, e = .returned v /\ OneA w' v 0 1 4 ga 3 3 /\ NumsAt w' ga [(tm : Int), 1, (n : Int)] /\ ∃ S', NdS w' S' r d l 1048576 (uN 0 tm n 0) (logR tm xss) (diskR tm xss) /\ Next S w S' w' := by
 have hz : okN [(tm : Int), 0, 0, (n : Int)] := by intro z hz; simp at hz; omega
 have hk : kindN 3 [(tm : Int), 0, 0, (n : Int)] := .inr (.inr (.inl ⟨rfl, rfl⟩));have hd : (draftL 1048576 termK (numsL [tm, 0]) []).2 = 0 := draft_nil (Nat.le_trans (u_nums (by omega) (by omega)) (by decide)) (by decide);have ht0 : (((ndNew 0 3 0 0 dr).term : Nat) : Int) < (tm : Int) := by show ((0 : Nat) : Int) < _; omega
 rcases Nat.eq_zero_or_pos n with h0 | hpos
 ·subst h0;have hx : xss = [] := List.eq_nil_of_length_eq_zero hn;subst hx;have hm : m = 0 := hLB.len.symm;subst hm;refine (hear_none h 1 0 0 g 4 tm (tm : Int) 0 0 0 (Nat.le_refl _) hN hg hz rfl (by show (1 : Int) ≠ 0; decide) (by decide) (by show (1 : Int) < 3; decide) hk ht0 rfl 0 0 0 rfl rfl rfl (by omega) hd ⟨Nat.le_refl _, Nat.le_refl _⟩ rfl (by decide) u_term0).mono ?_;rintro e w' ⟨v, ga, rfl, oa, na, S', d', n'⟩;exact ⟨v, ga, rfl, oa, na, S', d', n'⟩
 ·have htot := tot_rowE xss;have hlen : (rowE xss).length = n := by rw [rowE_len]; exact hn
  refine (hear_lay h 1 0 0 g 4 tm D m dc (tm : Int) 0 0 (n : Int) (Nat.le_refl _) hN hg hz rfl (by show (1 : Int) ≠ 0; decide) (by decide) (by show (1 : Int) < 3; decide) hk ht0 rfl 0 0 n n rfl rfl rfl (by omega) hd (Nat.le_refl _) rfl (by decide) u_term0 (rowE xss) n hlen hpos hn8 (by omega) ⟨Nat.zero_le _, Nat.le_refl _⟩ (by decide) rfl (rowE_fit hc hb) hLB hDS ?_).mono ?_
  ·intro j hj;exact lays_ok (fl := (frameL (numsL [tm, 0]), (frameL (numsL [tm, 0])).length)) (by rw [frame_len]; have := u_nums (x := tm) (y := 0) (by omega) (by omega); show 8 + _ <= 1000; omega) (rowE xss) (by rw [htot]; omega) j hj
  ·rintro e w' ⟨v, ga, rfl, oa, na, S', d', n'⟩;exact ⟨v, ga, rfl, oa, na, S', d', n'⟩
theorem u_frame {tm : Nat} (h : tm <= 1073741824) : (frameL (numsL [tm, 0])).length <= 1000 := by
 rw [frame_len];have := u_nums (x := tm) (y := 0) (by omega) (by omega)
 show 8 + _ <= 1000
 omega
theorem log_rows (tm : Nat) (xss : List (List Nat)) (h1 : tm <= 1073741824) (h2 : xss.length <= 8) (hc : cntR xss <= 4000) : AreE (logR tm xss) (rowE xss) := by
 have htot := tot_rowE xss;exact (lays_kept (b := frameL (numsL [tm, 0])) (u_frame h1) (rowE xss) (by rw [htot]; omega) 0).1
theorem crash_rows {S : Nat -> Prop} {r : Nat} {N : Nd} {tm : Nat} {xss : List (List Nat)} (h : NdS w S r d l 1048576 N M (diskR tm xss)) (z : Int) :
  Calls Tryz.prog 9 #[.pointer (some ⟨d, 0, none⟩), .int .i64 z] w fun e w' => e = .returned (.tuple #[]) /\ ∃ F F', DiskAt w' F' d 1048576 (crashD z.toNat (diskR tm xss)) /\ (∀ k, F k -> S k) /\ Next F w F' w' := by
 obtain ⟨F, G, hN, hs⟩ := h;obtain ⟨P, hp⟩ := hN.pro;refine (crash_any F d 1048576 _ z w hp.both.disk).mono ?_;rintro e w' ⟨rfl, F', d', n'⟩;exact ⟨rfl, F, F', d', fun k hk => (hs k).2 (.inl (.inl hk)), n'⟩
set_option maxRecDepth 100000 in
theorem open_rows {tm : Nat} {xss : List (List Nat)} {z : Int} (hD : DiskAt w F d 1048576 (crashD z.toNat (diskR tm xss))) (h1 : tm <= 1073741824) (h2 : xss.length <= 8) (hc : cntR xss <= 4000) (hb : ∀ r ∈ xss, ∀ x ∈ r, x < 256) (draw : Int) :
  Calls Tryz.prog 7 #[.int .i64 0, .int .i64 3, .pointer (some ⟨d, 0, none⟩), .int .i64 draw] w fun e w' => ∃ r l, e = .returned (.tuple #[.pointer (some ⟨r, 0, none⟩), .int .i64 0]) /\ ∃ S' M' L', NdS w' S' r d l 1048576 (ndNew 0 3 tm 0 draw) M' L' /\ M'.next = xss.length + 1 /\ Next F w S' w' := by
 have htot := tot_rowE xss;obtain ⟨D, e1, hA, f1, a1⟩ := (lays_kept (b := frameL (numsL [tm, 0])) (u_frame h1) (rowE xss) (by rw [htot]; omega) z.toNat).2;have e2 : crashD z.toNat (diskR tm xss) = D ++ oneD (numsL [tm, 0]) := e1;rw [e2] at hD;have hall : AllE (openR logK (D ++ oneD (numsL [tm, 0]))).log := a1.all (fun x hx => by
  obtain ⟨r, hr, rfl⟩ := List.mem_map.1 hx;exact ⟨by show 1 <= _; decide, hb r hr⟩)
 refine (ropen_any F d 1048576 _ 0 3 tm 0 draw w hD (.inr (.inl rfl)) (by decide) (term_kept hA (by omega)) (by omega) (Nat.zero_le _) f1 hall).mono ?_;rintro e w' ⟨r, l, rfl, S', h', n'⟩;refine ⟨r, l, rfl, S', _, _, h', ?_, n'⟩;have := a1.1;rw [rowE_len] at this;exact this
set_option maxRecDepth 100000 in
theorem log_any {S : Nat -> Prop} {r : Nat} {N : Nd} (h : NdS w S r d l room N M L) (a : Nat) (h1 : M.next = a + 1) (h2 : M.next <= 1099511627776) :
  Calls Tryz.prog 12 #[.pointer (some ⟨r, 0, none⟩)] w fun e w' => e = .returned (.tuple #[.int .i64 (a : Int), .int .i64 (N.comm : Int)]) /\ Below w.heap.size w w' := by
 have HS := hide (stopped_no h);have L2 := hide (last_any (h.below (below_drew w)) (by omega) h2);rw [h1, Nat.add_sub_cancel] at L2;have r8 : w.cell? ⟨r, 8, none⟩ = some (.int .i64 (N.comm : Int)) := nds_cell h 8;have KD := hide (below_drew w);clear h h1 h2;go_enter Tryz.func12, Tryz.ntmps12;go_wp2_with fail
 refine HS.out.mono ?_;rintro e w0 ⟨rfl, rfl⟩;clear HS;go_wp2_with fail
 go_region_held3 (fun W' => W'.cell? ⟨r, 8, none⟩ = some (.int .i64 (N.comm : Int))) (go_keep)
  (first
   | (go_at_call 31; refine (L2.out).mono ?_; rintro e w1 ⟨rfl, k1⟩; have K1 := hide (KD.out.trans (k1.mono KD.out.size)); have v8 := (K1.out.cell (cell_lt r8)).trans r8; clear k1))
 go_wp2_with fail
 go_ret2;exact ⟨rfl, K1.out⟩
theorem sent_snoc : ∀ (es : List (Nat × List Nat)) (x : Nat × List Nat), sentL (es ++ [x]) = sentL es ++ sentE x
 | [], x => by simp [sentL]
 | y :: r, x => by simp [sentL, sent_snoc r x, List.append_assoc]
theorem rowE_step (xss : List (List Nat)) (j : Nat) (hj : j < xss.length) : sentL (rowE (xss.take (j + 1))) = ((sentL (rowE (xss.take j)) ++ [1]) ++ uvl (xss.getD j []).length) ++ xss.getD j [] := by
 have e : rowE (xss.take (j + 1)) = rowE (xss.take j) ++ [(1, xss.getD j [])] := by
  have e9 : xss.getD j [] = xss[j] := by simp [List.getD_eq_getElem?_getD, hj]
  unfold rowE;rw [List.take_succ_eq_append_getElem hj, List.map_append, e9]
  rfl
 rw [e, sent_snoc];have e2 : sentE (1, xss.getD j []) = [1] ++ (uvl (xss.getD j []).length ++ xss.getD j []) := by
  unfold sentE;rw [show (1, xss.getD j []).1 = 1 from rfl, uvl_low (by decide)]
 rw [e2];simp [List.append_assoc]
theorem sent_len : ∀ (xss : List (List Nat)), (∀ r ∈ xss, r.length <= 4000) -> (sentL (rowE xss)).length <= 4010 * xss.length
 | [], _ => by simp [rowE, sentL]
 | x :: xs, h => by
  have e : sentL (rowE (x :: xs)) = sentE (1, x) ++ sentL (rowE xs) := rfl;have e2 : (sentE (1, x)).length <= 4010 := by
   unfold sentE;rw [show (1, x).1 = 1 from rfl, show (1, x).2 = x from rfl, uvl_low (by decide)];have := uvl_len 1 x.length (by have := h x (by simp); omega);have := h x (by simp);simp;omega
  have := sent_len xs (fun r hr => h r (by simp [hr]));rw [e, List.length_append, List.length_cons];omega
theorem mem_getD {xss : List (List Nat)} {j : Nat} (hj : j < xss.length) : xss.getD j [] ∈ xss := by
 simp [List.getD_eq_getElem?_getD, hj]
set_option maxRecDepth 100000 in
set_option maxHeartbeats 12800000 in
theorem raftKeeps_ok (a0 : Option Addr) (n cap0 : Nat) (x0 : List (List Nat)) (tm : Nat) (draw : Int) (w : World) (hW : IsM w a0 x0) (hN : x0.length = n) (hY : ∀ r ∈ x0, ∀ x ∈ r, x < 256) (hc : cntR x0 <= 4000) (hn8 : n <= 8) (ht1 : 1 <= tm) (ht2 : tm <= 1073741824) :
  Calls Tryz.prog 4 #[.slice a0 n cap0, .int .i64 (tm : Int), .int .i64 draw] w fun e w' => e = .returned (.bool true) /\ Below w.heap.size w w' := by
 have HW := hide hW;have HN := hide hN;have HY := hide hY;have HC := hide hc;have h4k : ∀ j, j < n -> (x0.getD j []).length <= 3999 /\ ∀ x ∈ x0.getD j [], x < 256 := fun j hj => by
  have h1 := mem_getD (xss := x0) (j := j) (by omega);have := cntR_mem h1;exact ⟨by omega, hY _ h1⟩
 have H4 := hide h4k;have hcj : ∀ j, cntR (x0.take j) <= 4000 := fun j => by
  refine Nat.le_trans ?_ hc;have e : cntR x0 = cntR (x0.take j) + cntR (x0.drop j) := by
   conv => lhs; rw [<- List.take_append_drop j x0]
   unfold cntR;rw [List.map_append, List.sum_append]
  omega
 have HCJ := hide hcj;clear hW hN hY hc h4k hcj;have z8 : ¬ (8 : Int) < (n : Int) := by omega
 have zt1 : ¬ (tm : Int) < 1 := by omega
 have zt2 : ¬ (1073741824 : Int) < (tm : Int) := by omega
 go_enter Tryz.func4, Tryz.ntmps4;go_wp2_with fail
 go_loopw [7, 8] (fun nn i wr => ∃ j t : Nat, j <= n /\ nn = .int .i64 (t : Int) /\ i = .int .i64 (j : Int) /\ w = wr /\ Hid (t = cntR (x0.take j)) /\ t <= 4000) (fun _ i _ => n - (intOf i).toNat)
 case atStart => exact ⟨0, 0, Nat.zero_le _, rfl, rfl, rfl, rfl, by omega⟩
 case round =>
  obtain ⟨j, t, hj, rfl, rfl, rfl, HT, htb⟩ := hrel;have z4 : (t : Int) <= 4000 := by omega
  rcases Nat.lt_or_ge j n with hlt | hge
  ·obtain ⟨b, off, A', c, rfl, q, _, _, _⟩ := HW.out.at_ j (by rw [HN.out]; exact hlt);have hst := cntR_step x0 j (by rw [HN.out]; exact hlt);rw [<- HT.out] at hst;have hl := (H4.out j hlt).1;obtain ⟨m, hm⟩ : ∃ m, m = (x0.getD j []).length := ⟨_, rfl⟩;rw [<- hm] at q hl hst;have hb2 := HCJ.out (j + 1);have HST := hide hst;have HB2 := hide hb2;have fj : (j : Int) < (n : Int) := by omega
   clear hst hm hb2;go_wp2_with fail
   go_roundw
   case rel => exact ⟨j + 1, t + 1 + m, by omega, by go_num, by go_num, trivial, HST.out.symm, by rw [<- HST.out]; exact HB2.out⟩
   case measure => simp [intOf]; omega
  ·have fj : ¬ (j : Int) < (n : Int) := by omega
   have z5 : ¬ (4000 : Int) < (t : Int) := by omega
   clear hge HT htb hj;go_wp2_with fail
   refine (new_any 1048576 w (by decide)).mono ?_;rintro e w1 ⟨d, F1, rfl, d1, l1, k1⟩;have D1 := hide d1;have K1 := hide k1;have L1 := hide l1;clear d1 l1 k1;go_wp2_with fail
   have hop := ropen_any F1 d 1048576 [] 0 3 0 0 draw w1 D1.out (.inr (.inl rfl)) (by decide) k_term (by decide) (Nat.zero_le _) rfl (by rw [k_open.1]; exact k_all);rw [k_open.1, k_open.2] at hop;refine Calls.mono (show Calls Tryz.prog 7 #[.int .i64 0, .int .i64 3, .pointer (some ⟨d, 0, none⟩), .int .i64 draw] w1 _ from hop) ?_;rintro e w2 ⟨r, l, rfl, S2, h2', n2⟩;have H2 := hide (show NdS w2 S2 r d l 1048576 (ndNew 0 3 0 0 draw) uM0 [] from h2');have K2 := hide (K1.out.trans (n2.below K1.out.size L1.out));have HS2 := hide (n2.up K1.out.size L1.out);clear h2' n2 hop D1 K1 L1;go_wp2_with fail
   go_loopw [13, 14] (fun bv i wr => ∃ (j : Nat) (A : Option Addr) (m c : Nat), j <= n /\ bv = .slice A m c /\ i = .int .i64 (j : Int) /\ Hid (Own wr w2.heap.size (.slice A m c) (sentL (rowE (x0.take j)))) /\ Hid ((sentL (rowE (x0.take j))).length = m) /\ Hid (Below w2.heap.size w2 wr)) (fun _ i _ => n - (intOf i).toNat)
   case atStart => exact ⟨0, none, 0, 0, Nat.zero_le _, rfl, rfl, hide (World.ownsRow_nil _ _ _ _), hide rfl, hide (Below.refl _ _)⟩
   case round =>
    obtain ⟨j, A, m, c, hj, rfl, rfl, HO, HM, HK⟩ := hrel;rcases Nat.lt_or_ge j n with hlt | hge
    ·have fj : (j : Int) < (n : Int) := by omega
     obtain ⟨b, off, A', c', rfl, q0, rb0, _, _⟩ := HW.out.at_ j (by rw [HN.out]; exact hlt);have hst := rowE_step x0 j (by rw [HN.out]; exact hlt);obtain ⟨hl, hby⟩ := H4.out j hlt;have hmb : m <= 40000 := by
      have h1 := sent_len (x0.take j) (fun r hr => by
       have h2 := cntR_mem (List.mem_of_mem_take hr);have := HC.out;omega)
      rw [HM.out, List.length_take] at h1;have h2 : min j x0.length <= 8 := by omega
      have h3 : 4010 * min j x0.length <= 4010 * 8 := Nat.mul_le_mul_left _ h2;omega
     obtain ⟨row, hrow⟩ : ∃ xs, xs = x0.getD j [] := ⟨_, rfl⟩;rw [<- hrow] at q0 rb0 hst hl hby;obtain ⟨mr, hmr⟩ : ∃ k, k = row.length := ⟨_, rfl⟩;rw [<- hmr] at q0 rb0 hst hl;obtain ⟨P, hP⟩ : ∃ xs, xs = sentL (rowE (x0.take j)) := ⟨_, rfl⟩;rw [<- hP] at HO HM hst;have QF : Hid (∀ W, Below w2.heap.size w2 W -> W.cell? ⟨b, off + j, none⟩ = some (.slice A' mr c') /\ IsB W (.slice A' mr c') row) := hide (fun W k => by
      have kk := K2.out.trans (k.mono K2.out.size);exact ⟨(kk.cell (cell_lt q0)).trans q0, rb0.keep kk⟩)
     have HST := hide hst;have HMR := hide hmr;have huv : (uvl mr).length <= 2 := uvl_len 1 mr (by omega);have HUV := hide huv;clear hst hmr hby hrow hP q0 rb0 huv;go_wp2_with (at_builtin; refine halt ?_)
     refine ⟨?_⟩;have ka := below_alloc wr (.cells #[.int .u8 1] 5);refine wpList_append_bytes rfl (.tmp 82) (.tmp 83) rfl w2.heap.size _ _ rfl (HO.out.keep ka) _ [1] rfl (isB_new wr #[.int .u8 1] [1] rfl (by decide) _ _ rfl rfl) (by rw [HM.out]; simp; omega) (Nat.le_trans HK.out.size ka.size) ?_;intro b1 w3 o3 k3;have K3 := hide ((HK.out.trans (ka.mono HK.out.size)).trans k3);have e3 : (P ++ [1]).length = m + 1 := by rw [List.length_append, HM.out]; rfl
     obtain ⟨A3, c3, rfl, _⟩ := o3.isB.form e3;have O3 := hide o3;have E3 := hide e3;obtain ⟨q3, _⟩ := QF.out w3 K3.out;clear ka o3 k3 e3 HO HM HK;go_wp2_with fail
     go_loopw [13, 15] (fun bv xv wr => ∃ (y : Nat) (acc : List Nat) (A : Option Addr) (ma ca : Nat), bv = .slice A ma ca /\ xv = .int .i64 (y : Int) /\ y <= mr /\ Hid (acc ++ uvl y = (P ++ [1]) ++ uvl mr) /\ Hid (Own wr w2.heap.size (.slice A ma ca) acc) /\ Hid (acc.length = ma) /\ Hid (Below w2.heap.size w2 wr)) (fun _ x _ => (intOf x).toNat)
     case atStart => exact ⟨mr, P ++ [1], A3, m + 1, c3, rfl, rfl, Nat.le_refl _, hide rfl, O3, E3, K3⟩
     case round =>
      obtain ⟨y, acc, A, ma, ca, rfl, rfl, hym, HA, HO, HM, HK⟩ := hrel;clear O3 K3 q3;have hal : ma + (uvl y).length <= 40003 := by
       have h1 := congrArg List.length HA.out;rw [List.length_append, List.length_append, HM.out, E3.out] at h1;have := HUV.out;omega
      by_cases hy : y < 128
      ·have fy : (y : Int) < 128 := by omega
       have e8 : IntKind.u8.wrap (y : Int) = (y : Int) := by rw [IntKind.wrap_u8]; omega
       clear hal;have hma : ma <= 40003 := by
        have h1 := congrArg List.length HA.out;rw [List.length_append, List.length_append, HM.out, E3.out] at h1;have := HUV.out;omega
       go_wp2_with (at_builtin; refine halt ?_)
       refine ⟨?_⟩;have ka := below_alloc wr (.cells #[.int .u8 (y : Int)] 5);refine wpList_append_bytes rfl (.tmp 94) (.tmp 97) rfl w2.heap.size _ _ rfl (HO.out.keep ka) _ [y] rfl (isB_new wr #[.int .u8 (y : Int)] [y] rfl (by simp) _ _ rfl rfl) (by rw [HM.out]; simp; omega) (Nat.le_trans HK.out.size ka.size) ?_;intro b4 w4 o4 k4;have K4 := hide ((HK.out.trans (ka.mono HK.out.size)).trans k4);have e4 : (acc ++ [y]).length = ma + 1 := by rw [List.length_append, HM.out]; rfl
       obtain ⟨A4, c4, rfl, _⟩ := o4.isB.form e4;have O4 := hide o4;have E4 := hide e4;obtain ⟨q4, rb4⟩ := QF.out w4 K4.out;have RB4 := hide rb4;have HAY := hide (show acc ++ [y] = (P ++ [1]) ++ uvl mr by rw [<- HA.out, uvl_low hy]);clear ka o4 k4 e4 rb4 HA HO HM HK e8 fy;go_wp2_with (at_builtin; refine halt ?_)
       refine ⟨?_⟩;refine wpList_append_bytes rfl (.tmp 105) (.tmp 109) rfl w2.heap.size _ _ rfl O4.out _ row rfl RB4.out (by rw [E4.out, HMR.out.symm]; omega) K4.out.size ?_;intro b5 w5 o5 k5;have K5 := hide (K4.out.trans k5);rw [HAY.out, <- HST.out] at o5;obtain ⟨m5, hm5⟩ : ∃ k, k = (sentL (rowE (x0.take (j + 1)))).length := ⟨_, rfl⟩;obtain ⟨A5, c5, rfl, _⟩ := o5.isB.form hm5.symm;have O5 := hide o5;have M5 := hide hm5.symm;clear o5 k5 hm5 q4;go_wp2_with fail
       go_roundw
       case rel => exact ⟨j + 1, A5, m5, c5, by omega, rfl, by go_num, O5, M5, K5⟩
       case measure => simp [intOf]; omega
      ·have fy : ¬ (y : Int) < 128 := by omega
       have e8 : IntKind.u8.wrap (y : Int) = (y : Int) % 256 := by rw [IntKind.wrap_u8]
       have hor := or128 y;have hma : ma <= 40003 := by omega
       clear hal;go_wp2_with (at_builtin; refine halt ?_)
       refine ⟨?_⟩;have ka := below_alloc wr (.cells #[.int .u8 ((y % 128 + 128 : Nat) : Int)] 5);refine wpList_append_bytes rfl (.tmp 99) (.tmp 103) rfl w2.heap.size _ _ rfl (HO.out.keep ka) _ [y % 128 + 128] rfl (isB_new wr #[.int .u8 ((y % 128 + 128 : Nat) : Int)] [y % 128 + 128] rfl (by simp) _ _ rfl rfl) (by rw [HM.out]; simp; omega) (Nat.le_trans HK.out.size ka.size) ?_;intro b4 w4 o4 k4;have K4 := hide ((HK.out.trans (ka.mono HK.out.size)).trans k4);have e4 : (acc ++ [y % 128 + 128]).length = ma + 1 := by rw [List.length_append, HM.out]; rfl
       obtain ⟨A4, c4, rfl, _⟩ := o4.isB.form e4;have O4 := hide o4;have E4 := hide e4;have HAY := hide (show (acc ++ [y % 128 + 128]) ++ uvl (y / 128) = (P ++ [1]) ++ uvl mr by rw [<- HA.out, uvl_high hy, List.append_assoc]; rfl);clear ka o4 k4 e4 HA HO HM HK e8 hor;go_wp2_with fail
       go_roundw
       case rel => exact ⟨y / 128, _, A4, ma + 1, c4, rfl, by go_num, by omega, HAY, O4, E4, K4⟩
       case measure => simp [intOf]; omega
    ·have fj : ¬ (j : Int) < (n : Int) := by omega
     have ej : j = n := by omega
     have e0 : x0.take j = x0 := by rw [ej, <- HN.out, List.take_length]
     rw [e0] at HO HM;clear e0 ej hge hj;go_wp2_with fail
     have kn := below_alloc wr (.cells #[.int .i64 (tm : Int), .int .i64 0, .int .i64 0, .int .i64 (n : Int)] 3);have KW := hide (HK.out.trans (kn.mono HK.out.size));have hlow := H2.out.low;have HE := hide (hear_rows (H2.out.below KW.out) wr.heap.size tm A m c x0 n HN.out hn8 HC.out HY.out ⟨ht1, ht2⟩ (build_nums wr #[.int .i64 (tm : Int), .int .i64 0, .int .i64 0, .int .i64 (n : Int)] [(tm : Int), 0, 0, (n : Int)] rfl) (fun hs => by have := hlow _ hs; have := HK.out.size; omega) (((own_lowB HO.out HM.out).keep kn).up kn.size) (fun b hb hs => by
      have h1 := (HO.out.lt b.block (by rw [hb]; rfl)).1;have h2 := hlow _ hs;omega))
     have KX := hide (K2.out.trans (KW.out.mono K2.out.size));clear kn hlow HO HM HK H2 K2 KW;refine HE.out.mono ?_;rintro e w3 ⟨v, ga, rfl, ⟨bb, rfl, o0, o1, o2, o3, o4⟩, na, S3, d3, n3⟩;have H3 := hide d3;have K3 := hide (KX.out.trans (n3.below KX.out.size HS2.out));have HS3 := hide (n3.up KX.out.size HS2.out);have y1 : w3.cell? ⟨ga, 1, none⟩ = some (.int .i64 1) := na 1 (by simp);have y2 : w3.cell? ⟨ga, 2, none⟩ = some (.int .i64 (n : Int)) := na 2 (by simp);clear d3 n3 na HE KX HS2;go_wp2_with fail
     have TK := hide (rtake_any H3.out (rowE x0) n 0 (by rw [rowE_len]; exact HN.out) rfl (by show n = 0 + n; omega) (by omega) (by omega) (fun i hi => by
      have h1 := (log_rows tm x0 ht2 (by rw [HN.out]; exact hn8) HC.out).2 i hi;rw [show 0 + 1 + i = 1 + i by omega];have hi2 : i < x0.length := by rw [rowE_len] at hi; exact hi
      refine ⟨h1, ?_, ?_⟩
      ·simp [rowE]
      ·intro x hx;have : (rowE x0)[i].2 = x0[i] := by simp [rowE]
       rw [this] at hx;exact HY.out _ (List.getElem_mem hi2) x hx))
     refine TK.out.mono ?_;rintro e w4 ⟨v4, rfl, r4, d4, n4⟩;obtain ⟨A4, c4, rfl⟩ : ∃ A c, v4 = .slice A n c := by
      rcases r4.form with ⟨h0, A, c, e⟩ | ⟨g, c, e, _⟩
      ·have h1 := rowE_len x0;rw [h0, HN.out] at h1;refine ⟨A, c, ?_⟩;rw [e, <- h1]
       rfl
      ·exact ⟨some ⟨g, 0, none⟩, c, by rw [e, rowE_len, HN.out]⟩
     have R4 := hide r4;have K4 := hide (K3.out.trans (n4.below K3.out.size HS3.out));have CR := hide (crash_rows d4 draw);clear r4 d4 n4 TK y1 y2 o0 o1 o2 o3 o4;go_wp2_with fail
     refine CR.out.mono ?_;rintro e w5 ⟨rfl, F, F', d5, hF, n5⟩;have OP := hide (open_rows d5 ht2 (by rw [HN.out]; exact hn8) HC.out HY.out draw);have N5 := hide n5;have HF := hide hF;clear d5 n5 hF CR;go_wp2_with fail
     refine OP.out.mono ?_;rintro e w6 ⟨r6, l6, rfl, S6, M6, L6, d6, hM6, n6⟩;have nx := N5.out.trans n6;have R6 := hide (R4.out.turn nx.turn (fun k hk => H3.out.low k (HF.out k hk)));have K6 := hide (K4.out.trans (nx.below K4.out.size (fun k hk => HS3.out k (HF.out k hk))));have H6 := hide d6;have HM6 := hide hM6;clear nx d6 hM6 n6 OP N5 HF R4 K4 H3 K3 HS3;go_wp2_with fail
     refine (state_any H6.out).mono ?_;rintro e w7 ⟨rfl, k7⟩;have R7 := hide (R6.out.keep k7);have K7 := hide (K6.out.trans (k7.mono K6.out.size));have LG := hide (log_any (H6.out.below k7) n (by rw [HM6.out, HN.out]) (by rw [HM6.out, HN.out]; omega));rw [show (ndNew 0 3 tm 0 draw).role = 0 from rfl, show (ndNew 0 3 tm 0 draw).term = tm from rfl];rw [show (ndNew 0 3 tm 0 draw).comm = 0 from rfl] at LG;clear k7 R6 K6 H6 HM6;go_wp2_with fail
     refine LG.out.mono ?_;rintro e w8 ⟨rfl, k8⟩;have R8 := hide (R7.out.keep k8);have K8 := hide (K7.out.trans (k8.mono K7.out.size));clear k8 R7 K7 LG;go_wp2_with fail
     go_loopw [25] (fun i wr => ∃ i' : Nat, i' <= n /\ i = .int .i64 (i' : Int) /\ Hid (Below w8.heap.size w8 wr)) (fun i _ => n - (intOf i).toNat)
     case atStart => exact ⟨0, Nat.zero_le _, rfl, hide (Below.refl _ _)⟩
     case round =>
      obtain ⟨i', hi, rfl, HK⟩ := hrel;rcases Nat.lt_or_ge i' n with hlt | hge
      ·have fi : (i' : Int) < (n : Int) := by omega
       obtain ⟨g, c9, e9, _, _, hf⟩ : ∃ g c, Value.slice A4 n c4 = .slice (some ⟨g, 0, none⟩) (rowE x0).length c /\ w3.heap.size <= g /\ g < w8.heap.size /\ _ := by
        rcases R8.out.form with ⟨h0, _⟩ | h
        ·have h1 := rowE_len x0;rw [h0, HN.out] at h1;simp at h1;omega
        ·exact h
       obtain ⟨A2, m2, cc, c1, c2, ib, hl⟩ := hf i' (by rw [rowE_len, HN.out]; exact hlt);have hx2 : i' < x0.length := by rw [HN.out]; exact hlt
       have hx3 : i' < (rowE x0).length := by rw [rowE_len]; exact hx2
       have er1 : ((rowE x0)[i']'hx3).1 = 1 := by simp [rowE]
       have er2 : ((rowE x0)[i']'hx3).2 = x0.getD i' [] := by simp [rowE, List.getD_eq_getElem?_getD, hx2]
       rw [er1] at c1;rw [er2] at ib hl;have c1 : w8.cell? ⟨g, i' * 2, none⟩ = some (.int .i64 1) := c1;obtain ⟨b, off, A', c', rfl, q0, rb0, _, hc9⟩ := HW.out.at_ i' hx2;simp only [Value.slice.injEq] at e9;obtain ⟨rfl, hnn, rfl⟩ := e9;clear hnn;obtain ⟨row, hrow⟩ : ∃ xs, xs = x0.getD i' [] := ⟨_, rfl⟩;rw [<- hrow] at q0 rb0 ib hl;obtain ⟨mr, hmr⟩ : ∃ k, k = row.length := ⟨_, rfl⟩;rw [<- hmr] at q0 rb0 hl;have hmr9 : mr <= 3999 := by have := (H4.out i' hlt).1; rw [<- hrow] at this; omega
       have SAF : Hid (∀ W, Below w8.heap.size w8 W -> Calls Tryz.prog 13 #[.slice A2 m2 cc, .slice A' mr c'] W fun e w' => e = .returned (.bool true) /\ Below W.heap.size W w') := hide (fun W k => by
        have kk := K8.out.trans (k.mono K8.out.size);have sa := same_any A2 A' m2 mr cc c' row row W (ib.keep k).rd (rb0.keep kk).rd (by omega) hmr (by omega) (by omega);rw [decide_eq_true (rfl : row = row)] at sa;refine sa.mono ?_;rintro e w' ⟨rfl, dd, rfl⟩;exact ⟨rfl, below_drewN (Below.refl _ _) dd⟩)
       have p1 : (wr.drewN 1).cell? ⟨g, i' * 2, none⟩ = some (.int .i64 1) := (HK.out.cell (cell_lt c1)).trans c1;have p2 : (wr.drewN 1).cell? ⟨g, i' * 2 + 1, none⟩ = some (.slice A2 m2 cc) := (HK.out.cell (cell_lt c2)).trans c2;have p3 : (wr.drewN 1).cell? ⟨b, off + i', none⟩ = some (.slice A' mr c') := by
        have kk := K8.out.trans (HK.out.mono K8.out.size);exact (kk.cell (cell_lt q0)).trans q0
       clear hf er1 er2 ib hl hx3 hx2 rb0 hc9 hrow hmr c1 c2 q0;go_wp2_with fail
       refine heldT_top (fun W' : World => W'.cell? ⟨g, i' * 2, none⟩ = some (.int .i64 1) /\ W'.cell? ⟨g, i' * 2 + 1, none⟩ = some (.slice A2 m2 cc) /\ W'.cell? ⟨b, off + i', none⟩ = some (.slice A' mr c')) 19 #[false, false, false, false, false, false, false, false, false, false, false, false, false, false, false, false, false, false, false] (by kernel_rfl) (by kernel_rfl) (by kernel_rfl) ?_;have hHeld : (fun W' : World => W'.cell? ⟨g, i' * 2, none⟩ = some (.int .i64 1) /\ W'.cell? ⟨g, i' * 2 + 1, none⟩ = some (.slice A2 m2 cc) /\ W'.cell? ⟨b, off + i', none⟩ = some (.slice A' mr c')) (wr.drewN 1) := ⟨p1, p2, p3⟩;have SA := hide (SAF.out (wr.drewN 1) (below_drewN HK.out 1));have KD := hide (below_drewN HK.out 1);change wpAnyH _ _ _ _ _ _ _ _ (wr.drewN 1);generalize wr.drewN 1 = U at *
       iterate 16
        first | refine' tkH 0 rfl hHeld rfl ?_ ?_ | refine' tkH 1 rfl hHeld rfl ?_ ?_ | refine' tkH 2 rfl hHeld rfl ?_ ?_ | refine' tkH 3 rfl hHeld rfl ?_ ?_ | refine' tkH 4 rfl hHeld rfl ?_ ?_ | refine' tkH 5 rfl hHeld rfl ?_ ?_ | refine' tkH 6 rfl hHeld rfl ?_ ?_ | refine' tkH 7 rfl hHeld rfl ?_ ?_ | refine' tkH 8 rfl hHeld rfl ?_ ?_ | refine' tkH 9 rfl hHeld rfl ?_ ?_ | refine' tkH 10 rfl hHeld rfl ?_ ?_ | refine' tkH 11 rfl hHeld rfl ?_ ?_ | refine' tkH 12 rfl hHeld rfl ?_ ?_ | refine' tkH 13 rfl hHeld rfl ?_ ?_ | refine' tkH 14 rfl hHeld rfl ?_ ?_ | refine' tkH 15 rfl hHeld rfl ?_ ?_
        rotate_left
        ·(intro W' hW; (try dsimp only at hW); obtain ⟨z1', z2', z3'⟩ := hW; go_simp; (try with_reducible rfl))
        try simp only [Act.put, List.setIfInBounds_toArray, List.set_cons_zero, List.set_cons_succ]
       obtain ⟨p1, p2, p3⟩ := hHeld;refine heldT_one (i := 16) (by kernel_rfl) rfl (fun K' hK => ?_);go_simp;go_at_call 13;refine SA.out.mono ?_;rintro e w9 ⟨rfl, k9⟩;have K9 := hide (KD.out.trans (k9.mono KD.out.size));have hHeld : (fun W' : World => W'.cell? ⟨g, i' * 2, none⟩ = some (.int .i64 1) /\ W'.cell? ⟨g, i' * 2 + 1, none⟩ = some (.slice A2 m2 cc) /\ W'.cell? ⟨b, off + i', none⟩ = some (.slice A' mr c')) w9 := ⟨(k9.cell (cell_lt p1)).trans p1, (k9.cell (cell_lt p2)).trans p2, (k9.cell (cell_lt p3)).trans p3⟩;refine hK.out _ _ hHeld ?_;clear hK k9;try simp only [List.setIfInBounds_toArray, List.set_cons_zero, List.set_cons_succ]
       iterate 2
        first | refine' tkH 17 rfl hHeld rfl ?_ ?_ | refine' tkH 18 rfl hHeld rfl ?_ ?_
        rotate_left
        ·(intro W' hW; (try dsimp only at hW); obtain ⟨z1', z2', z3'⟩ := hW; go_simp; (try with_reducible rfl))
        try simp only [Act.put, List.setIfInBounds_toArray, List.set_cons_zero, List.set_cons_succ]
       refine wpAnyH_done (by kernel_rfl) ?_ _;clear hHeld;go_wp2_with fail
       go_roundw
       case rel => exact ⟨i' + 1, by omega, by go_num, K9⟩
       case measure => simp [intOf]; omega
      ·have fi : ¬ (i' : Int) < (n : Int) := by omega
       go_wp2_with fail
       refine (known_any _).mono ?_;rintro e w9 ⟨rfl, k9⟩;have kk := K8.out.trans (HK.out.mono K8.out.size);have K9 := hide (kk.trans (k9.mono kk.size));clear k9 kk;go_wp2_with fail
       go_ret;exact ⟨rfl, K9.out⟩
set_option maxRecDepth 100000 in
set_option maxHeartbeats 6400000 in
theorem raftKeeps_bad (a0 : Option Addr) (n cap0 : Nat) (x0 : List (List Nat)) (z draw : Int) (w : World) (hW : IsM w a0 x0) (hN : x0.length = n) (hl0 : n <= 140737488351232) (hs : ∀ r ∈ x0, r.length <= 140737488351232) (h : 4000 < cntR x0 \/ 8 < n \/ z < 1 \/ 1073741824 < z) :
  Calls Tryz.prog 4 #[.slice a0 n cap0, .int .i64 z, .int .i64 draw] w fun e w' => e = .returned (.bool true) /\ Below w.heap.size w w' := by
 have HW := hide hW;have HN := hide hN;have HS := hide hs;have HH := hide h;clear hW hN hs h;go_enter Tryz.func4, Tryz.ntmps4;go_wp2_with fail
 go_loopw [7, 8] (fun nn i wr => ∃ j t : Nat, j <= n /\ nn = .int .i64 (t : Int) /\ i = .int .i64 (j : Int) /\ w = wr /\ Hid (t = cntR (x0.take j)) /\ t <= 140737488355500) (fun _ i _ => n - (intOf i).toNat)
 case atStart => exact ⟨0, 0, Nat.zero_le _, rfl, rfl, rfl, rfl, by omega⟩
 case round =>
  obtain ⟨j, t, hj, rfl, rfl, rfl, HT, htb⟩ := hrel;by_cases h4 : t <= 4000
  ·have z4 : (t : Int) <= 4000 := by omega
   rcases Nat.lt_or_ge j n with hlt | hge
   ·obtain ⟨b, off, A', c, rfl, q, _, _, _⟩ := HW.out.at_ j (by rw [HN.out]; exact hlt);have hst := cntR_step x0 j (by rw [HN.out]; exact hlt);rw [<- HT.out] at hst;have hl := HS.out _ (mem_getD (xss := x0) (j := j) (by rw [HN.out]; exact hlt));obtain ⟨m, hm⟩ : ∃ m, m = (x0.getD j []).length := ⟨_, rfl⟩;rw [<- hm] at q hl hst;have HST := hide hst;have fj : (j : Int) < (n : Int) := by omega
    clear hst hm;go_wp2_with fail
    go_roundw
    case rel => exact ⟨j + 1, t + 1 + m, by omega, by go_num, by go_num, trivial, HST.out.symm, by omega⟩
    case measure => simp [intOf]; omega
   ·have fj : ¬ (j : Int) < (n : Int) := by omega
    have z5 : ¬ (4000 : Int) < (t : Int) := by omega
    have hx : ¬ 4000 < cntR x0 := by
     have e0 : x0.take j = x0 := by rw [show j = n by omega, <- HN.out, List.take_length]
     have := HT.out;rw [e0] at this;omega
    have h3 : 8 < n \/ z < 1 \/ 1073741824 < z := HH.out.resolve_left hx;clear hge HT htb hj hx h4 HH;by_cases h8 : 8 < n
    ·have z8 : (8 : Int) < (n : Int) := by omega
     clear h3;go_wp2_with fail
     refine (known_any _).mono ?_;rintro e w6 ⟨rfl, k6⟩;have K6 := hide k6;clear k6;go_wp2_with fail
     go_ret;exact ⟨rfl, K6.out⟩
    have z8 : ¬ (8 : Int) < (n : Int) := by omega
    by_cases h1 : z < 1
    ·clear h3;go_wp2_with fail
     refine (known_any _).mono ?_;rintro e w6 ⟨rfl, k6⟩;have K6 := hide k6;clear k6;go_wp2_with fail
     go_ret;exact ⟨rfl, K6.out⟩
    have h2 : (1073741824 : Int) < z := by omega
    clear h3;go_wp2_with fail
    refine (known_any _).mono ?_;rintro e w6 ⟨rfl, k6⟩;have K6 := hide k6;clear k6;go_wp2_with fail
    go_ret;exact ⟨rfl, K6.out⟩
  ·have z4 : ¬ (t : Int) <= 4000 := by omega
   have z5 : (4000 : Int) < (t : Int) := by omega
   clear HT h4;by_cases hlt : j < n
   ·have fj : (j : Int) < (n : Int) := by omega
    go_wp2_with fail
    refine (known_any _).mono ?_;rintro e w6 ⟨rfl, k6⟩;have K6 := hide k6;clear k6;go_wp2_with fail
    go_ret;exact ⟨rfl, K6.out⟩
   ·have fj : ¬ (j : Int) < (n : Int) := by omega
    go_wp2_with fail
    refine (known_any _).mono ?_;rintro e w6 ⟨rfl, k6⟩;have K6 := hide k6;clear k6;go_wp2_with fail
    go_ret;exact ⟨rfl, K6.out⟩
theorem raftKeeps_walk (a0 : Option Addr) (n cap0 : Nat) (x0 : List (List Nat)) (z draw : Int) (w : World) (w0 : IsM w a0 x0) (n0 : x0.length = n) (l0 : n <= 140737488351232) (y0 : ∀ r ∈ x0, ∀ x ∈ r, x < 256) (s0 : ∀ r ∈ x0, r.length <= 140737488351232) :
  Calls Tryz.prog 4 #[.slice a0 n cap0, .int .i64 z, .int .i64 draw] w fun e w' => e = .returned (.bool true) /\ Below w.heap.size w w' := by
 by_cases h : 4000 < cntR x0 \/ 8 < n \/ z < 1 \/ 1073741824 < z
 ·exact raftKeeps_bad a0 n cap0 x0 z draw w w0 n0 l0 s0 h
 ·obtain ⟨tm, rfl⟩ : ∃ k : Nat, z = (k : Int) := ⟨z.toNat, by omega⟩;exact raftKeeps_ok a0 n cap0 x0 tm draw w w0 n0 y0 (by omega) (by omega) (by omega) (by omega)
end Go.Proofs.YtedlibkkeegnaaaGreat
