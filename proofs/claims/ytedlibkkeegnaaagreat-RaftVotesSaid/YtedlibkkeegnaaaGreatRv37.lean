/- The walk of RaftVotes: of one term a node votes for one alone, whatever asks it, and though it crashes between. No condition. -/
import Derived.Test.YtedlibkkeegnaaaGreatRv36
import Derived.Test.YtedlibkkeegnaaaGreatRv19
namespace Go.Proofs.YtedlibkkeegnaaaGreat
open Go.RowKit Go.Maps
set_option maxRecDepth 100000 in
set_option maxHeartbeats 12800000 in
theorem raftVotes_walk (A0 : Option Addr) (n c0 : Nat) (X : List Mq) (draw : Int) (w : World) (hX : IsMsgs w A0 X) (hn : X.length = n) :
  Calls Tryz.prog 3 #[.slice A0 n c0, .int .i64 draw] w fun e w' => e = .returned (.bool true) /\ Below w.heap.size w w' := by
 have HX := hide hX;have HN := hide hn;clear hX hn;by_cases h60 : 60 < n
 ·have z60 : (60 : Int) < (n : Int) := by omega
  clear h60;go_enter Tryz.func3, Tryz.ntmps3;go_wp2_with fail
  refine (known_any _).mono ?_;rintro e w7 ⟨rfl, k7⟩;have K7 := hide k7;clear k7;go_wp2_with fail
  go_ret;exact ⟨rfl, K7.out⟩
 have z60 : ¬ (60 : Int) < (n : Int) := by omega
 have hn60 : n <= 60 := by omega
 clear h60;go_enter Tryz.func3, Tryz.ntmps3;go_wp2_with fail
 refine (new_any 1048576 w (by decide)).mono ?_;rintro e w1 ⟨d, F1, rfl, d1, l1, k1⟩;have K1 := hide k1;have vd : VD w.heap.size w1 F1 d 0 0 [] (.slice none 0 0) (.slice none 0 0) [] [] := ⟨d1, ⟨Nat.zero_le _, Nat.zero_le _, .inl ⟨rfl, rfl, rfl⟩⟩, OwnN.nil _ _, OwnN.nil _ _, Off.nil _, Off.nil _, fun g hg => by simp [Value.ownBlock] at hg, l1⟩;have OP := hide (v_open vd k1.size draw);clear d1 l1 k1 vd;go_wp2_with fail
 refine OP.out.mono ?_;rintro e w2 ⟨r, l, rfl, S2, v2, k2⟩;have V2 := hide v2;have K2 := hide (K1.out.trans k2);clear v2 k2 OP K1;go_wp2_with fail
 go_loopw [7, 9, 10, 11] (fun rp tv wv i wr => ∃ (j r l t v1 : Nat) (wt : Int) (S : Nat -> Prop) (L : DiskL) (A1 A2 : Option Addr) (q1 q2 nT : Nat) (T V : List Int), j <= n /\ rp = .pointer (some ⟨r, 0, none⟩) /\ i = .int .i64 (j : Int) /\ tv = .slice A1 nT q1 /\ wv = .slice A2 nT q2 /\ Hid (VI w.heap.size wr r d l S t v1 wt L (.slice A1 nT q1) (.slice A2 nT q2) T V) /\ Hid (Sp T V t v1) /\ Hid (T.length = nT /\ nT <= j) /\ Hid (Below w.heap.size w wr)) (fun _ _ _ i _ => n - (intOf i).toNat)
 case atStart => exact ⟨0, r, l, 0, 0, waitOf draw, S2, [], none, none, 0, 0, 0, [], [], Nat.zero_le _, rfl, rfl, rfl, rfl, V2, hide ⟨rfl, fun j hj => by simp at hj⟩, hide ⟨rfl, Nat.le_refl _⟩, K2⟩
 case round =>
  obtain ⟨j, r, l, t, v1, wt, S, L, A1, A2, q1, q2, nT, T, V, hj, rfl, rfl, rfl, rfl, HV, HS, HT, HK⟩ := hrel;clear V2 K2;rcases Nat.lt_or_ge j n with hjn | hjn
  rotate_left
  ·have fj : ¬ (j : Int) < (n : Int) := by omega
   go_wp2_with fail
   refine (known_any _).mono ?_;rintro e w6 ⟨rfl, k6⟩;have K6 := hide (HK.out.trans (k6.mono HK.out.size));clear k6;go_wp2_with fail
   go_ret;exact ⟨rfl, K6.out⟩
  ·have fj : (j : Int) < (n : Int) := by omega
   obtain ⟨b0, o0, rfl, mq⟩ := (HX.out.keep HK.out) j (by rw [HN.out]; exact hjn);obtain ⟨_, _, e0, mq0⟩ := HX.out j (by rw [HN.out]; exact hjn);cases e0
   obtain ⟨q, hq⟩ : ∃ q, q = X.getD j noMq := ⟨_, rfl⟩;rw [<- hq] at mq mq0;clear hq;obtain ⟨f, tt, kk, a3, c3, zs, a4, c4, dd⟩ := q;obtain ⟨m0, m1, m2, m3, m4, m5, m6⟩ := mq;have M0 := hide mq0.2.2.2.2.2.1;clear mq0;simp only at m0 m1 m2 m3 m4 m5 m6 M0;obtain ⟨nz, hnz⟩ : ∃ k, k = zs.length := ⟨_, rfl⟩;obtain ⟨nd, hnd⟩ : ∃ k, k = dd.length := ⟨_, rfl⟩;rw [<- hnz] at m3 m5 M0;rw [<- hnd] at m4 m6;have M5 := hide m5;have HNZ := hide hnz;clear m5 m6 hnz hnd;by_cases h10 : 10 < nz
   ·have z10 : (10 : Int) < (nz : Int) := by omega
    have KA := hide (HK.out.alloc HK.out.size (.cells #[.int .i64 f, .int .i64 tt, .int .i64 kk, .slice a3 nz c3, .slice a4 nd c4] 34));go_wp2_with fail
    refine (known_any _).mono ?_;rintro e w6 ⟨rfl, k6⟩;have K6 := hide (KA.out.trans (k6.mono KA.out.size));clear k6;go_wp2_with fail
    go_ret;exact ⟨rfl, K6.out⟩
   have z10 : ¬ (10 : Int) < (nz : Int) := by omega
   by_cases h100 : 100 < nd
   ·have z100 : (100 : Int) < (nd : Int) := by omega
    have KA := hide (HK.out.alloc HK.out.size (.cells #[.int .i64 f, .int .i64 tt, .int .i64 kk, .slice a3 nz c3, .slice a4 nd c4] 34));go_wp2_with fail
    refine (known_any _).mono ?_;rintro e w6 ⟨rfl, k6⟩;have K6 := hide (KA.out.trans (k6.mono KA.out.size));clear k6;go_wp2_with fail
    go_ret;exact ⟨rfl, K6.out⟩
   have z100 : ¬ (100 : Int) < (nd : Int) := by omega
   have kb := below_alloc wr (.cells #[.int .i64 f, .int .i64 0, .int .i64 1, .slice a3 nz c3, .slice a4 nd c4] 34);have hap : zs ≠ [] -> ∀ b, a3 = some b -> ¬ S b.block := by
    intro hne b hb hs;obtain ⟨b9, off, e9, c9⟩ := M0.out.rd hne;have h1 : b9 < w.heap.size := cell_lt (c9 0 (by cases zs with | nil => exact absurd rfl hne | cons x xs => simp));rw [e9] at hb;cases hb
    have h2 : w.heap.size <= b9 := HV.out.low _ hs;omega
   have HE := hide (hear_votes (HV.out.nd.below kb) HV.out.st f draw a3 nz c3 zs HNZ.out.symm (M5.out.rd.below kb) M5.out.caps.1 (by omega) hap a4 nd c4);have VB := hide (HV.out.below kb);have KB := hide (HK.out.trans (kb.mono HK.out.size));clear kb hap h10 h100 HK HV M0 M5 HNZ;go_wp2_with fail
   refine HE.out.mono ?_;rintro e w3 ⟨v, rfl, S2, t2, v2, wt2, L2, nd2, st2, ht2, hv2, ans, nx⟩;have V5 := hide (VB.out.next KB.out.size nx nd2 st2);have SP5 := hide (HS.out.next ht2 hv2);have K5 := hide (KB.out.trans (nx.below KB.out.size VB.out.low));clear nd2 st2 ht2 hv2 nx HE VB KB HS m0 m1 m2 m3 m4 z10 z100;rcases ans with rfl | ⟨ga, y, ⟨bb, rfl, bk⟩, na, hy⟩
   ·go_wp2_with fail
    have TL5 : Hid (T.length = nT /\ nT <= j + 1) := hide ⟨HT.out.1, by have := HT.out.2; omega⟩;clear HT
    go_loopw [9, 10, 14] (fun tv wv kv wr => tv = .slice A1 nT q1 /\ wv = .slice A2 nT q2 /\ kv = .int .i64 0 /\ wr = w3) (fun _ _ _ _ => 1)
    case atStart => exact ⟨rfl, rfl, rfl, rfl⟩
    case round =>
     obtain ⟨rfl, rfl, rfl, rfl⟩ := hrel;by_cases h3 : j % 3 = 2
     ·have e3 : (j : Int) % 3 = 2 := by omega
      go_wp2_with fail
      refine (v_crash V5.out K5.out.size draw).mono ?_;rintro e w5 ⟨rfl, F5, d5, k5⟩;have K5 := hide (K5.out.trans k5);have OP := hide (v_open d5 K5.out.size draw);clear d5 k5;go_wp2_with fail
      refine OP.out.mono ?_;rintro e w6 ⟨r6, l6, rfl, S6, v6, k6⟩;have V6 := hide v6;have K6 := hide (K5.out.trans k6);clear v6 k6 OP;go_wp2_with fail
      go_roundw
      case rel => exact ⟨j + 1, r6, l6, t2, v2, waitOf draw, S6, L2, A1, A2, q1, q2, nT, T, V, by omega, rfl, by go_num, rfl, rfl, V6, SP5, TL5, K6⟩
      case measure => simp [intOf]; omega
     ·have e3 : ¬ (j : Int) % 3 = 2 := by omega
      go_wp2_with fail
      go_roundw
      case rel => exact ⟨j + 1, r, l, t2, v2, wt2, S2, L2, A1, A2, q1, q2, nT, T, V, by omega, rfl, by go_num, rfl, rfl, V5, SP5, TL5, K5⟩
      case measure => simp [intOf]; omega
   ·have BK := hide bk;have NA := hide na;have HY := hide hy;clear bk na hy;go_wp2_with fail
    go_loopw [9, 10, 14] (fun tv wv kv wr => ∃ (B1 B2 : Option Addr) (p1 p2 nT6 : Nat) (T6 V6l : List Int), tv = .slice B1 nT6 p1 /\ wv = .slice B2 nT6 p2 /\ Hid (VI w.heap.size wr r d l S2 t2 v2 wt2 L2 (.slice B1 nT6 p1) (.slice B2 nT6 p2) T6 V6l) /\ Hid (Sp T6 V6l t2 v2) /\ Hid (Below w.heap.size w wr) /\ ((kv = .int .i64 0 /\ Hid (T6.length = nT6 /\ nT6 <= j) /\ Hid (Blk wr 0 34 bb [.int .i64 0, .int .i64 f, .int .i64 2, .slice (some ⟨ga, 0, none⟩) 2 2, .slice none 0 0]) /\ Hid (NumsAt wr ga [(t2 : Int), y])) \/ (kv = .int .i64 1 /\ Hid (T6.length = nT6 /\ nT6 <= j + 1)))) (fun _ _ kv _ => 1 - (intOf kv).toNat)
    case atStart => exact ⟨A1, A2, q1, q2, nT, T, V, rfl, rfl, V5, SP5, K5, .inl ⟨rfl, HT, BK, NA⟩⟩
    case round =>
     obtain ⟨B1, B2, p1, p2, nT6, T6, V6l, rfl, rfl, V6, SP6, K6x, hor⟩ := hrel;clear V5 SP5 K5 BK NA HT;rcases hor with ⟨rfl, HT6, BK, NA⟩ | ⟨rfl, TL6⟩
     rotate_left
     ·skip;by_cases h3 : j % 3 = 2
      ·have e3 : (j : Int) % 3 = 2 := by omega
       go_wp2_with fail
       refine (v_crash V6.out K6x.out.size draw).mono ?_;rintro e w5 ⟨rfl, F5, d5, k5⟩;have K5 := hide (K6x.out.trans k5);have OP := hide (v_open d5 K5.out.size draw);clear d5 k5;go_wp2_with fail
       refine OP.out.mono ?_;rintro e w6 ⟨r6, l6, rfl, S6, v6, k6⟩;have V6 := hide v6;have K6 := hide (K5.out.trans k6);clear v6 k6 OP;go_wp2_with fail
       go_roundw
       case rel => exact ⟨j + 1, r6, l6, t2, v2, waitOf draw, S6, L2, B1, B2, p1, p2, nT6, T6, V6l, by omega, rfl, by go_num, rfl, rfl, V6, SP6, TL6, K6⟩
       case measure => simp [intOf]; omega
      ·have e3 : ¬ (j : Int) % 3 = 2 := by omega
       go_wp2_with fail
       go_roundw
       case rel => exact ⟨j + 1, r, l, t2, v2, wt2, S2, L2, B1, B2, p1, p2, nT6, T6, V6l, by omega, rfl, by go_num, rfl, rfl, V6, SP6, TL6, K6x⟩
       case measure => simp [intOf]; omega
     ·have x0 : wr.cell? ⟨bb, 0, none⟩ = some (.int .i64 0) := BK.out.cell 0;have x1 : wr.cell? ⟨bb, 1, none⟩ = some (.int .i64 f) := BK.out.cell 1;have x2 : wr.cell? ⟨bb, 2, none⟩ = some (.int .i64 2) := BK.out.cell 2;have x3 : wr.cell? ⟨bb, 3, none⟩ = some (.slice (some ⟨ga, 0, none⟩) 2 2) := BK.out.cell 3;have y0 : wr.cell? ⟨ga, 0, none⟩ = some (.int .i64 (t2 : Int)) := NA.out 0 (by simp);have y1 : wr.cell? ⟨ga, 1, none⟩ = some (.int .i64 y) := NA.out 1 (by simp);by_cases hy1 : y = 1
      rotate_left
      ·have hyb : ((y : Int) != 1) = true := by simp; exact hy1
       go_wp2_with fail
       go_roundw
       case rel => exact ⟨B1, B2, p1, p2, nT6, T6, V6l, rfl, rfl, V6, SP6, K6x, .inr ⟨rfl, hide ⟨HT6.out.1, by have := HT6.out.2; omega⟩⟩⟩
       case measure => simp [intOf]
      ·subst hy1;have HF := hide (HY.out rfl);go_wp2_with fail
       obtain ⟨U, hU⟩ : ∃ U, U = wr := ⟨_, rfl⟩;subst hU
       go_loopw [15] (fun jv wr => ∃ h dn : Nat, h <= nT6 /\ jv = .int .i64 (h : Int) /\ wr = U.drewN dn) (fun jv _ => nT6 - (intOf jv).toNat)
       case atStart => exact ⟨0, 0, Nat.zero_le _, rfl, rfl⟩
       case round =>
        obtain ⟨h, dn, hh, rfl, rfl⟩ := hrel;rcases Nat.lt_or_ge h nT6 with hlt | hge
        ·have fh : (h : Int) < (nT6 : Int) := by omega
         obtain ⟨g1, c1, eT, _, _, _, ct, _⟩ := V6.out.ot.at_ HT6.out.1 (by omega);obtain ⟨g2, c2, eV, _, _, _, cv, _⟩ := V6.out.ow.at_ (SP6.out.1.symm.trans HT6.out.1) (by omega);have p1 : (U.drewN (dn + 1)).cell? ⟨g1, h, none⟩ = some (.int .i64 (T6.getD h 0)) := ct h hlt;have p2 : (U.drewN (dn + 1)).cell? ⟨g2, h, none⟩ = some (.int .i64 (V6l.getD h 0)) := cv h hlt;have p3 : (U.drewN (dn + 1)).cell? ⟨bb, 1, none⟩ = some (.int .i64 f) := x1;have p4 : (U.drewN (dn + 1)).cell? ⟨bb, 3, none⟩ = some (.slice (some ⟨ga, 0, none⟩) 2 2) := x3;have p5 : (U.drewN (dn + 1)).cell? ⟨ga, 0, none⟩ = some (.int .i64 (t2 : Int)) := y0;obtain ⟨hsp1, hsp2⟩ := SP6.out.2 h (by rw [HT6.out.1]; exact hlt);obtain ⟨th, hth⟩ : ∃ z, z = T6.getD h 0 := ⟨_, rfl⟩;obtain ⟨vh, hvh⟩ : ∃ z, z = V6l.getD h 0 := ⟨_, rfl⟩;rw [<- hth] at p1 hsp1 hsp2;rw [<- hvh] at p2 hsp2;cases eT
         cases eV
         clear ct cv hth hvh;by_cases hts : th = (t2 : Int)
         ·have hb1 : ((th : Int) == (t2 : Int)) = true := by simp; exact hts
          have hb2 : ((vh : Int) != f) = false := by
           have h1 := (hsp2 hts).2;have h2 := HF.out.2;simp;omega
          clear hsp1 hsp2 hts;go_wp2_with fail
          refine heldT_top (fun W' : World => W'.cell? ⟨g1, h, none⟩ = some (.int .i64 th) /\ W'.cell? ⟨g2, h, none⟩ = some (.int .i64 vh) /\ W'.cell? ⟨bb, 1, none⟩ = some (.int .i64 f) /\ W'.cell? ⟨bb, 3, none⟩ = some (.slice (some ⟨ga, 0, none⟩) 2 2) /\ W'.cell? ⟨ga, 0, none⟩ = some (.int .i64 (t2 : Int))) 24 #[false, false, false, false, false, false, false, false, false, false, false, false, false, false, false, false, false, false, false, false, false, false, false, false] (by kernel_rfl) (by kernel_rfl) (by kernel_rfl) ?_;change wpAnyH _ _ _ _ _ _ _ _ (U.drewN (dn + 1));have hHeld : (fun W' : World => W'.cell? ⟨g1, h, none⟩ = some (.int .i64 th) /\ W'.cell? ⟨g2, h, none⟩ = some (.int .i64 vh) /\ W'.cell? ⟨bb, 1, none⟩ = some (.int .i64 f) /\ W'.cell? ⟨bb, 3, none⟩ = some (.slice (some ⟨ga, 0, none⟩) 2 2) /\ W'.cell? ⟨ga, 0, none⟩ = some (.int .i64 (t2 : Int))) (U.drewN (dn + 1)) := ⟨p1, p2, p3, p4, p5⟩
          iterate 24
           first | refine' tkH 0 rfl hHeld rfl ?_ ?_ | refine' tkH 1 rfl hHeld rfl ?_ ?_ | refine' tkH 2 rfl hHeld rfl ?_ ?_ | refine' tkH 3 rfl hHeld rfl ?_ ?_ | refine' tkH 4 rfl hHeld rfl ?_ ?_ | refine' tkH 5 rfl hHeld rfl ?_ ?_ | refine' tkH 6 rfl hHeld rfl ?_ ?_ | refine' tkH 7 rfl hHeld rfl ?_ ?_ | refine' tkH 8 rfl hHeld rfl ?_ ?_ | refine' tkH 9 rfl hHeld rfl ?_ ?_ | refine' tkH 10 rfl hHeld rfl ?_ ?_ | refine' tkH 11 rfl hHeld rfl ?_ ?_ | refine' tkH 12 rfl hHeld rfl ?_ ?_ | refine' tkH 13 rfl hHeld rfl ?_ ?_ | refine' tkH 14 rfl hHeld rfl ?_ ?_ | refine' tkH 15 rfl hHeld rfl ?_ ?_ | refine' tkH 16 rfl hHeld rfl ?_ ?_ | refine' tkH 17 rfl hHeld rfl ?_ ?_ | refine' tkH 18 rfl hHeld rfl ?_ ?_ | refine' tkH 19 rfl hHeld rfl ?_ ?_ | refine' tkH 20 rfl hHeld rfl ?_ ?_ | refine' tkH 21 rfl hHeld rfl ?_ ?_ | refine' tkH 22 rfl hHeld rfl ?_ ?_ | refine' tkH 23 rfl hHeld rfl ?_ ?_
           rotate_left
           ·(intro W' hW; (try dsimp only at hW); obtain ⟨z1', z2', z3', z4', z5'⟩ := hW; go_simp; (try with_reducible rfl))
           try simp only [Act.put, List.setIfInBounds_toArray, List.set_cons_zero, List.set_cons_succ]
          refine wpAnyH_done (by kernel_rfl) ?_ _;clear hHeld;go_wp2_with fail
          go_roundw
          case rel => exact ⟨h + 1, dn + 1, by omega, by go_num, rfl⟩
          case measure => simp [intOf]; omega
         ·have hb1 : ((th : Int) == (t2 : Int)) = false := by simp; exact hts
          clear hsp1 hsp2 hts;go_wp2_with fail
          refine heldT_top (fun W' : World => W'.cell? ⟨g1, h, none⟩ = some (.int .i64 th) /\ W'.cell? ⟨g2, h, none⟩ = some (.int .i64 vh) /\ W'.cell? ⟨bb, 1, none⟩ = some (.int .i64 f) /\ W'.cell? ⟨bb, 3, none⟩ = some (.slice (some ⟨ga, 0, none⟩) 2 2) /\ W'.cell? ⟨ga, 0, none⟩ = some (.int .i64 (t2 : Int))) 24 #[false, false, false, false, false, false, false, false, false, false, false, false, false, false, false, false, false, false, false, false, false, false, false, false] (by kernel_rfl) (by kernel_rfl) (by kernel_rfl) ?_;change wpAnyH _ _ _ _ _ _ _ _ (U.drewN (dn + 1));have hHeld : (fun W' : World => W'.cell? ⟨g1, h, none⟩ = some (.int .i64 th) /\ W'.cell? ⟨g2, h, none⟩ = some (.int .i64 vh) /\ W'.cell? ⟨bb, 1, none⟩ = some (.int .i64 f) /\ W'.cell? ⟨bb, 3, none⟩ = some (.slice (some ⟨ga, 0, none⟩) 2 2) /\ W'.cell? ⟨ga, 0, none⟩ = some (.int .i64 (t2 : Int))) (U.drewN (dn + 1)) := ⟨p1, p2, p3, p4, p5⟩
          iterate 13
           first | refine' tkH 0 rfl hHeld rfl ?_ ?_ | refine' tkH 1 rfl hHeld rfl ?_ ?_ | refine' tkH 2 rfl hHeld rfl ?_ ?_ | refine' tkH 3 rfl hHeld rfl ?_ ?_ | refine' tkH 4 rfl hHeld rfl ?_ ?_ | refine' tkH 5 rfl hHeld rfl ?_ ?_ | refine' tkH 6 rfl hHeld rfl ?_ ?_ | refine' tkH 7 rfl hHeld rfl ?_ ?_ | refine' tkH 8 rfl hHeld rfl ?_ ?_ | refine' tkH 9 rfl hHeld rfl ?_ ?_ | refine' tkH 10 rfl hHeld rfl ?_ ?_ | refine' tkH 11 rfl hHeld rfl ?_ ?_ | refine' tkH 12 rfl hHeld rfl ?_ ?_
           rotate_left
           ·(intro W' hW; (try dsimp only at hW); obtain ⟨z1', z2', z3', z4', z5'⟩ := hW; go_simp; (try with_reducible rfl))
           try simp only [Act.put, List.setIfInBounds_toArray, List.set_cons_zero, List.set_cons_succ]
          refine' wpAnyH_take (i := 13) (oi := ⟨_, _, _, _, _, _⟩) (v := undef) rfl (by kernel_rfl) (by kernel_rfl) (by kernel_rfl) (fun _ _ _ h => h) (Or.inr ⟨rfl, rfl⟩) hHeld ?_;try simp only [Act.put, List.setIfInBounds_toArray, List.set_cons_zero, List.set_cons_succ]
          refine' wpAnyH_take (i := 14) (oi := ⟨_, _, _, _, _, _⟩) (v := undef) rfl (by kernel_rfl) (by kernel_rfl) (by kernel_rfl) (fun _ _ _ h => h) (Or.inr ⟨rfl, rfl⟩) hHeld ?_;try simp only [Act.put, List.setIfInBounds_toArray, List.set_cons_zero, List.set_cons_succ]
          refine' wpAnyH_take (i := 15) (oi := ⟨_, _, _, _, _, _⟩) (v := undef) rfl (by kernel_rfl) (by kernel_rfl) (by kernel_rfl) (fun _ _ _ h => h) (Or.inr ⟨rfl, rfl⟩) hHeld ?_;try simp only [Act.put, List.setIfInBounds_toArray, List.set_cons_zero, List.set_cons_succ]
          refine' wpAnyH_take (i := 16) (oi := ⟨_, _, _, _, _, _⟩) (v := undef) rfl (by kernel_rfl) (by kernel_rfl) (by kernel_rfl) (fun _ _ _ h => h) (Or.inr ⟨rfl, rfl⟩) hHeld ?_;try simp only [Act.put, List.setIfInBounds_toArray, List.set_cons_zero, List.set_cons_succ]
          refine' wpAnyH_take (i := 17) (oi := ⟨_, _, _, _, _, _⟩) (v := undef) rfl (by kernel_rfl) (by kernel_rfl) (by kernel_rfl) (fun _ _ _ h => h) (Or.inr ⟨rfl, rfl⟩) hHeld ?_;try simp only [Act.put, List.setIfInBounds_toArray, List.set_cons_zero, List.set_cons_succ]
          refine' wpAnyH_take (i := 18) (oi := ⟨_, _, _, _, _, _⟩) (v := undef) rfl (by kernel_rfl) (by kernel_rfl) (by kernel_rfl) (fun _ _ _ h => h) (Or.inr ⟨rfl, rfl⟩) hHeld ?_;try simp only [Act.put, List.setIfInBounds_toArray, List.set_cons_zero, List.set_cons_succ]
          refine' wpAnyH_take (i := 19) (oi := ⟨_, _, _, _, _, _⟩) (v := undef) rfl (by kernel_rfl) (by kernel_rfl) (by kernel_rfl) (fun _ _ _ h => h) (Or.inr ⟨rfl, rfl⟩) hHeld ?_;try simp only [Act.put, List.setIfInBounds_toArray, List.set_cons_zero, List.set_cons_succ]
          refine' wpAnyH_take (i := 20) (oi := ⟨_, _, _, _, _, _⟩) (v := undef) rfl (by kernel_rfl) (by kernel_rfl) (by kernel_rfl) (fun _ _ _ h => h) (Or.inr ⟨rfl, rfl⟩) hHeld ?_;try simp only [Act.put, List.setIfInBounds_toArray, List.set_cons_zero, List.set_cons_succ]
          refine' wpAnyH_take (i := 21) (oi := ⟨_, _, _, _, _, _⟩) (v := undef) rfl (by kernel_rfl) (by kernel_rfl) (by kernel_rfl) (fun _ _ _ h => h) (Or.inr ⟨rfl, rfl⟩) hHeld ?_;try simp only [Act.put, List.setIfInBounds_toArray, List.set_cons_zero, List.set_cons_succ]
          refine' wpAnyH_take (i := 22) (oi := ⟨_, _, _, _, _, _⟩) (v := undef) rfl (by kernel_rfl) (by kernel_rfl) (by kernel_rfl) (fun _ _ _ h => h) (Or.inr ⟨rfl, rfl⟩) hHeld ?_;try simp only [Act.put, List.setIfInBounds_toArray, List.set_cons_zero, List.set_cons_succ]
          refine' tkH 23 rfl hHeld rfl ?_ ?_;rotate_left
          ·(intro W' hW; (try dsimp only at hW); obtain ⟨z1', z2', z3', z4', z5'⟩ := hW; go_simp; (try with_reducible rfl))
          try simp only [Act.put, List.setIfInBounds_toArray, List.set_cons_zero, List.set_cons_succ]
          refine wpAnyH_done (by kernel_rfl) ?_ _;clear hHeld;go_wp2_with fail
          go_roundw
          case rel => exact ⟨h + 1, dn + 1, by omega, by go_num, rfl⟩
          case measure => simp [intOf]; omega
        ·have fh : ¬ (h : Int) < (nT6 : Int) := by omega
         have eh : h = nT6 := by omega
         subst eh;have VU := hide (V6.out.below (below_drewN (Below.refl _ _) dn));have KU := hide (below_drewN K6x.out dn);have BU := hide (BK.out.drewN dn);have u1 : (U.drewN dn).cell? ⟨bb, 1, none⟩ = some (.int .i64 f) := x1;have u3 : (U.drewN dn).cell? ⟨bb, 3, none⟩ = some (.slice (some ⟨ga, 0, none⟩) 2 2) := x3;have u5 : (U.drewN dn).cell? ⟨ga, 0, none⟩ = some (.int .i64 (t2 : Int)) := y0;generalize U.drewN dn = W at *;clear x0 x1 x2 x3 y0 y1 V6 K6x BK NA;go_wp2_with (at_builtin; refine halt ?_)
         refine ⟨?_⟩;have ka := below_alloc W (.cells #[.int .i64 (t2 : Int)] 3);have V7 := hide (VU.out.below ka);have K7 := hide (KU.out.trans (ka.mono KU.out.size));have B7 := hide (BU.out.keep ka);clear ka;refine wpList_append_num rfl (.tmp 124) (.tmp 132) rfl w.heap.size _ _ rfl V7.out.ot W.heap.size (t2 : Int) rfl (cell_new _ _ _) (by rw [HT6.out.1]; have := HT6.out.2; omega) K7.out.size ?_;intro tv9 W9 o9 g9 e9;have V9 := hide (V7.out.push1 o9 g9 e9);have B9 := hide (B7.out.turn (Turn.of_grown g9) (fun he => ownsRow_blk V7.out.ot B7.out (by decide) he.symm));have K9 := hide (K7.out.trans ((Turn.of_grown g9).below K7.out.size (fun k hk => (World.ownsRow.lt V7.out.ot k hk.symm).1)));obtain ⟨A9, c9, rfl, _⟩ := o9.isI.form (n := h + 1) (by rw [List.length_append, HT6.out.1]; rfl);have s1 : W9.cell? ⟨bb, 1, none⟩ = some (.int .i64 f) := B9.out.cell 1;clear o9 g9 e9 V7 K7 B7 u1 u3 u5 VU KU BU;go_wp2_with (at_builtin; refine halt ?_)
         refine ⟨?_⟩;have ka := below_alloc W9 (.cells #[.int .i64 f] 3);have V7 := hide (V9.out.below ka);have K7 := hide (K9.out.trans (ka.mono K9.out.size));clear ka;refine wpList_append_num rfl (.tmp 134) (.tmp 140) rfl w.heap.size _ _ rfl V7.out.ow W9.heap.size f rfl (cell_new _ _ _) (by rw [SP6.out.1.symm, HT6.out.1]; have := HT6.out.2; omega) K7.out.size ?_;intro wv8 W8 o8 g8 e8;have V8 := hide (V7.out.push2 o8 g8 e8);have K8 := hide (K7.out.trans ((Turn.of_grown g8).below K7.out.size (fun k hk => (World.ownsRow.lt V7.out.ow k hk.symm).1)));obtain ⟨A8, c8, rfl, _⟩ := o8.isI.form (n := h + 1) (by rw [List.length_append, SP6.out.1.symm, HT6.out.1]; rfl);have SP8 := hide (SP6.out.push HF.out.1 HF.out.2);clear o8 g8 e8 V7 K7 V9 K9 B9 s1;go_wp2_with fail
         go_roundw
         case rel => exact ⟨A9, A8, c9, c8, h + 1, _, _, rfl, rfl, V8, SP8, K8, .inr ⟨rfl, hide ⟨by rw [List.length_append, HT6.out.1]; rfl, by have := HT6.out.2; omega⟩⟩⟩
         case measure => simp [intOf]
end Go.Proofs.YtedlibkkeegnaaaGreat
