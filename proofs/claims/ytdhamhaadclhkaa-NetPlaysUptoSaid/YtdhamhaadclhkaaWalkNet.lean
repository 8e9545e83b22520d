/- The walk of the law NetPlays. Condition: no list is longer than 1048576. -/
import Derived.Test.YtdhamhaadclhkaaNTwo
import Derived.Deep.Cut
import Derived.Deep.CutRange
import Derived.Deep.CutBlock
namespace Go.Proofs.Ytdhamhaadclhkaa
open Go.RowKit
set_option maxRecDepth 100000 in
set_option maxHeartbeats 6400000 in
theorem netPlays_core (T c : Nat) (a : Option Addr) (X : List St) (w : World) (hX : X.length = T) (hI : IsSteps w a X) :
    Calls Try.prog 4 #[.slice a T c] w fun e w' => e = .returned (.bool true) ∧ Below w.heap.size w w' := by
  have HX := hide hX
  have HI := hide hI
  clear hX hI
  go_enter Try.func4, Try.ntmps4
  go_upto_block 0 with fail
  go_cut [3, 4] from 19 to 45 (fun k i wr => ∃ s e : Nat, k = .int .i64 (s : Int) ∧ s ≤ 419430400 ∧ wr = w.drewN e)
  case first =>
    go_wp2_with fail
    go_loopw [3, 4] (fun k i wr => ∃ j s e : Nat, j ≤ T ∧ j ≤ 200 ∧ s ≤ j * 2097152 ∧ k = .int .i64 (s : Int) ∧ i = .int .i64 (j : Int) ∧ wr = w.drewN e) (fun _ i _ => 200 - (intOf i).toNat)
    case atStart => exact ⟨0, 0, 0, Nat.zero_le _, Nat.zero_le _, Nat.zero_le _, rfl, rfl, rfl⟩
    case round =>
      obtain ⟨j, s, e, hj, hj2, hs, rfl, rfl, rfl⟩ := hrel
      by_cases hlt : j < T
      · have hltz : (j : Int) < (T : Int) := by omega
        by_cases h200 : j < 200
        · have h2z : (j : Int) < 200 := by omega
          have hjX : j < X.length := by rw [HX.out]; exact hlt
          obtain ⟨b, off, rfl, y0, y1, y2, y3, y4, y5, y6, -, -, -, l3, l4⟩ := HI.out j hjX
          obtain ⟨n3, hn3⟩ : ∃ n, n = X[j].zs.length := ⟨_, rfl⟩
          obtain ⟨n4, hn4⟩ : ∃ n, n = X[j].d.length := ⟨_, rfl⟩
          rw [← hn3] at y5 l3
          rw [← hn4] at y6 l4
          have hj0 : 0 ≤ (j : Int) := by omega
          clear hn3 hn4 y0 y1 y2 y3 y4
          go_wp2_with fail
          go_quiet (fail)
          go_wp2_with fail
          exact ⟨⟨j + 1, s + n3 + n4, e + nq, by omega, by omega, by omega, by go_num, by go_num, rfl⟩, by simp [intOf]; omega⟩
        · have h2z : ¬ ((j : Int) < 200) := by omega
          go_wp2_with fail
          go_meet
          case rel => exact ⟨s, e, rfl, by omega, rfl⟩
      · have hltz : ¬ ((j : Int) < (T : Int)) := by omega
        go_wp2_with fail
        go_meet
        case rel => exact ⟨s, e, rfl, by omega, rfl⟩
  case rest =>
    obtain ⟨s, e, rfl, hs, rfl⟩ := hcut
    by_cases h6 : s ≤ 6000
    · have h6z : ¬ ((6000 : Int) < (s : Int)) := by omega
      have h0 := two_new w (w.drewN e) (below_drewN (Below.refl _ _) e)
      have hss : (w.drewN e).heap.size = w.heap.size := rfl
      rw [hss] at h0
      have H0 := hide h0
      clear h0 hss
      go_upto_block 2 with fail
      obtain ⟨g, hg⟩ : ∃ g, g = w.heap.size := ⟨_, rfl⟩
      obtain ⟨p, hp⟩ : ∃ p, p = w.heap.size + 1 := ⟨_, rfl⟩
      rw [← hp, ← hg] at H0
      rw [← hp, ← hg]
      have HGG := hide hg
      have HPP := hide hp
      clear hg hp
      go_cut [7, 8, 9, 10, 11, 12, 13, 14, 15] from 53 to 172 (fun _ _ _ _ _ _ _ _ _ wr => Hid (∃ (L : List Tale) (F G : Nat → Prop), Two w wr g p L L F G))
      case first =>
        go_wp2_with fail
        go_loopw [7] (fun i wr => ∃ (m : Nat) (L : List Tale) (F G : Nat → Prop), m ≤ T ∧ m ≤ 200 ∧ i = .int .i64 (m : Int) ∧ Hid (Two w wr g p L L F G)) (fun i _ => 200 - (intOf i).toNat)
        case atStart => exact ⟨0, [], _, _, Nat.zero_le _, Nat.zero_le _, rfl, H0.out⟩
        case round =>
          obtain ⟨m, L, F, G, hm, hm2, rfl, hTwo⟩ := hrel
          by_cases hmT : m < T
          · have hltz : (m : Int) < (T : Int) := by omega
            by_cases h2m : m < 200
            · have h2z : (m : Int) < 200 := by omega
              have hmX : m < X.length := by rw [HX.out]; exact hmT
              obtain ⟨b, off, rfl, y0, y1, y2, y3, y4, y5, y6, i3, i3n, i4, l3, l4⟩ := HI.out m hmX
              have hkB := hTwo.out.k
              have hbw := cell_lt y0
              have x0 := (hkB.cell (p := ⟨b, off + m * 7, none⟩) hbw).trans y0
              have x1 := (hkB.cell (p := ⟨b, off + m * 7 + 1, none⟩) hbw).trans y1
              have x2 := (hkB.cell (p := ⟨b, off + m * 7 + 2, none⟩) hbw).trans y2
              have x3 := (hkB.cell (p := ⟨b, off + m * 7 + 3, none⟩) hbw).trans y3
              have x4 := (hkB.cell (p := ⟨b, off + m * 7 + 4, none⟩) hbw).trans y4
              have x5 := (hkB.cell (p := ⟨b, off + m * 7 + 5, none⟩) hbw).trans y5
              have x6 := (hkB.cell (p := ⟨b, off + m * 7 + 6, none⟩) hbw).trans y6
              obtain ⟨kd, ii, f, t, k, a3, c3, zs, a4, c4, d, hx⟩ : ∃ kd ii f t k a3 c3 zs a4 c4 d, X[m] = ⟨kd, ii, f, t, k, a3, c3, zs, a4, c4, d⟩ := ⟨_, _, _, _, _, _, _, _, _, _, _, rfl⟩
              rw [hx] at x0 x1 x2 x3 x4 x5 x6 i3 i3n i4 l3 l4
              simp only at x0 x1 x2 x3 x4 x5 x6 i3 i3n i4 l3 l4
              have I3 := hide i3
              have I3N := hide i3n
              have I4 := hide i4
              have hm0 : 0 ≤ (m : Int) := by omega
              clear y0 y1 y2 y3 y4 y5 y6 hx hkB i3 i3n i4
              by_cases hk1 : kd = 1
              · subst hk1
                have H1 := hide (hTwo.out.quiet (below_alloc wr (.cells #[.int .i64 1, .int .i64 ii, .int .i64 f, .int .i64 t, .int .i64 k, .slice a3 zs.length c3, .slice a4 d.length c4] 47)))
                have B1 := hide (LoneBlk.new hTwo.out 47 #[.int .i64 1, .int .i64 ii, .int .i64 f, .int .i64 t, .int .i64 k, .slice a3 zs.length c3, .slice a4 d.length c4])
                go_wp2_with fail
                clear x0 x1 x2 x3 x4 x5 x6
                obtain ⟨gs, hgs⟩ : ∃ gs, gs = wr.heap.size := ⟨_, rfl⟩
                obtain ⟨w1, hw1⟩ : ∃ w1, w1 = wr.alloc (.cells #[.int .i64 1, .int .i64 ii, .int .i64 f, .int .i64 t, .int .i64 k, .slice a3 zs.length c3, .slice a4 d.length c4] 47) := ⟨_, rfl⟩
                rw [← hw1, ← hgs] at B1
                rw [← hw1] at H1
                rw [← hw1, ← hgs]
                clear hw1 hgs
                refine (rclone5_any f t k a3 a4 zs.length c3 d.length c4 zs d w1 (I3.out.keep H1.out.k) I3N.out (I4.out.keep H1.out.k) rfl (by omega) (by omega)).mono ?_
                rintro e2 w2 ⟨r, rfl, fr, k2⟩
                have fr := FreshO.lone (w := w) (fr.off (F := F) H1.out.n.low) H1.out.r.low H1.out.k.size
                obtain ⟨A, cA, D, cD, rfl, lN, lD⟩ := fr
                simp only at lN lD
                have h2 := H1.out.quiet k2
                have b2 := B1.out.quiet k2
                have k3 := below_alloc w2 (.cells #[.int .i64 f, .int .i64 t, .int .i64 k, .slice A zs.length cA, .slice D d.length cD] 45)
                have m3 := LoneBlk.new h2 45 #[.int .i64 f, .int .i64 t, .int .i64 k, .slice A zs.length cA, .slice D d.length cD]
                have H3 := hide (h2.quiet k3)
                have B3 := hide (b2.quiet k3)
                have LN := hide (lN.quiet k3)
                have LD := hide (lD.quiet k3)
                clear h2 b2 k2 k3 lN lD
                go_wp2_with fail
                obtain ⟨gm, hgm⟩ : ∃ gm, gm = w2.heap.size := ⟨_, rfl⟩
                obtain ⟨w3, hw3⟩ : ∃ w3, w3 = w2.alloc (.cells #[.int .i64 f, .int .i64 t, .int .i64 k, .slice A zs.length cA, .slice D d.length cD] 45) := ⟨_, rfl⟩
                rw [← hw3, ← hgm] at m3
                rw [← hw3] at H3 B3 LN LD
                rw [← hw3, ← hgm]
                have M3 := hide m3
                clear hw3 hgm m3
                have z0 : w3.cell? ⟨gm, 0, none⟩ = some (.int .i64 f) := M3.out.blk.cell 0
                have z1 : w3.cell? ⟨gm, 1, none⟩ = some (.int .i64 t) := M3.out.blk.cell 1
                have z2 : w3.cell? ⟨gm, 2, none⟩ = some (.int .i64 k) := M3.out.blk.cell 2
                have z3 : w3.cell? ⟨gm, 3, none⟩ = some (.slice A zs.length cA) := M3.out.blk.cell 3
                have z4 : w3.cell? ⟨gm, 4, none⟩ = some (.slice D d.length cD) := M3.out.blk.cell 4
                have v2 : w3.cell? ⟨gs, 2, none⟩ = some (.int .i64 f) := B3.out.blk.cell 2
                have v3 : w3.cell? ⟨gs, 3, none⟩ = some (.int .i64 t) := B3.out.blk.cell 3
                have v4 : w3.cell? ⟨gs, 4, none⟩ = some (.int .i64 k) := B3.out.blk.cell 4
                have v5 : w3.cell? ⟨gs, 5, none⟩ = some (.slice a3 zs.length c3) := B3.out.blk.cell 5
                have v6 : w3.cell? ⟨gs, 6, none⟩ = some (.slice a4 d.length c4) := B3.out.blk.cell 6
                have HL3 : Hid (∀ wx, Below w3.heap.size w3 wx → NetAt PN wx F g L → Calls Try.prog 20 #[.pointer (some ⟨g, 0, none⟩), .agg #[.int .i64 f, .int .i64 t, .int .i64 k, .slice A zs.length cA, .slice D d.length cD]] wx fun e w' => e = .returned (.bool (decide (L.length < 4096))) ∧ ∃ F', NetAt PN w' F' g (sendL (f, t, k, zs, d) L) ∧ Next F wx F' w') := fun wx kx hx => send_any F g L f t k A D zs.length cA d.length cD zs d wx hx ((OwnN.isI LN.out.own).keep kx) (Fresh.nil (w := w3) (B := w.heap.size) LN.out.own) ((Own.isB LD.out.own).keep kx) rfl (by omega) (by omega)
                have HR3 : Hid (∀ wx, Below w.heap.size w wx → NetAt RN wx G p L → Calls Try.prog 21 #[.pointer (some ⟨p, 0, none⟩), .agg #[.int .i64 f, .int .i64 t, .int .i64 k, .slice a3 zs.length c3, .slice a4 d.length c4]] wx fun e w' => e = .returned (.bool (decide (L.length < 4096))) ∧ ∃ F', NetAt RN w' F' p (sendL (f, t, k, zs, d) L) ∧ Next G wx F' w') := fun wx kx hx => rsend_any G p L f t k a3 a4 zs.length c3 d.length c4 zs d wx hx (I3.out.keep kx) I3N.out (I4.out.keep kx) rfl (by omega) (by omega)
                go_cut [9] from 83 to 90 (fun v9 wc => v9 = .bool true ∧ Hid (∃ F' G' : Nat → Prop, Two w wc g p (sendL (f, t, k, zs, d) L) (sendL (f, t, k, zs, d) L) F' G' ∧ LoneBlk w wc F' G' 45 gm [.int .i64 f, .int .i64 t, .int .i64 k, .slice A zs.length cA, .slice D d.length cD] ∧ Lone w wc F' G' 3 (.slice A zs.length cA) zs.length (zs.map fun z : Int => Value.int .i64 z) ∧ Lone w wc F' G' 5 (.slice D d.length cD) d.length (d.map fun z : Nat => Value.int .u8 (z : Int))))
                case first =>
                  go_region_law (first
                    | (go_simp; go_at_call 20; refine (HL3.out _ (by exact Below.one w3) (by exact (H3.out.quiet (Below.one w3)).n)).mono ?_; rintro e w4 ⟨rfl, F', n4, x4⟩; have H4 := hide ((H3.out.quiet (Below.one w3)).left n4 x4); have B4 := hide ((B3.out.quiet (Below.one w3)).left x4); have M4 := hide ((M3.out.quiet (Below.one w3)).left x4); have LN4 := hide ((LN.out.quiet (Below.one w3)).left x4); have LD4 := hide ((LD.out.quiet (Below.one w3)).left x4); clear n4 x4; have u2 : w4.cell? ⟨gs, 2, none⟩ = some (.int .i64 f) := (by exact B4.out.blk.cell 2); have u3 : w4.cell? ⟨gs, 3, none⟩ = some (.int .i64 t) := (by exact B4.out.blk.cell 3); have u4 : w4.cell? ⟨gs, 4, none⟩ = some (.int .i64 k) := (by exact B4.out.blk.cell 4); have u5 : w4.cell? ⟨gs, 5, none⟩ = some (.slice a3 zs.length c3) := (by exact B4.out.blk.cell 5); have u6 : w4.cell? ⟨gs, 6, none⟩ = some (.slice a4 d.length c4) := (by exact B4.out.blk.cell 6))
                    | (go_simp; go_at_call 21; refine (HR3.out _ (by exact H4.out.k) (by exact H4.out.r)).mono ?_; rintro e w5 ⟨rfl, G', n5, x5⟩; have H5 := hide (H4.out.right n5 x5); have M5 := hide (M4.out.right x5); have LN5 := hide (LN4.out.right x5); have LD5 := hide (LD4.out.right x5); clear n5 x5))
                  all_goals
                    go_wp2_with fail
                    go_meet
                    case rel => exact ⟨by simp, _, _, H5.out, M5.out, LN5.out, LD5.out⟩
                case rest =>
                  obtain ⟨rfl, hcc⟩ := hcut
                  obtain ⟨F', G', h5, m5, ln5, ld5⟩ := hcc.out
                  have H5 := hide h5
                  have M5 := hide m5
                  have LN5 := hide ln5
                  have LD5 := hide ld5
                  clear h5 m5 ln5 ld5 hcc
                  clear z0 z1 z2 z3 z4 v2 v3 v4 v5 v6
                  have c4m : wc.cell? ⟨gm, 4, none⟩ = some (.slice D d.length cD) := M5.out.blk.cell 4
                  go_wp2_with fail
                  clear c4m
                  refine (spoilT_any D d.length cD d wc (ownsRow_more LD5.out.own (Nat.zero_le _)) rfl (by omega)).mono ?_
                  rintro e w6 ⟨rfl, t6⟩
                  have H6 := hide (H5.out.spoilt LD5.out t6)
                  have M6 := hide (M5.out.spoilt LD5.out (by decide) t6)
                  have LN6 := hide (LN5.out.spoilt LD5.out (by decide) t6)
                  clear t6
                  go_wp2_with fail
                  go_loopw [11] (fun i wx => ∃ q : Nat, q ≤ zs.length ∧ i = .int .i64 (q : Int) ∧ Hid (Two w wx g p (sendL (f, t, k, zs, d) L) (sendL (f, t, k, zs, d) L) F' G') ∧ Hid (LoneBlk w wx F' G' 45 gm [.int .i64 f, .int .i64 t, .int .i64 k, .slice A zs.length cA, .slice D d.length cD]) ∧ Hid (∃ ys : List Int, ys.length = zs.length ∧ Lone w wx F' G' 3 (.slice A zs.length cA) ys.length (ys.map fun z : Int => Value.int .i64 z))) (fun i _ => zs.length - (intOf i).toNat)
                  case atStart => exact ⟨0, Nat.zero_le _, rfl, H6.out, M6.out, ⟨zs, rfl, LN6.out⟩⟩
                  case round =>
                    obtain ⟨q, hq, rfl, hT, hM, hL⟩ := hrel
                    have c3m : wr.cell? ⟨gm, 3, none⟩ = some (.slice A zs.length cA) := hM.out.blk.cell 3
                    by_cases hqz : q < zs.length
                    · have hqi : (q : Int) < (zs.length : Int) := by omega
                      have hq0 : 0 ≤ (q : Int) := by omega
                      obtain ⟨ys, hyl, hlo⟩ := hL.out
                      obtain ⟨ga, c', ee, -, -, -, hcells, hfr⟩ := OwnN.at_ (B := w.heap.size) hlo.own hyl (by omega)
                      obtain ⟨rfl, rfl⟩ : A = some ⟨ga, 0, none⟩ ∧ cA = c' := by simpa using ee
                      have cq := hcells q hqz
                      have fq := hfr q
                      have tq : Turn (fun b => (Value.slice (some ⟨ga, 0, none⟩) zs.length cA).ownBlock = some b) wr (wr.setCell ⟨ga, q, none⟩ (.int .i64 (-77))) := (Turn.of_grown (grown_set wr ga q _)).mono (fun b hb => hb.symm)
                      have T7 := hide (hT.out.spoilt hlo tq)
                      have M7 := hide (hM.out.spoilt hlo (by decide) tq)
                      have st := OwnN.stored (B := w.heap.size) hlo.own hyl q (-77)
                      have L7 : Hid (∃ ys : List Int, ys.length = zs.length ∧ Lone w (wr.setCell ⟨ga, q, none⟩ (.int .i64 (-77))) F' G' 3 (.slice (some ⟨ga, 0, none⟩) zs.length cA) ys.length (ys.map fun z : Int => Value.int .i64 z)) := ⟨ys.set q (-77), by rw [List.length_set, hyl], ⟨st, hlo.f, hlo.g⟩⟩
                      clear hcells hfr tq st hlo hyl hT hM hL ee
                      go_wp2_with fail
                      go_roundw
                      case rel => exact ⟨q + 1, by omega, by go_num, T7, M7, L7⟩
                      case measure => simp [intOf]; omega
                    · have hqi : ¬ ((q : Int) < (zs.length : Int)) := by omega
                      go_wp2_with fail
                      obtain ⟨vR, XR, eR, hSR⟩ := hT.out.r
                      obtain ⟨AR, cR, rfl, -⟩ := hSR.row.form
                      have cpR : wr.cell? ⟨p, 0, none⟩ = some (.slice AR XR.length cR) := hSR.cells.cell 0
                      obtain ⟨nR, hnR⟩ : ∃ nR, nR = XR.length := ⟨_, rfl⟩
                      rw [← hnR] at cpR
                      have hll : (sendL (f, t, k, zs, d) L).length = nR := by rw [eR, List.length_map, hnR]
                      have HLL := hide hll
                      have eqn : ((nR : Int) != (nR : Int)) = false := by simp
                      clear hSR eR hnR hll
                      go_quiet ((go_at_call 32; refine Calls.quiet_of (v := .int .i64 (nR : Int)) ?_; refine (len5_at _ g _ _ (hT.out.n.below (below_drewN (Below.refl _ _) _))).mono ?_; rintro e w' ⟨rfl, rfl⟩; exact ⟨by rw [HLL.out], 0, rfl⟩))
                      go_wp2_with fail
                      exact ⟨⟨m + 1, _, _, _, by omega, by omega, by go_num, hT.out.quiet (below_drewN (Below.refl _ _) _)⟩, by simp [intOf]; omega⟩
              · have nk1 : (kd == 1) = false := by simp [hk1]
                by_cases hk2 : kd = 2
                · subst hk2
                  clear nk1 hk1
                  have H1 := hide (hTwo.out.quiet (below_alloc wr (.cells #[.int .i64 2, .int .i64 ii, .int .i64 f, .int .i64 t, .int .i64 k, .slice a3 zs.length c3, .slice a4 d.length c4] 47)))
                  have B1 := hide (LoneBlk.new hTwo.out 47 #[.int .i64 2, .int .i64 ii, .int .i64 f, .int .i64 t, .int .i64 k, .slice a3 zs.length c3, .slice a4 d.length c4])
                  go_wp2_with fail
                  clear x0 x1 x2 x3 x4 x5 x6
                  obtain ⟨gs, hgs⟩ : ∃ gs, gs = wr.heap.size := ⟨_, rfl⟩
                  obtain ⟨w1, hw1⟩ : ∃ w1, w1 = wr.alloc (.cells #[.int .i64 2, .int .i64 ii, .int .i64 f, .int .i64 t, .int .i64 k, .slice a3 zs.length c3, .slice a4 d.length c4] 47) := ⟨_, rfl⟩
                  rw [← hw1, ← hgs] at B1
                  rw [← hw1] at H1
                  rw [← hw1, ← hgs]
                  clear hw1 hgs
                  have hbd := getM_bound H1.out.n ii
                  have hA := at5_any F g L ii w1 H1.out.n
                  obtain ⟨mf, mt, mk, mz, md, hme⟩ : ∃ mf mt mk mz md, getM ii L = (mf, mt, mk, mz, md) := ⟨_, _, _, _, _, rfl⟩
                  obtain ⟨bi, hbi⟩ : ∃ bi, bi = decide (0 ≤ ii ∧ ii < (L.length : Int)) := ⟨_, rfl⟩
                  rw [hme, ← hbi] at hA
                  rw [hme] at hbd
                  have HME := hide hme
                  have HBI := hide hbi
                  clear hme hbi
                  refine hA.mono ?_
                  rintro e2 w2 ⟨r, rfl, fr, k2⟩
                  obtain ⟨A, cA, D, cD, rfl, lN, lD⟩ := FreshO.lone (w := w) fr H1.out.r.low H1.out.k.size
                  simp only at lN lD
                  have h2 := H1.out.quiet k2
                  have b2 := B1.out.quiet k2
                  have k3 := below_alloc w2 (.cells #[.int .i64 mf, .int .i64 mt, .int .i64 mk, .slice A mz.length cA, .slice D md.length cD] 45)
                  have m3 := LoneBlk.new h2 45 #[.int .i64 mf, .int .i64 mt, .int .i64 mk, .slice A mz.length cA, .slice D md.length cD]
                  have H3 := hide (h2.quiet k3)
                  have B3 := hide (b2.quiet k3)
                  have LN := hide (lN.quiet k3)
                  have LD := hide (lD.quiet k3)
                  have v1 : w2.cell? ⟨gs, 1, none⟩ = some (.int .i64 ii) := b2.blk.cell 1
                  have vl : gs < w2.heap.size := b2.blk.lt
                  clear h2 b2 k2 k3 lN lD hA fr
                  go_wp2_with fail
                  clear v1 vl
                  obtain ⟨gm, hgm⟩ : ∃ gm, gm = w2.heap.size := ⟨_, rfl⟩
                  obtain ⟨w3, hw3⟩ : ∃ w3, w3 = w2.alloc (.cells #[.int .i64 mf, .int .i64 mt, .int .i64 mk, .slice A mz.length cA, .slice D md.length cD] 45) := ⟨_, rfl⟩
                  rw [← hw3, ← hgm] at m3
                  rw [← hw3] at H3 B3 LN LD
                  rw [← hw3, ← hgm]
                  have M3 := hide m3
                  clear hw3 hgm m3
                  have hA := rat5_any G p L ii w3 H3.out.r
                  rw [HME.out, ← HBI.out] at hA
                  refine hA.mono ?_
                  rintro e2 w4 ⟨r, rfl, fr, k4⟩
                  obtain ⟨A', cA', D', cD', rfl, o1, o2, -, -⟩ := fr
                  simp only at o1 o2
                  have h4 := H3.out.quiet k4
                  have b4 := B3.out.quiet k4
                  have m4 := M3.out.quiet k4
                  have k5 := below_alloc w4 (.cells #[.int .i64 mf, .int .i64 mt, .int .i64 mk, .slice A' mz.length cA', .slice D' md.length cD'] 45)
                  have H5 := hide (h4.quiet k5)
                  have M5 := hide (m4.quiet k5)
                  have LN5 := hide ((LN.out.quiet k4).quiet k5)
                  have LD5 := hide ((LD.out.quiet k4).quiet k5)
                  have O1 := hide (IsI.keep (OwnN.isI o1) k5)
                  have O2 := hide (IsB.keep (Own.isB o2) k5)
                  have z0 : w4.cell? ⟨gm, 0, none⟩ = some (.int .i64 mf) := m4.blk.cell 0
                  have z1 : w4.cell? ⟨gm, 1, none⟩ = some (.int .i64 mt) := m4.blk.cell 1
                  have z2 : w4.cell? ⟨gm, 2, none⟩ = some (.int .i64 mk) := m4.blk.cell 2
                  have z3 : w4.cell? ⟨gm, 3, none⟩ = some (.slice A mz.length cA) := m4.blk.cell 3
                  have z4 : w4.cell? ⟨gm, 4, none⟩ = some (.slice D md.length cD) := m4.blk.cell 4
                  have zl : gm < w4.heap.size := m4.blk.lt
                  have v0 : w4.cell? ⟨gs, 0, none⟩ = some (.int .i64 2) := b4.blk.cell 0
                  have v1 : w4.cell? ⟨gs, 1, none⟩ = some (.int .i64 ii) := b4.blk.cell 1
                  have vl : gs < w4.heap.size := b4.blk.lt
                  have ebi : (bi == bi) = true := by simp
                  clear h4 b4 m4 k4 k5 o1 o2 hA
                  go_wp2_with fail
                  clear z0 z1 z2 z3 z4 zl v0 v1 vl
                  obtain ⟨w5, hw5⟩ : ∃ w5, w5 = w4.alloc (.cells #[.int .i64 mf, .int .i64 mt, .int .i64 mk, .slice A' mz.length cA', .slice D' md.length cD'] 45) := ⟨_, rfl⟩
                  rw [← hw5] at H5 M5 LN5 LD5 O1 O2
                  rw [← hw5]
                  clear hw5
                  refine (messages_same mf mt mk A A' D D' mz.length cA cA' md.length cD cD' mz md w5 (OwnN.isI LN5.out.own) O1.out (Own.isB LD5.out.own) O2.out rfl (by have := hbd.2; omega)).mono ?_
                  rintro e2 w6 ⟨rfl, k6⟩
                  have H6 := hide (H5.out.quiet k6)
                  have M6 := hide (M5.out.quiet k6)
                  have LD6 := hide (LD5.out.quiet k6)
                  have c4m : w6.cell? ⟨gm, 4, none⟩ = some (.slice D md.length cD) := M6.out.blk.cell 4
                  clear k6
                  go_wp2_with fail
                  clear c4m
                  refine (spoilT_any D md.length cD md w6 (ownsRow_more LD6.out.own (Nat.zero_le _)) rfl (by have := hbd.2; omega)).mono ?_
                  rintro e2 w7 ⟨rfl, t7⟩
                  have H7 := hide (H6.out.spoilt LD6.out t7)
                  clear t7
                  go_wp2_with fail
                  obtain ⟨vR, XR, eR, hSR⟩ := H7.out.r
                  obtain ⟨AR, cR, rfl, -⟩ := hSR.row.form
                  have cpR : w7.cell? ⟨p, 0, none⟩ = some (.slice AR XR.length cR) := hSR.cells.cell 0
                  obtain ⟨nR, hnR⟩ : ∃ nR, nR = XR.length := ⟨_, rfl⟩
                  rw [← hnR] at cpR
                  have hll : L.length = nR := by rw [eR, List.length_map, hnR]
                  have HLL := hide hll
                  have eqn : ((nR : Int) != (nR : Int)) = false := by simp
                  clear hSR eR hnR hll
                  go_quiet ((go_at_call 32; refine Calls.quiet_of (v := .int .i64 (nR : Int)) ?_; refine (len5_at _ g _ _ (H7.out.n.below (below_drewN (Below.refl _ _) _))).mono ?_; rintro e w' ⟨rfl, rfl⟩; exact ⟨by rw [HLL.out], 0, rfl⟩))
                  go_wp2_with fail
                  exact ⟨⟨m + 1, _, _, _, by omega, by omega, by go_num, H7.out.quiet (below_drewN (Below.refl _ _) _)⟩, by simp [intOf]; omega⟩
                · have nk2 : (kd == 2) = false := by simp [hk2]
                  by_cases hk3 : kd = 3
                  · subst hk3
                    clear nk1 hk1 nk2 hk2
                    have H1 := hide (hTwo.out.quiet (below_alloc wr (.cells #[.int .i64 3, .int .i64 ii, .int .i64 f, .int .i64 t, .int .i64 k, .slice a3 zs.length c3, .slice a4 d.length c4] 47)))
                    have B1 := hide (LoneBlk.new hTwo.out 47 #[.int .i64 3, .int .i64 ii, .int .i64 f, .int .i64 t, .int .i64 k, .slice a3 zs.length c3, .slice a4 d.length c4])
                    go_wp2_with fail
                    clear x0 x1 x2 x3 x4 x5 x6
                    obtain ⟨gs, hgs⟩ : ∃ gs, gs = wr.heap.size := ⟨_, rfl⟩
                    obtain ⟨w1, hw1⟩ : ∃ w1, w1 = wr.alloc (.cells #[.int .i64 3, .int .i64 ii, .int .i64 f, .int .i64 t, .int .i64 k, .slice a3 zs.length c3, .slice a4 d.length c4] 47) := ⟨_, rfl⟩
                    rw [← hw1, ← hgs] at B1
                    rw [← hw1] at H1
                    rw [← hw1, ← hgs]
                    clear hw1 hgs
                    have hbd := getM_bound H1.out.n ii
                    have hA := at5_any F g L ii w1 H1.out.n
                    obtain ⟨mf, mt, mk, mz, md, hme⟩ : ∃ mf mt mk mz md, getM ii L = (mf, mt, mk, mz, md) := ⟨_, _, _, _, _, rfl⟩
                    obtain ⟨bi, hbi⟩ : ∃ bi, bi = decide (0 ≤ ii ∧ ii < (L.length : Int)) := ⟨_, rfl⟩
                    rw [hme, ← hbi] at hA
                    rw [hme] at hbd
                    have HME := hide hme
                    have HBI := hide hbi
                    clear hme hbi
                    refine hA.mono ?_
                    rintro e2 w2 ⟨r, rfl, fr, k2⟩
                    obtain ⟨A, cA, D, cD, rfl, lN, lD⟩ := FreshO.lone (w := w) fr H1.out.r.low H1.out.k.size
                    simp only at lN lD
                    have h2 := H1.out.quiet k2
                    have b2 := B1.out.quiet k2
                    have k3 := below_alloc w2 (.cells #[.int .i64 mf, .int .i64 mt, .int .i64 mk, .slice A mz.length cA, .slice D md.length cD] 45)
                    have m3 := LoneBlk.new h2 45 #[.int .i64 mf, .int .i64 mt, .int .i64 mk, .slice A mz.length cA, .slice D md.length cD]
                    have H3 := hide (h2.quiet k3)
                    have B3 := hide (b2.quiet k3)
                    have LN := hide (lN.quiet k3)
                    have LD := hide (lD.quiet k3)
                    have v1 : w2.cell? ⟨gs, 1, none⟩ = some (.int .i64 ii) := b2.blk.cell 1
                    have vl : gs < w2.heap.size := b2.blk.lt
                    clear h2 b2 k2 k3 lN lD hA fr
                    go_wp2_with fail
                    clear v1 vl
                    obtain ⟨gm, hgm⟩ : ∃ gm, gm = w2.heap.size := ⟨_, rfl⟩
                    obtain ⟨w3, hw3⟩ : ∃ w3, w3 = w2.alloc (.cells #[.int .i64 mf, .int .i64 mt, .int .i64 mk, .slice A mz.length cA, .slice D md.length cD] 45) := ⟨_, rfl⟩
                    rw [← hw3, ← hgm] at m3
                    rw [← hw3] at H3 B3 LN LD
                    rw [← hw3, ← hgm]
                    have M3 := hide m3
                    clear hw3 hgm m3
                    have hA := rat5_any G p L ii w3 H3.out.r
                    rw [HME.out, ← HBI.out] at hA
                    refine hA.mono ?_
                    rintro e2 w4 ⟨r, rfl, fr, k4⟩
                    obtain ⟨A', cA', D', cD', rfl, o1, o2, -, -⟩ := fr
                    simp only at o1 o2
                    have h4 := H3.out.quiet k4
                    have b4 := B3.out.quiet k4
                    have m4 := M3.out.quiet k4
                    have k5 := below_alloc w4 (.cells #[.int .i64 mf, .int .i64 mt, .int .i64 mk, .slice A' mz.length cA', .slice D' md.length cD'] 45)
                    have H5 := hide (h4.quiet k5)
                    have M5 := hide (m4.quiet k5)
                    have LN5 := hide ((LN.out.quiet k4).quiet k5)
                    have LD5 := hide ((LD.out.quiet k4).quiet k5)
                    have O1 := hide (IsI.keep (OwnN.isI o1) k5)
                    have O2 := hide (IsB.keep (Own.isB o2) k5)
                    have z0 : w4.cell? ⟨gm, 0, none⟩ = some (.int .i64 mf) := m4.blk.cell 0
                    have z1 : w4.cell? ⟨gm, 1, none⟩ = some (.int .i64 mt) := m4.blk.cell 1
                    have z2 : w4.cell? ⟨gm, 2, none⟩ = some (.int .i64 mk) := m4.blk.cell 2
                    have z3 : w4.cell? ⟨gm, 3, none⟩ = some (.slice A mz.length cA) := m4.blk.cell 3
                    have z4 : w4.cell? ⟨gm, 4, none⟩ = some (.slice D md.length cD) := m4.blk.cell 4
                    have zl : gm < w4.heap.size := m4.blk.lt
                    have v0 : w4.cell? ⟨gs, 0, none⟩ = some (.int .i64 3) := b4.blk.cell 0
                    have v1 : w4.cell? ⟨gs, 1, none⟩ = some (.int .i64 ii) := b4.blk.cell 1
                    have vl : gs < w4.heap.size := b4.blk.lt
                    have ebi : (bi == bi) = true := by simp
                    have mb := LoneBlk.new h4 45 #[.int .i64 mf, .int .i64 mt, .int .i64 mk, .slice A' mz.length cA', .slice D' md.length cD']
                    have B5 := hide (b4.quiet k5)
                    have MB5 := hide mb
                    clear h4 b4 m4 k4 k5 o1 o2 hA LN5 LD5 O1 O2 LN LD mb
                    go_wp2_with fail
                    clear z0 z1 z2 z3 z4 v0 v1 vl
                    obtain ⟨gb, hgb⟩ : ∃ gb, gb = w4.heap.size := ⟨_, rfl⟩
                    obtain ⟨w5, hw5⟩ : ∃ w5, w5 = w4.alloc (.cells #[.int .i64 mf, .int .i64 mt, .int .i64 mk, .slice A' mz.length cA', .slice D' md.length cD'] 45) := ⟨_, rfl⟩
                    rw [← hgb] at zl
                    rw [← hw5, ← hgb] at MB5
                    rw [← hw5] at H5 M5 B5
                    rw [← hw5, ← hgb]
                    have hmb : ¬ gm = gb := by omega
                    have hbm : ¬ gb = gm := by omega
                    clear hw5 hgb zl
                    have hA := take5_any F g L ii w5 H5.out.n
                    rw [HME.out, ← HBI.out] at hA
                    refine hA.mono ?_
                    rintro e2 w6 ⟨r, rfl, F', fr, n6, x6⟩
                    have h6 := H5.out.left n6 x6
                    obtain ⟨A6, c6, D6, d6, rfl, lN, lD⟩ := FreshO.lone (w := w) fr H5.out.r.low H5.out.k.size
                    simp only at lN lD
                    have m6 := M5.out.left x6
                    have mb6 := MB5.out.left x6
                    have b6 := B5.out.left x6
                    have z0 : w6.cell? ⟨gm, 0, none⟩ = some (.int .i64 mf) := m6.blk.cell 0
                    have z1 : w6.cell? ⟨gm, 1, none⟩ = some (.int .i64 mt) := m6.blk.cell 1
                    have z2 : w6.cell? ⟨gm, 2, none⟩ = some (.int .i64 mk) := m6.blk.cell 2
                    have z3 : w6.cell? ⟨gm, 3, none⟩ = some (.slice A mz.length cA) := m6.blk.cell 3
                    have z4 : w6.cell? ⟨gm, 4, none⟩ = some (.slice D md.length cD) := m6.blk.cell 4
                    have f0 := m6.blk.frozen 0
                    have f1 := m6.blk.frozen 1
                    have f2 := m6.blk.frozen 2
                    have f3 := m6.blk.frozen 3
                    have f4 := m6.blk.frozen 4
                    have v1 : w6.cell? ⟨gs, 1, none⟩ = some (.int .i64 ii) := b6.blk.cell 1
                    have hsm : ¬ gs = gm := b6.blk.ne m6.blk (by decide)
                    have hms : ¬ gm = gs := fun e => hsm e.symm
                    have gr7 := setMsg_grown w6 gm mf mt mk (.slice A6 mz.length c6) (.slice D6 md.length d6)
                    have m7 : LoneBlk w _ F' G 45 gm _ := ⟨setMsg_blk m6.blk rfl mf mt mk (.slice A6 mz.length c6) (.slice D6 md.length d6), m6.f, m6.g⟩
                    have h7 := h6.stored m6 gr7
                    have mb7 := mb6.other hmb gr7
                    have b7 := b6.other hms gr7
                    have lN7 := lN.stored m6 (by decide) gr7
                    have lD7 := lD.stored m6 (by decide) gr7
                    have H7 := hide h7
                    have M7 := hide m7
                    have MB7 := hide mb7
                    have B7 := hide b7
                    have LN7 := hide lN7
                    have LD7 := hide lD7
                    clear h6 m6 mb6 b6 gr7 m7 h7 mb7 b7 lN7 lD7 lN lD hA n6 x6 fr
                    go_wp2_with fail
                    obtain ⟨w7, hw7⟩ : ∃ w7, w7 = setMsg w6 gm mf mt mk (.slice A6 mz.length c6) (.slice D6 md.length d6) := ⟨_, rfl⟩
                    rw [← hw7] at H7 M7 MB7 B7 LN7 LD7
                    unfold setMsg at hw7
                    rw [← hw7]
                    clear hw7 z0 z1 z2 z3 z4 f0 f1 f2 f3 f4 v1
                    have hA := rtake5_any G p L ii w7 H7.out.r
                    rw [HME.out, ← HBI.out] at hA
                    refine hA.mono ?_
                    rintro e2 w8 ⟨r, rfl, G', fr, n8, x8⟩
                    have h8 := H7.out.right n8 x8
                    obtain ⟨A8, c8, D8, d8, rfl, o1, o2, -, -⟩ := fr
                    simp only at o1 o2
                    have m8 := M7.out.right x8
                    have mb8 := MB7.out.right x8
                    have b8 := B7.out.right x8
                    have lN8 := LN7.out.right x8
                    have lD8 := LD7.out.right x8
                    have z0 : w8.cell? ⟨gb, 0, none⟩ = some (.int .i64 mf) := mb8.blk.cell 0
                    have z1 : w8.cell? ⟨gb, 1, none⟩ = some (.int .i64 mt) := mb8.blk.cell 1
                    have z2 : w8.cell? ⟨gb, 2, none⟩ = some (.int .i64 mk) := mb8.blk.cell 2
                    have z3 : w8.cell? ⟨gb, 3, none⟩ = some (.slice A' mz.length cA') := mb8.blk.cell 3
                    have z4 : w8.cell? ⟨gb, 4, none⟩ = some (.slice D' md.length cD') := mb8.blk.cell 4
                    have f0 := mb8.blk.frozen 0
                    have f1 := mb8.blk.frozen 1
                    have f2 := mb8.blk.frozen 2
                    have f3 := mb8.blk.frozen 3
                    have f4 := mb8.blk.frozen 4
                    have u0 : w8.cell? ⟨gm, 0, none⟩ = some (.int .i64 mf) := m8.blk.cell 0
                    have u1 : w8.cell? ⟨gm, 1, none⟩ = some (.int .i64 mt) := m8.blk.cell 1
                    have u2 : w8.cell? ⟨gm, 2, none⟩ = some (.int .i64 mk) := m8.blk.cell 2
                    have u3 : w8.cell? ⟨gm, 3, none⟩ = some (.slice A6 mz.length c6) := m8.blk.cell 3
                    have u4 : w8.cell? ⟨gm, 4, none⟩ = some (.slice D6 md.length d6) := m8.blk.cell 4
                    have gr9 := setMsg_grown w8 gb mf mt mk (.slice A8 mz.length c8) (.slice D8 md.length d8)
                    have h9 := h8.stored mb8 gr9
                    have m9 := m8.other hbm gr9
                    have lN9 := lN8.stored mb8 (by decide) gr9
                    have lD9 := lD8.stored mb8 (by decide) gr9
                    have o19 := IsI.keep' (World.ownsRow.kept o1 gr9 (.inr (ownsRow_blk o1 mb8.blk (by decide))))
                    have o29 := IsB.keep' (World.ownsRow.kept o2 gr9 (.inr (ownsRow_blk o2 mb8.blk (by decide))))
                    have H9 := hide h9
                    have M9 := hide m9
                    have LN9 := hide lN9
                    have LD9 := hide lD9
                    have O1 := hide o19
                    have O2 := hide o29
                    clear h8 m8 mb8 b8 lN8 lD8 gr9 h9 m9 lN9 lD9 o19 o29 o1 o2 n8 x8 hA
                    go_wp2_with fail
                    clear u0 u1 u2 u3 u4 z0 z1 z2 z3 z4 f0 f1 f2 f3 f4
                    obtain ⟨w9, hw9⟩ : ∃ w9, w9 = setMsg w8 gb mf mt mk (.slice A8 mz.length c8) (.slice D8 md.length d8) := ⟨_, rfl⟩
                    rw [← hw9] at H9 M9 LN9 LD9 O1 O2
                    unfold setMsg at hw9
                    rw [← hw9]
                    clear hw9
                    refine (messages_same mf mt mk A6 A8 D6 D8 mz.length c6 c8 md.length d6 d8 mz md w9 (OwnN.isI LN9.out.own) O1.out (Own.isB LD9.out.own) O2.out rfl (by have := hbd.2; omega)).mono ?_
                    rintro e2 w10 ⟨rfl, k10⟩
                    have H10 := hide (H9.out.quiet k10)
                    have M10 := hide (M9.out.quiet k10)
                    have LD10 := hide (LD9.out.quiet k10)
                    have c4m : w10.cell? ⟨gm, 4, none⟩ = some (.slice D6 md.length d6) := M10.out.blk.cell 4
                    clear k10
                    go_wp2_with fail
                    clear c4m
                    refine (spoilT_any D6 md.length d6 md w10 (ownsRow_more LD10.out.own (Nat.zero_le _)) rfl (by have := hbd.2; omega)).mono ?_
                    rintro e2 w11 ⟨rfl, t11⟩
                    have H11 := hide (H10.out.spoilt LD10.out t11)
                    clear t11
                    go_wp2_with fail
                    obtain ⟨vR, XR, eR, hSR⟩ := H11.out.r
                    obtain ⟨AR, cR, rfl, -⟩ := hSR.row.form
                    have cpR : w11.cell? ⟨p, 0, none⟩ = some (.slice AR XR.length cR) := hSR.cells.cell 0
                    obtain ⟨nR, hnR⟩ : ∃ nR, nR = XR.length := ⟨_, rfl⟩
                    rw [← hnR] at cpR
                    have hll : (cutM ii L).length = nR := by rw [eR, List.length_map, hnR]
                    have HLL := hide hll
                    have eqn : ((nR : Int) != (nR : Int)) = false := by simp
                    clear hSR eR hnR hll
                    go_quiet ((go_at_call 32; refine Calls.quiet_of (v := .int .i64 (nR : Int)) ?_; refine (len5_at _ g _ _ (H11.out.n.below (below_drewN (Below.refl _ _) _))).mono ?_; rintro e w' ⟨rfl, rfl⟩; exact ⟨by rw [HLL.out], 0, rfl⟩))
                    go_wp2_with fail
                    exact ⟨⟨m + 1, _, _, _, by omega, by omega, by go_num, H11.out.quiet (below_drewN (Below.refl _ _) _)⟩, by simp [intOf]; omega⟩
                  · have nk3 : (kd == 3) = false := by simp [hk3]
                    by_cases hk4 : kd = 4
                    · subst hk4
                      clear nk1 hk1 nk2 hk2 nk3 hk3
                      have H1 := hide (hTwo.out.quiet (below_alloc wr (.cells #[.int .i64 4, .int .i64 ii, .int .i64 f, .int .i64 t, .int .i64 k, .slice a3 zs.length c3, .slice a4 d.length c4] 47)))
                      have B1 := hide (LoneBlk.new hTwo.out 47 #[.int .i64 4, .int .i64 ii, .int .i64 f, .int .i64 t, .int .i64 k, .slice a3 zs.length c3, .slice a4 d.length c4])
                      go_wp2_with fail
                      clear x0 x1 x2 x3 x4 x5 x6
                      obtain ⟨gs, hgs⟩ : ∃ gs, gs = wr.heap.size := ⟨_, rfl⟩
                      obtain ⟨w1, hw1⟩ : ∃ w1, w1 = wr.alloc (.cells #[.int .i64 4, .int .i64 ii, .int .i64 f, .int .i64 t, .int .i64 k, .slice a3 zs.length c3, .slice a4 d.length c4] 47) := ⟨_, rfl⟩
                      rw [← hw1, ← hgs] at B1
                      rw [← hw1] at H1
                      rw [← hw1, ← hgs]
                      clear hw1 hgs
                      have v1 : w1.cell? ⟨gs, 1, none⟩ = some (.int .i64 ii) := B1.out.blk.cell 1
                      go_region_law (first
                        | (go_simp; go_at_call 28; refine (twice_any F g L ii _ (by exact (H1.out.quiet (Below.one w1)).n)).mono ?_; rintro e w4 ⟨rfl, F', n4, x4⟩; have H4 := hide ((H1.out.quiet (Below.one w1)).left n4 x4); have B4 := hide ((B1.out.quiet (Below.one w1)).left x4); clear n4 x4; have u1 : w4.cell? ⟨gs, 1, none⟩ = some (.int .i64 ii) := (by exact B4.out.blk.cell 1))
                        | (go_simp; go_at_call 29; refine (rtwice_any G p L ii _ (by exact H4.out.r)).mono ?_; rintro e w5 ⟨rfl, G', n5, x5⟩; have H5 := hide (H4.out.right n5 x5); clear n5 x5))
                      all_goals
                        clear v1 u1
                        go_wp2_with fail
                        obtain ⟨vR, XR, eR, hSR⟩ := H5.out.r
                        obtain ⟨AR, cR, rfl, -⟩ := hSR.row.form
                        have cpR : w5.cell? ⟨p, 0, none⟩ = some (.slice AR XR.length cR) := hSR.cells.cell 0
                        obtain ⟨nR, hnR⟩ : ∃ nR, nR = XR.length := ⟨_, rfl⟩
                        rw [← hnR] at cpR
                        have hll : ((twiceL ii L).1).length = nR := by rw [eR, List.length_map, hnR]
                        have HLL := hide hll
                        have eqn : ((nR : Int) != (nR : Int)) = false := by simp
                        clear hSR eR hnR hll
                        go_quiet ((go_at_call 32; refine Calls.quiet_of (v := .int .i64 (nR : Int)) ?_; refine (len5_at _ g _ _ (H5.out.n.below (below_drewN (Below.refl _ _) _))).mono ?_; rintro e w' ⟨rfl, rfl⟩; exact ⟨by rw [HLL.out], 0, rfl⟩))
                        go_wp2_with fail
                        exact ⟨⟨m + 1, _, _, _, by omega, by omega, by go_num, H5.out.quiet (below_drewN (Below.refl _ _) _)⟩, by simp [intOf]; omega⟩
                    · have nk4 : (kd == 4) = false := by simp [hk4]
                      clear hk1 hk2 hk3 hk4
                      have H1 := hide (hTwo.out.quiet (below_alloc wr (.cells #[.int .i64 kd, .int .i64 ii, .int .i64 f, .int .i64 t, .int .i64 k, .slice a3 zs.length c3, .slice a4 d.length c4] 47)))
                      have B1 := hide (LoneBlk.new hTwo.out 47 #[.int .i64 kd, .int .i64 ii, .int .i64 f, .int .i64 t, .int .i64 k, .slice a3 zs.length c3, .slice a4 d.length c4])
                      go_wp2_with fail
                      clear x0 x1 x2 x3 x4 x5 x6
                      obtain ⟨gs, hgs⟩ : ∃ gs, gs = wr.heap.size := ⟨_, rfl⟩
                      obtain ⟨w1, hw1⟩ : ∃ w1, w1 = wr.alloc (.cells #[.int .i64 kd, .int .i64 ii, .int .i64 f, .int .i64 t, .int .i64 k, .slice a3 zs.length c3, .slice a4 d.length c4] 47) := ⟨_, rfl⟩
                      rw [← hw1, ← hgs] at B1
                      rw [← hw1] at H1
                      rw [← hw1, ← hgs]
                      clear hw1 hgs
                      have v1 : w1.cell? ⟨gs, 1, none⟩ = some (.int .i64 ii) := B1.out.blk.cell 1
                      go_region_law (first
                        | (go_simp; go_at_call 30; refine (drop_any F g L ii _ (by exact (H1.out.quiet (Below.one w1)).n)).mono ?_; rintro e w4 ⟨rfl, F', n4, x4⟩; have H4 := hide ((H1.out.quiet (Below.one w1)).left n4 x4); have B4 := hide ((B1.out.quiet (Below.one w1)).left x4); clear n4 x4; have u1 : w4.cell? ⟨gs, 1, none⟩ = some (.int .i64 ii) := (by exact B4.out.blk.cell 1))
                        | (go_simp; go_at_call 31; refine (rdrop_any G p L ii _ (by exact H4.out.r)).mono ?_; rintro e w5 ⟨rfl, G', n5, x5⟩; have H5 := hide (H4.out.right n5 x5); clear n5 x5))
                      all_goals
                        clear v1 u1
                        go_wp2_with fail
                        obtain ⟨vR, XR, eR, hSR⟩ := H5.out.r
                        obtain ⟨AR, cR, rfl, -⟩ := hSR.row.form
                        have cpR : w5.cell? ⟨p, 0, none⟩ = some (.slice AR XR.length cR) := hSR.cells.cell 0
                        obtain ⟨nR, hnR⟩ : ∃ nR, nR = XR.length := ⟨_, rfl⟩
                        rw [← hnR] at cpR
                        have hll : (dropL ii L).length = nR := by rw [eR, List.length_map, hnR]
                        have HLL := hide hll
                        have eqn : ((nR : Int) != (nR : Int)) = false := by simp
                        clear hSR eR hnR hll
                        go_quiet ((go_at_call 32; refine Calls.quiet_of (v := .int .i64 (nR : Int)) ?_; refine (len5_at _ g _ _ (H5.out.n.below (below_drewN (Below.refl _ _) _))).mono ?_; rintro e w' ⟨rfl, rfl⟩; exact ⟨by rw [HLL.out], 0, rfl⟩))
                        go_wp2_with fail
                        exact ⟨⟨m + 1, _, _, _, by omega, by omega, by go_num, H5.out.quiet (below_drewN (Below.refl _ _) _)⟩, by simp [intOf]; omega⟩
            · have h2z : ¬ ((m : Int) < 200) := by omega
              go_wp2_with fail
              go_meet
              case rel => exact ⟨L, F, G, hTwo.out⟩
          · have hltz : ¬ ((m : Int) < (T : Int)) := by omega
            go_wp2_with fail
            go_meet
            case rel => exact ⟨L, F, G, hTwo.out⟩
      case rest =>
        obtain ⟨L, F, G, hTwo⟩ := hcut.out
        have hTwo := hide hTwo
        go_wp2_with fail
        go_loopw [16] (fun i wr => ∃ q : Nat, q ≤ L.length ∧ i = .int .i64 (q : Int) ∧ Hid (Two w wr g p L L F G)) (fun i _ => L.length - (intOf i).toNat)
        case atStart => exact ⟨0, Nat.zero_le _, rfl, hTwo.out⟩
        case round =>
          obtain ⟨q, hq, rfl, hT⟩ := hrel
          obtain ⟨vR, XR, eR, hSR⟩ := hT.out.r
          obtain ⟨AR, cR, rfl, hlcR, -, -, hclR⟩ := hSR.row.form
          have cpR : wr.cell? ⟨p, 0, none⟩ = some (.slice AR XR.length cR) := hSR.cells.cell 0
          have cpl : p < wr.heap.size := cell_lt cpR
          obtain ⟨nR, hnR⟩ : ∃ nR, nR = XR.length := ⟨_, rfl⟩
          rw [← hnR] at cpR
          have hll : L.length = nR := by rw [eR, List.length_map, hnR]
          have hmR : nR ≤ 4096 := by rw [hnR]; exact hSR.most
          by_cases hqn : q < nR
          · have hqi : (q : Int) < (nR : Int) := by omega
            have hq0 : 0 ≤ (q : Int) := by omega
            have hqX : q < XR.length := by omega
            obtain ⟨b, rfl, -, hbl, y0, y1, y2, y3, y4, -⟩ := hclR q hqX
            have gd := hSR.each XR[q] (List.getElem_mem hqX)
            obtain ⟨A, c, D, cp, hq5, -⟩ := five_form gd
            have hgm : getM (q : Int) L = XR[q].says := by rw [eR]; exact getM_in hqX
            obtain ⟨f, t, k, U, V, zs, d, hx⟩ : ∃ f t k U V zs d, XR[q] = ⟨f, t, k, U, V, zs, d⟩ := ⟨_, _, _, _, _, _, _, rfl⟩
            rw [hx] at y0 y1 y2 y3 y4 hq5 gd hgm
            simp only [Itm.mk.injEq, true_and, and_true] at hq5
            obtain ⟨rfl, rfl⟩ := hq5
            have hA := at5_any F g L (q : Int) wr hT.out.n
            rw [hgm, decide_eq_true (show 0 ≤ (q : Int) ∧ (q : Int) < (L.length : Int) from ⟨by omega, by omega⟩)] at hA
            have HA := hide hA
            have GD := hide gd
            have HLL := hide hll
            clear hA gd hx hgm hclR hSR eR hnR hll
            go_wp2_with fail
            refine HA.out.mono ?_
            rintro e2 w2 ⟨r, rfl, fr, k2⟩
            obtain ⟨A2, c2, D2, cp2, rfl, o1, o2, -, -⟩ := fr
            simp only [Itm.says] at o1 o2
            have k3 := below_alloc w2 (.cells #[.int .i64 f, .int .i64 t, .int .i64 k, .slice A2 zs.length c2, .slice D2 d.length cp2] 45)
            have k23 := k2.trans (k3.mono k2.size)
            have H3 := hide (hT.out.quiet k23)
            have O1 := hide (IsI.keep (OwnN.isI o1) k3)
            have O2 := hide (IsB.keep (Own.isB o2) k3)
            have G1 := hide (IsI.keep (OwnN.isI GD.out.ou) k23)
            have G2 := hide (IsB.keep (Own.isB GD.out.ov) k23)
            have z0 := (k23.cell (p := ⟨b, q * 5, none⟩) hbl).trans y0
            have z1 := (k23.cell (p := ⟨b, q * 5 + 1, none⟩) hbl).trans y1
            have z2 := (k23.cell (p := ⟨b, q * 5 + 2, none⟩) hbl).trans y2
            have z3 := (k23.cell (p := ⟨b, q * 5 + 3, none⟩) hbl).trans y3
            have z4 := (k23.cell (p := ⟨b, q * 5 + 4, none⟩) hbl).trans y4
            have zp := (k23.cell (p := ⟨p, 0, none⟩) cpl).trans cpR
            have bm := Blk.new (B := 0) w2 45 #[.int .i64 f, .int .i64 t, .int .i64 k, .slice A2 zs.length c2, .slice D2 d.length cp2] (Nat.zero_le _)
            have hdl := GD.out.lv
            clear y0 y1 y2 y3 y4 cpR o1 o2 k3 k2 k23 HA
            go_wp2_with fail
            simp only [Itm.says]
            obtain ⟨gm, hgm⟩ : ∃ gm, gm = w2.heap.size := ⟨_, rfl⟩
            obtain ⟨w3, hw3⟩ : ∃ w3, w3 = w2.alloc (.cells #[.int .i64 f, .int .i64 t, .int .i64 k, .slice A2 zs.length c2, .slice D2 d.length cp2] 45) := ⟨_, rfl⟩
            rw [← hw3] at H3 O1 O2 G1 G2 z0 z1 z2 z3 z4 zp
            rw [← hw3, ← hgm] at bm
            rw [← hw3, ← hgm]
            clear hw3 hgm
            have u0 : w3.cell? ⟨gm, 0, none⟩ = some (.int .i64 f) := bm.cell 0
            have u1 : w3.cell? ⟨gm, 1, none⟩ = some (.int .i64 t) := bm.cell 1
            have u2 : w3.cell? ⟨gm, 2, none⟩ = some (.int .i64 k) := bm.cell 2
            have u3 : w3.cell? ⟨gm, 3, none⟩ = some (.slice A2 zs.length c2) := bm.cell 3
            have u4 : w3.cell? ⟨gm, 4, none⟩ = some (.slice D2 d.length cp2) := bm.cell 4
            clear bm
            go_region_law (first
              | (go_simp; go_at_call 27; refine (messages_same f t k A2 A D2 D zs.length c2 c d.length cp2 cp zs d _ (by exact O1.out.keep (Below.one w3)) (by exact G1.out.keep (Below.one w3)) (by exact O2.out.keep (Below.one w3)) (by exact G2.out.keep (Below.one w3)) rfl (by omega)).mono ?_; rintro e w4 ⟨rfl, k4⟩; have H4 := hide ((H3.out.quiet (Below.one w3)).quiet k4); clear k4))
            all_goals
              clear u0 u1 u2 u3 u4 z0 z1 z2 z3 z4 zp
              go_wp2_with fail
              exact ⟨⟨q + 1, by have := HLL.out; omega, by go_num, H4.out⟩, by have := HLL.out; simp [intOf]; omega⟩
          · have hqi : ¬ ((q : Int) < (nR : Int)) := by omega
            have KK := hide hT.out.k
            clear hlcR hclR hSR eR hnR hll
            go_wp2_with fail
            refine (known_any _).mono ?_
            rintro e2 w7 ⟨rfl, k7⟩
            have K7 := KK.out.trans (k7.mono KK.out.size)
            go_wp2_with fail
            go_ret
            exact ⟨rfl, K7⟩
    · have h6z : (6000 : Int) < (s : Int) := by omega
      go_wp2_with fail
      refine (known_any _).mono ?_
      rintro e2 w7 ⟨rfl, k7⟩
      go_wp2_with fail
      go_ret
      exact ⟨rfl, k7.os, k7.tape, k7.output, k7.size, k7.block⟩
end Go.Proofs.Ytdhamhaadclhkaa
