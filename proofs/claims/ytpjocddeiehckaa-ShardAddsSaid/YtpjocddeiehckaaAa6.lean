/- The walk of the law ShardAdds, once the project's calls answer as ShardC asks. Condition: the form's reach. -/
import Derived.Test.YtpjocddeiehckaaAa5
import Derived.Test.YtpjocddeiehckaaAa4
import Derived.Deep.RegionLaw
namespace Go.Proofs.Ytpjocddeiehckaa
open Go.RowKit
set_option maxHeartbeats 12800000 in
set_option maxRecDepth 100000 in
theorem shardAdds_by (hS : SumsC) (A A' : Option Addr) (n c n' c' : Nat) (m : Int) (D D' : ML) (w : World) (hA : IsM w A D) (hn : D.length = n) (h47 : n ≤ 140737488351232) (bD : ∀ r ∈ D, ∀ x ∈ r, x < 256) (rD : ∀ r ∈ D, r.length ≤ 140737488351232)
    (hA' : IsM w A' D') (hn' : D'.length = n') (h47' : n' ≤ 140737488351232) (bD' : ∀ r ∈ D', ∀ x ∈ r, x < 256) (rD' : ∀ r ∈ D', r.length ≤ 140737488351232) (m1 : I64 m) :
    Calls Try.prog 4 #[.slice A n c, .slice A' n' c', .int .i64 m] w fun e w' => e = .returned (.bool true) ∧ Below w.heap.size w w' := by
  have G1 := hide (great_sized A n c D w hA hn (by omega) rD)
  have G2 := hide (great_sized A' n' c' D' w hA' hn' (by omega) rD')
  have HK := hide (fun w' => known8_any hS w')
  have MS := hide (fun (A : Option Addr) (n c : Nat) (W : ML) (w : World) (h : SmallM w A n W) => hS A n c m W w h m1)
  have SM := hide (show n ≤ 1500 ∧ (∀ r ∈ D, r.length ≤ 1500) → SmallM w A n D from fun q => ⟨hA, hn, q.1, bD, q.2⟩)
  have SM' := hide (show n' ≤ 1500 ∧ (∀ r ∈ D', r.length ≤ 1500) → SmallM w A' n' D' from fun q => ⟨hA', hn', q.1, bD', q.2⟩)
  clear hS hA hn bD rD m1 hA' hn' bD' rD'
  go_enter Try.func4, Try.ntmps4
  go_wp2_with fail
  refine G1.out.mono ?_
  rintro e w1 ⟨t, rfl, ht, rfl⟩
  cases t
  · have hSm := hide (SM.out (ht rfl))
    clear ht SM G1
    go_wp2_with fail
    refine G2.out.mono ?_
    rintro e w2 ⟨t, rfl, ht, rfl⟩
    cases t
    · have hSm' := hide (SM'.out (ht rfl))
      clear ht SM' G2
      have hn15 := hSm.out.2.2.1
      by_cases hnn : n = n'
      · subst hnn
        have hne : ((n : Int) != (n : Int)) = false := by simp
        obtain ⟨B, hB⟩ : ∃ B, B = w2.heap.size := ⟨_, rfl⟩
        have HB := hide hB
        clear hB
        obtain ⟨T, hT⟩ : ∃ T, T = addM D D' := ⟨_, rfl⟩
        have HT := hide hT
        have HTL := hide (show T.length = n by rw [hT, addM_len]; exact hSm.out.2.1)
        clear hT
        go_wp2_with fail
        go_loopw [7, 8, 9, 10] (fun s i _ _ wr => ∃ y : Nat, y ≤ n ∧ i = .int .i64 (y : Int) ∧ Hid (OwnMt wr B s (T.take y)) ∧ Hid (∀ t, t < y → (D.getD t []).length = (D'.getD t []).length) ∧ Hid (Below B w2 wr)) (fun _ i _ _ _ => n - (intOf i).toNat)
        case atStart => exact ⟨0, Nat.zero_le _, rfl, hide (OwnMt.nil _ _), hide (fun t ht => absurd ht (Nat.not_lt_zero t)), hide (by rw [HB.out]; exact Below.refl _ _)⟩
        case round =>
          obtain ⟨y, hy, rfl, hown, hall, hbel⟩ := hrel
          have HBE : Hid (Below w2.heap.size w2 wr) := by unfold Hid; rw [← HB.out]; exact hbel.out
          by_cases hlt : y < n
          · obtain ⟨b3, o3, A3, c3, rfl, cx, ix, l3, m3⟩ := (hSm.out.1.below HBE.out).at_ y (by rw [hSm.out.2.1]; exact hlt)
            obtain ⟨b4, o4, A4, c4, rfl, cy, iy, l4, m4⟩ := (hSm'.out.1.below HBE.out).at_ y (by rw [hSm'.out.2.1]; exact hlt)
            obtain ⟨lx, hlx⟩ : ∃ lx, lx = (D.getD y []).length := ⟨_, rfl⟩
            obtain ⟨ly, hly⟩ : ∃ ly, ly = (D'.getD y []).length := ⟨_, rfl⟩
            have RX := hide ix.rd
            have RY := hide iy.rd
            rw [← hlx] at cx l3
            rw [← hly] at cy l4
            have HLX := hide hlx
            have HLY := hide hly
            have BX := hide (hSm.out.2.2.2.1 _ (mem_getD (k := y) (by rw [hSm.out.2.1]; exact hlt)))
            have BY := hide (hSm'.out.2.2.2.1 _ (mem_getD (k := y) (by rw [hSm'.out.2.1]; exact hlt)))
            have hl15 := hSm.out.2.2.2.2 _ (mem_getD (k := y) (by rw [hSm.out.2.1]; exact hlt))
            rw [← hlx] at hl15
            clear hlx hly ix iy
            by_cases hq : lx = ly
            · subst hq
              have hqq : ((lx : Int) != (lx : Int)) = false := by simp
              have HXL := hide HLX.out.symm
              have HYL := hide HLY.out.symm
              obtain ⟨R, hR⟩ : ∃ R, R = addR (D.getD y []) (D'.getD y []) := ⟨_, rfl⟩
              have HRL : Hid (R.length = lx ∧ ∀ k, k < lx → R.getD k 0 = (D.getD y []).getD k 0 ^^^ (D'.getD y []).getD k 0) := by
                unfold Hid
                rw [hR]
                exact ⟨by rw [addR_len]; exact HXL.out, fun k hk => addR_get _ k (by rw [HXL.out]; exact hk)⟩
              have HR := hide hR
              clear hR
              go_wp2_with fail
              go_quiet (fail)
              go_wp2_with fail
              generalize hW1 : wr.drewN _ = W1
              have KW : Below wr.heap.size wr W1 := by rw [← hW1]; exact below_drewN (Below.refl _ _) _
              have RX1 : Rd W1 A3 (D.getD y []) := by rw [← hW1]; exact RX.out.drewN _
              have RY1 : Rd W1 A4 (D'.getD y []) := by rw [← hW1]; exact RY.out.drewN _
              have OW1 := hide (hown.out.keep KW)
              have KB1 := hide (below_step HBE.out KW)
              have cx1 := (KW.cell (cell_lt cx)).trans cx
              have cy1 := (KW.cell (cell_lt cy)).trans cy
              have RX1 := hide RX1
              have RY1 := hide RY1
              have CX1 := hide cx1
              have CY1 := hide cy1
              clear KW cx cy cx1 cy1 hW1 hown hbel HBE RX RY
              go_loopw [9, 10] (fun x k w' => ∃ q : Nat, q ≤ lx ∧ k = .int .i64 (q : Int) ∧ Hid (Own w' W1.heap.size x (R.take q)) ∧ Hid (Below W1.heap.size W1 w')) (fun _ k _ => lx - (intOf k).toNat)
              case atStart => exact ⟨0, Nat.zero_le _, rfl, hide (World.ownsRow_nil _ _ _ _), hide (Below.refl _ _)⟩
              case round =>
                obtain ⟨q, hq, rfl, hox, hbx⟩ := hrel
                have cx := (hbx.out.cell (cell_lt CX1.out)).trans CX1.out
                have cy := (hbx.out.cell (cell_lt CY1.out)).trans CY1.out
                by_cases hltq : q < lx
                · obtain ⟨b5, o5, rfl, dx, hx8⟩ := at_place (RX1.out.below hbx.out) HXL.out BX.out q hltq
                  obtain ⟨b6, o6, rfl, dy, hy8⟩ := at_place (RY1.out.below hbx.out) HYL.out BY.out q hltq
                  have hst := take_snocN R q (by rw [HRL.out.1]; exact hltq)
                  rw [HRL.out.2 q hltq] at hst
                  obtain ⟨x, hxe⟩ : ∃ x, x = (D.getD y []).getD q 0 := ⟨_, rfl⟩
                  obtain ⟨yv, hye⟩ : ∃ yv, yv = (D'.getD y []).getD q 0 := ⟨_, rfl⟩
                  rw [← hxe] at dx hx8 hst
                  rw [← hye] at dy hy8 hst
                  have hxy := u8_xor_nat x yv hx8 hy8
                  obtain ⟨z, hz⟩ : ∃ z, z = x ^^^ yv := ⟨_, rfl⟩
                  rw [← hz] at hxy hst
                  have HST := hide hst
                  have ka := below_alloc wr (.cells #[.int .u8 (z : Int)] 5)
                  have hgs : Hid (W1.heap.size ≤ wr.heap.size) := hide hbx.out.size
                  have HSZ := hide (Nat.le_trans hgs.out ka.size)
                  have HOK := hide (hox.out.keep ka)
                  have HLE : Hid ((R.take q).length + [z].length ≤ 140737488355328) := by unfold Hid; rw [List.length_take]; simp; omega
                  have HI1 := hide (isB_one wr z (b := wr.heap.size) rfl)
                  clear hst hz hxe hye
                  go_wp2_with fail
                  go_region_law (first
                    | (refine step_append_bytes rfl (.tmp 58) (.tmp 74) rfl W1.heap.size _ (R.take q) rfl HOK.out _ [z] rfl HI1.out HLE.out HSZ.out ?_; intro v4 w4 o4 k4))
                  all_goals
                    rw [← HST.out] at o4
                    have O4 := hide o4
                    have K4 := hide ((hbx.out.trans (ka.mono hgs.out)).trans (by exact ⟨k4.os, k4.tape, k4.output, k4.size, k4.block⟩))
                    clear o4 k4 ka hgs HST hox hbx
                    go_wp2_with fail
                    go_roundw
                    case rel => exact ⟨q + 1, by omega, by go_num, O4, K4⟩
                    case measure => simp [intOf]; omega
                · obtain rfl : q = lx := by omega
                  have hox := hox.out
                  rw [List.take_of_length_le (by rw [HRL.out.1]; exact Nat.le_refl _)] at hox
                  obtain ⟨A9, c9, rfl, -, -⟩ := hox.isB.form (n := q) HRL.out.1
                  have OX := hide (hox.more (B' := B) (by rw [HB.out]; exact KB1.out.size))
                  have OM := hide (OW1.out.keep hbx.out)
                  have KB := hide (below_step KB1.out hbx.out)
                  have HSB := hide (show B ≤ wr.heap.size by rw [HB.out]; exact KB.out.size)
                  have hst := take_snoc T y (by rw [HTL.out]; exact hlt)
                  have hrow : T.getD y [] = R := by rw [HT.out, addM_get _ _ (by rw [hSm.out.2.1]; exact hlt), HR.out]
                  rw [hrow] at hst
                  have HST := hide hst
                  clear hox hbx hst hrow
                  go_wp2_with (at_builtin; refine halt ?_)
                  refine ⟨?_⟩
                  have ka := below_alloc wr (.cells #[.slice A9 q c9] 32)
                  refine wpList_append_mrow rfl (.tmp 76) (.tmp 78) rfl B _ _ rfl (OM.out.keep ka) _ _ _ rfl (cell_newAt _ _ _ rfl) (OX.out.keep ka) (by rw [List.length_take]; omega) (Nat.le_trans HSB.out ka.size) ?_
                  intro v8 w8 o8 k8
                  rw [← HST.out] at o8
                  have O8 := hide o8
                  have K8 := hide (show Below B w2 w8 from (((by rw [HB.out]; exact KB.out : Below B w2 wr)).trans (ka.mono HSB.out)).trans k8)
                  clear o8 k8 ka OM OX KB HSB
                  go_wp2_with fail
                  go_roundw
                  case rel =>
                    refine ⟨y + 1, by omega, by go_num, O8, hide (fun t ht => ?_), K8⟩
                    by_cases e : t = y
                    · subst e; rw [HXL.out, HYL.out]
                    · exact hall.out t (by omega)
                  case measure => simp [intOf]; omega
            · have hqq : ((lx : Int) != (ly : Int)) = true := by simp; omega
              go_wp2_with fail
              go_quiet (fail)
              go_wp2_with fail
              go_ret
              exact ⟨rfl, below_draw HBE.out _⟩
          · obtain rfl : y = n := by omega
            obtain ⟨W0, hW0⟩ : ∃ Z, Z = wr := ⟨_, rfl⟩
            subst hW0
            have hown := hown.out
            rw [List.take_of_length_le (by rw [HTL.out]; exact Nat.le_refl _)] at hown
            obtain ⟨A9, c9, rfl, i9, -⟩ := hown.form (n := y) HTL.out
            have HTW := hide (show Twin D D' from ⟨by rw [hSm.out.2.1, hSm'.out.2.1], fun t ht => hall.out t (by rw [← hSm.out.2.1]; exact ht)⟩)
            have hTs : SmallM W0 A9 y T := ⟨i9, HTL.out, hn15, by rw [HT.out]; exact addM_low hSm.out.2.2.2.1 hSm'.out.2.2.2.1 HTW.out.1, by rw [HT.out]; exact addM_most hSm.out.2.2.2.2⟩
            have hTs := hide hTs
            have M1 := hide (MS.out A y c D W0 (hSm.out.below HBE.out))
            have KB := hide HBE.out
            clear hown i9 hall hbel HBE
            go_wp2_with fail
            refine M1.out.mono ?_
            rintro e w3 ⟨v, L1, E, rfl, ⟨A1, n1, c1, rfl, hn1, i1, -, n63⟩, ha1, k3⟩
            have KB3 := hide (below_step KB.out k3)
            have M2 := hide (MS.out A' y c' D' w3 (hSm'.out.below KB3.out))
            have HA1 := hide ha1
            have I1 := hide i1
            have HN1 := hide hn1
            have hTs := hide (hTs.out.below k3)
            clear k3 ha1 i1 hn1 M1
            go_wp2_with fail
            refine M2.out.mono ?_
            rintro e w4 ⟨v, L2, E2, rfl, ⟨A2, n2, c2, rfl, hn2, i2, -, -⟩, ha2, k4⟩
            obtain rfl := err_twin HTW.out HA1.out ha2
            have KB4 := hide (below_step KB3.out k4)
            have M3 := hide (MS.out A9 y c9 T w4 (hTs.out.below k4))
            have HA2 := hide ha2
            have I2 := hide i2
            have HN2 := hide hn2
            have I1 := hide (I1.out.below k4)
            clear k4 ha2 i2 hn2 M2
            go_wp2_with fail
            refine M3.out.mono ?_
            rintro e w5 ⟨v, L3, E3, rfl, ⟨A3, n3, c3, rfl, hn3, i3, -, -⟩, ha3, k5⟩
            rw [HT.out] at ha3
            obtain rfl := err_twin (addM_twin D D') HA1.out ha3
            have KB5 := hide (below_step KB4.out k5)
            by_cases e0 : E = 0
            · subst e0
              obtain ⟨q1, q2, q3⟩ := sums_add HTW.out hSm.out.2.2.2.1 hSm'.out.2.2.2.1 HA1.out HA2.out ha3
              have e3 : n1 = n3 := by rw [← hn3, q1, HN1.out]
              have e2 : n1 = n2 := by rw [← HN2.out, q2, HN1.out]
              subst e3
              subst e2
              have P1 := hide (sums_place HA1.out hSm.out.2.2.2.1).2
              have P2 := hide (sums_place HA2.out hSm'.out.2.2.2.1).2
              have Q3 := hide q3
              have I3 := hide i3
              have HN3 := hide hn3
              have I1 := hide (I1.out.below k5)
              have I2 := hide (I2.out.below k5)
              have HTW0 := hide (HTW.out.2 0)
              have hD1 := hide (show 1 ≤ D.length from (sums_all HA1.out hSm.out.2.2.2.1).elim fun _ h => h.elim fun _ h => h.2.1)
              clear q1 q2 q3 i3 hn3 k5 ha3 M3
              go_wp2_with fail
              go_loopw [17, 18] (fun i _ wr => ∃ q d : Nat, q ≤ n1 ∧ i = .int .i64 (q : Int) ∧ wr = w5.drewN d) (fun i _ _ => n1 - (intOf i).toNat)
              case atStart => exact ⟨0, 0, Nat.zero_le _, rfl, rfl⟩
              case round =>
                obtain ⟨q, d, hq, rfl, rfl⟩ := hrel
                by_cases hltq : q < n1
                · have hq1 : q < L1.length := by rw [HN1.out]; exact hltq
                  obtain ⟨b1, o1, B1, d1, rfl, x1, r1, l1, mm1⟩ := I1.out.at_ q hq1
                  obtain ⟨b2, o2, B2, d2, rfl, x2, r2, l2, -⟩ := I2.out.at_ q (by rw [HN2.out]; exact hltq)
                  obtain ⟨b3, o3, B3, d3, rfl, x3, r3, l3, -⟩ := I3.out.at_ q (by rw [HN3.out]; exact hltq)
                  obtain ⟨s2, s3, sx⟩ := Q3.out q hq1
                  obtain ⟨p1, px⟩ := P1.out q hq1
                  obtain ⟨p2, py⟩ := P2.out q (by rw [HN2.out]; exact hltq)
                  obtain ⟨R1, hR1⟩ : ∃ R1, R1 = L1.getD q [] := ⟨_, rfl⟩
                  obtain ⟨R2, hR2⟩ : ∃ R2, R2 = L2.getD q [] := ⟨_, rfl⟩
                  obtain ⟨R3, hR3⟩ : ∃ R3, R3 = L3.getD q [] := ⟨_, rfl⟩
                  rw [← hR1] at x1 r1 l1 s2 s3 sx p1 px
                  rw [← hR2] at x2 r2 l2 s2 sx p2 py
                  rw [← hR3] at x3 r3 l3 s3 sx
                  have hlow : ∀ t, t < R1.length → R1.getD t 0 < 256 ∧ R2.getD t 0 < 256 := fun t ht => by
                    rw [px t (by rw [← p1]; exact ht), py t (by rw [← HTW0.out hD1.out, ← p1]; exact ht)]
                    exact ⟨G.lt _, G.lt _⟩
                  rw [s2] at x2 r2 l2
                  rw [s3] at x3 r3 l3
                  obtain ⟨lr, hlr⟩ : ∃ lr, lr = R1.length := ⟨_, rfl⟩
                  rw [← hlr] at x1 x2 x3 r1 r2 r3 l1 l2 l3 sx hlow
                  have RD1 := hide r1.rd
                  have RD2 := hide r2.rd
                  have RD3 := hide r3.rd
                  have SX := hide sx
                  have LOW := hide hlow
                  have HLR := hide (And.intro hlr (And.intro (s2.trans hlr.symm) (s3.trans hlr.symm)))
                  clear px py p1 p2 sx hlow s2 s3 hR1 hR2 hR3 r1 r2 r3 hlr
                  have y1 : (w5.drewN d).cell? ⟨b1, o1 + q, none⟩ = some (.slice B1 lr d1) := x1
                  go_wp2_with fail
                  go_loopw [18] (fun k wr => ∃ t d : Nat, t ≤ lr ∧ k = .int .i64 (t : Int) ∧ wr = w5.drewN d) (fun k _ => lr - (intOf k).toNat)
                  case atStart => exact ⟨0, _, Nat.zero_le _, rfl, rfl⟩
                  case round =>
                    obtain ⟨t, d, ht, rfl, rfl⟩ := hrel
                    have y1 : (w5.drewN d).cell? ⟨b1, o1 + q, none⟩ = some (.slice B1 lr d1) := x1
                    have y2 : (w5.drewN d).cell? ⟨b2, o2 + q, none⟩ = some (.slice B2 lr d2) := x2
                    have y3 : (w5.drewN d).cell? ⟨b3, o3 + q, none⟩ = some (.slice B3 lr d3) := x3
                    by_cases hltt : t < lr
                    · obtain ⟨b4, o4, rfl, z1⟩ := RD1.out (by intro e; have := HLR.out.1; rw [e] at this; simp at this; omega)
                      obtain ⟨b5, o5, rfl, z2⟩ := RD2.out (by intro e; have := HLR.out.2.1; rw [e] at this; simp at this; omega)
                      obtain ⟨b6, o6, rfl, z3⟩ := RD3.out (by intro e; have := HLR.out.2.2; rw [e] at this; simp at this; omega)
                      have z1 := z1 t (by rw [← HLR.out.1]; exact hltt)
                      have z2 := z2 t (by rw [HLR.out.2.1]; exact hltt)
                      have z3 := z3 t (by rw [HLR.out.2.2]; exact hltt)
                      obtain ⟨lo1, lo2⟩ := LOW.out t hltt
                      have hxy := u8_xor_nat _ _ lo1 lo2
                      rw [SX.out t hltt] at z3
                      obtain ⟨v1, hv1⟩ : ∃ v1, v1 = R1.getD t 0 := ⟨_, rfl⟩
                      obtain ⟨v2, hv2⟩ : ∃ v2, v2 = R2.getD t 0 := ⟨_, rfl⟩
                      rw [← hv1] at z1 z3 hxy
                      rw [← hv2] at z2 z3 hxy
                      obtain ⟨v3, hv3⟩ : ∃ v3, v3 = v1 ^^^ v2 := ⟨_, rfl⟩
                      rw [← hv3] at z3 hxy
                      have hne : ((v3 : Int) != (v3 : Int)) = false := by simp
                      have z1 : (w5.drewN d).cell? ⟨b4, o4 + t, none⟩ = some (.int .u8 (v1 : Int)) := z1
                      have z2 : (w5.drewN d).cell? ⟨b5, o5 + t, none⟩ = some (.int .u8 (v2 : Int)) := z2
                      have z3 : (w5.drewN d).cell? ⟨b6, o6 + t, none⟩ = some (.int .u8 (v3 : Int)) := z3
                      clear hv1 hv2 hv3 lo1 lo2
                      go_wp2_with fail
                      go_quiet (fail)
                      go_wp2_with fail
                      go_roundw
                      case rel => exact ⟨t + 1, _, by omega, by go_num, rfl⟩
                      case measure => simp [intOf]; omega
                    · obtain rfl : t = lr := by omega
                      go_wp2_with fail
                      go_roundw
                      case rel => exact ⟨q + 1, _, by omega, by go_num, rfl⟩
                      case measure => simp [intOf]; omega
                · obtain rfl : q = n1 := by omega
                  have hqq : ((q : Int) == (q : Int)) = true := by simp
                  go_wp2_with fail
                  refine (HK.out _).mono ?_
                  rintro e w9 ⟨rfl, k9⟩
                  have K9 := hide (below_step (below_draw KB5.out d) k9)
                  clear k9
                  go_wp2_with fail
                  go_ret
                  exact ⟨rfl, K9.out⟩
            · have he : (E != 0) = true := by simp [e0]
              clear ha3 i3 k5 e0 M3
              go_wp2_with fail
              refine (HK.out _).mono ?_
              rintro e w9 ⟨rfl, k9⟩
              have K9 := hide (below_step KB5.out k9)
              clear k9
              go_wp2_with fail
              go_ret
              exact ⟨rfl, K9.out⟩
      · have hne : ((n : Int) != (n' : Int)) = true := by simp; omega
        go_wp2_with fail
        go_ret
        exact ⟨rfl, Below.refl _ _⟩
    · go_wp2_with fail
      go_ret
      exact ⟨rfl, Below.refl _ _⟩
  · go_wp2_with fail
    go_ret
    exact ⟨rfl, Below.refl _ _⟩
end Go.Proofs.Ytpjocddeiehckaa
