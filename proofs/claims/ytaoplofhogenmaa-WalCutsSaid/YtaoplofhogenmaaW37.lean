/- The walk of the law WalCuts. No conditions but the widths. -/
import Derived.Test.YtaoplofhogenmaaW36
namespace Go.Proofs.Ytaoplofhogenmaa
open Go.RowKit Go.Maps
theorem take_getD (xss : List (List Nat)) (p : List Nat) (n j : Nat) (hj : j < n) (hn : n ≤ xss.length) : (xss.take n ++ [p]).getD j [] = xss.getD j [] := by
  simp only [List.getD_eq_getElem?_getD]
  rw [List.getElem?_append_left (by rw [List.length_take]; omega), List.getElem?_take_of_lt hj]
theorem last_getD (xss : List (List Nat)) (p : List Nat) (n : Nat) (hn : n ≤ xss.length) : (xss.take n ++ [p]).getD n [] = p := by
  have hl : (xss.take n).length = n := by rw [List.length_take]; omega
  simp only [List.getD_eq_getElem?_getD]
  rw [List.getElem?_append_right (by omega), hl, Nat.sub_self]
  rfl
set_option maxRecDepth 100000 in
set_option maxHeartbeats 6400000 in
theorem walCuts_walk (a0 : Option Addr) (len0 cap0 : Nat) (x0 : List (List Nat)) (a1 : Int) (a2 : Option Addr) (len2 cap2 : Nat) (z2 : List Int) (w : World) (w0 : IsM w a0 x0) (n0 : x0.length = len0) (l0 : len0 ≤ 140737488351232) (y0 : ∀ r ∈ x0, ∀ x ∈ r, x < 256) (s0 : ∀ r ∈ x0, r.length ≤ 140737488351232) (_w1 : (Lit.int .i64 a1).wf = true) (w2 : IsRow .u8 w a2 len2 cap2 z2) :
    Calls Try.prog 4 #[.slice a0 len0 cap0, .int .i64 a1, .slice a2 len2 cap2] w fun e w' => e = .returned (.bool true) ∧ Below w.heap.size w w' := by
  have HW := hide w0
  have HN := hide n0
  have HY := hide y0
  have HS := hide s0
  obtain ⟨fx, fhl, fhb, fM, fhm⟩ := w2.isB
  have HFX := hide fM
  have HFL := hide fhl
  have HFB := hide fhb
  clear w0 n0 y0 s0 w2 fM fhl fhb
  go_enter Try.func4, Try.ntmps4
  go_wp2_with fail
  go_loopw [7, 8] (fun n i wr => ∃ j t : Nat, j ≤ len0 ∧ n = .int .i64 (t : Int) ∧ i = .int .i64 (j : Int) ∧ w = wr ∧ Hid (t = len2 + totR (x0.take j))) (fun _ i _ => len0 - (intOf i).toNat)
  case atStart => exact ⟨0, len2, Nat.zero_le _, rfl, rfl, rfl, rfl⟩
  case round =>
    obtain ⟨j, t, hj, rfl, rfl, rfl, HT⟩ := hrel
    by_cases hgo : j < len0 ∧ t ≤ 20000
    · obtain ⟨hlt, h8⟩ := hgo
      obtain ⟨b, off, A', c, rfl, q, _, _, _⟩ := HW.out.at_ j (by rw [HN.out]; exact hlt)
      have hl := HS.out _ (getD_mem (xss := x0) (j := j) (by rw [HN.out]; exact hlt))
      have hst := totR_step x0 j (by rw [HN.out]; exact hlt)
      have hst : len2 + totR (x0.take (j + 1)) = t + 10 + (x0.getD j []).length := by have := HT.out; omega
      obtain ⟨m, hm⟩ : ∃ m, m = (x0.getD j []).length := ⟨_, rfl⟩
      rw [← hm] at q hl hst
      have HST := hide hst
      clear hst hm
      go_wp2_with fail
      go_roundw
      case rel => exact ⟨j + 1, t + 10 + m, by omega, by go_num, by go_num, trivial, HST.out.symm⟩
      case measure => simp [intOf]; omega
    · by_cases hbig : 20000 < t
      · have h8 : ¬ (t : Int) ≤ 20000 := by omega
        have hend : ¬ ((j : Int) < (len0 : Int)) ∨ ((j : Int) < (len0 : Int)) := by omega
        clear hgo
        rcases hend with hltz | hltz
        all_goals
          go_wp2_with fail
          go_ret
          exact ⟨rfl, Below.refl _ _⟩
      · have hjN : j = len0 := by omega
        subst hjN
        have TB : Hid (len2 + totR x0 ≤ 20000) := by
          have := HT.out
          rw [← HN.out, List.take_length] at this
          unfold Hid
          omega
        have TA : Hid (totR x0 ≤ 20000) := hide (by have := TB.out; omega)
        have hj2000 : j ≤ 2000 := by have := totR_len x0; have := TA.out; have := HN.out; omega
        have h8 : ¬ 20000 < t := hbig
        clear hgo HT
        go_wp2_with fail
        refine (new_any 1048576 w (by decide)).mono ?_
        rintro e w1 ⟨d, F1, rfl, d1, u1, k1⟩
        have D1 := hide d1
        have K1 := hide k1
        have U1 := hide u1
        clear d1 u1 k1
        go_wp2_with fail
        refine (run_open (B := w.heap.size) ⟨#[119]⟩ D1.out U1.out K1.out.size (by decide) (by decide)).mono ?_
        rintro e w2 ⟨l, rfl, h2, k2⟩
        have h2 : Run w.heap.size w2 d l 1048576 ⟨#[119]⟩ ⟨[], 1, []⟩ [] := by
          rw [open_empty] at h2
          exact h2
        have H2 := hide h2
        have K2 := hide (K1.out.trans k2)
        clear h2 k2
        go_wp2_with fail
        go_loopw [13] (fun i wr => ∃ (k : Nat) (T : List Tl) (M : LogL) (L : DiskL), k ≤ j ∧ i = .int .i64 (k : Int) ∧ Hid (LogI kw (x0.take k) T M L) ∧ Hid (Run w.heap.size wr d l 1048576 ⟨#[119]⟩ M L) ∧ Hid (Below w.heap.size w wr)) (fun i _ => j - (intOf i).toNat)
        case atStart => exact ⟨0, [], _, _, Nat.zero_le _, rfl, hide (LogI.start kw), H2.out, K2.out⟩
        case round =>
          clear H2 K2
          obtain ⟨k, T, M, L, hk, rfl, HI, HR, K⟩ := hrel
          by_cases hlt : k < j
          · obtain ⟨b, off, A', c, rfl, q, i1, _, m1⟩ := HW.out.at_ k (by rw [HN.out]; exact hlt)
            have hmem := getD_mem (xss := x0) (j := k) (by rw [HN.out]; exact hlt)
            have hl : (x0.getD k []).length ≤ 20000 := by
              have := totR_le x0 _ hmem
              have := TA.out
              omega
            have hbyte := HY.out _ hmem
            have htk : x0.take (k + 1) = x0.take k ++ [x0.getD k []] := by
              rw [List.take_succ_eq_append_getElem (by rw [HN.out]; exact hlt)]
              simp [show k < x0.length by rw [HN.out]; exact hlt]
            obtain ⟨p, hp⟩ : ∃ p, p = x0.getD k [] := ⟨_, rfl⟩
            rw [← hp] at q i1 hl hbyte htk
            obtain ⟨m, hm⟩ : ∃ m, m = p.length := ⟨_, rfl⟩
            rw [← hm] at q i1 hl
            have I1 := hide i1
            have HBY := hide hbyte
            have HP := hide hm
            have HTK := hide htk
            have hklen : Hid ((x0.take k).length = k) := hide (by rw [List.length_take, HN.out]; omega)
            obtain ⟨T', M', L', a1', a2', _⟩ := logI_add HI.out kw_len p (by rw [← HTK.out]; have := totR_take x0 (k + 1); have := TA.out; omega)
            rw [hklen.out] at a1'
            have A1 := hide a1'
            have A2 := hide a2'
            have hbw : b < w.heap.size := cell_lt q
            have q1 := (K.out.cell (p := ⟨b, off + k, none⟩) hbw).trans q
            clear i1 hbyte hm hp hmem htk a1' a2'
            go_wp2_with fail
            refine (run_add HR.out (Below.refl _ _) A' m c p (I1.out.keep K.out) HP.out.symm HBY.out (fun hne g hg => .inl (isM_low I1.out hne g hg))).mono ?_
            rintro e w3 ⟨rfl, h3, k3⟩
            rw [show addL 1048576 (⟨#[119]⟩ : ByteArray).data.toList p M L = _ from A1.out] at h3 ⊢
            have H3 := hide h3
            have K3 := hide (K.out.trans k3)
            clear h3 k3 q1
            go_wp2_with fail
            go_roundw
            case rel => exact ⟨k + 1, T', M', L', by omega, by go_num, by unfold Hid; rw [HTK.out]; exact A2.out, H3.out, K3.out⟩
            case measure => simp [intOf]; omega
          · obtain rfl : k = j := by omega
            have hI := HI.out
            rw [List.take_of_length_le (by rw [HN.out]; exact Nat.le_refl _)] at hI
            have hnx : M.next = k + 1 := by rw [hI.next, HN.out]
            have hk1 : (0 : Int) < (k : Int) + 1 := by omega
            obtain ⟨rr, hrr⟩ : ∃ r, r = a1.tmod ((k : Int) + 1) := ⟨_, rfl⟩
            have hrem : a1.tmod ((k : Int) + 1) = rr := hrr.symm
            have hr1 : -((k : Int) + 1) < rr := by rw [hrr]; exact Int.lt_tmod_of_pos a1 hk1
            have hr2 : rr < (k : Int) + 1 := by rw [hrr]; exact Int.tmod_lt_of_pos a1 hk1
            have hr0 : 0 ≤ a1 → 0 ≤ rr := fun h => by rw [hrr]; exact Int.tmod_nonneg _ h
            obtain ⟨i, hi⟩ : ∃ i : Nat, (i : Int) = if a1 < 0 then 1 else 1 + rr := by
              by_cases hn : a1 < 0
              · exact ⟨1, by rw [if_pos hn]; rfl⟩
              · have := hr0 (by omega)
                exact ⟨(1 + rr).toNat, by rw [if_neg hn]; omega⟩
            have hi1 : 1 ≤ i := by
              by_cases hn : a1 < 0
              · rw [if_pos hn] at hi; omega
              · rw [if_neg hn] at hi
                have := hr0 (by omega)
                omega
            have hi2 : i ≤ k + 1 := by
              by_cases hn : a1 < 0
              · rw [if_pos hn] at hi; omega
              · rw [if_neg hn] at hi
                omega
            have hf1 : firstL M = 1 := by
              have := chain_first (d := M.dirty) hI.fit.good.chain
              rw [← hI.fit.segs] at this
              exact this
            obtain ⟨c1, c2, c3, c4, c5⟩ := cut_fit (i := i) hI.fit (by omega) hi1 (by omega)
            have hCU := run_cut HR.out i (by omega) (by omega)
            obtain ⟨M2, hM2⟩ : ∃ M2, M2 = (cutW kw i M L).1 := ⟨_, rfl⟩
            obtain ⟨L2, hL2⟩ : ∃ L2, L2 = (cutW kw i M L).2 := ⟨_, rfl⟩
            rw [← hM2] at c1 c5
            rw [← hL2] at c1
            have hfew := hI.few TA.out
            have hflen : fx.length = len2 := HFL.out
            have hl2 : len2 ≤ 20000 := by have := TB.out; omega
            have hbt := hI.bytes
            have hu : (uvl M2.next).length ≤ 2 := uvl_len 1 _ (by omega)
            have hrl := rec_len M2.next fx
            obtain ⟨T3, M3, L3, e1, e2, e3, e4, e5, e6, _⟩ := add_fit (room := 1048576) (p := fx) c1 kw_len (by omega) (by omega) (by have := TB.out; omega) (by omega)
            rw [c5] at e1
            have hfl : flatT T3 = x0.take (i - 1) ++ [fx] := by rw [e3, c2, hI.flat]
            have hsy := sync_fit e2 (by omega)
            obtain ⟨M4, hM4⟩ : ∃ M4 : LogL, M4 = ⟨M3.segs, M3.next, []⟩ := ⟨_, rfl⟩
            obtain ⟨L4, hL4⟩ : ∃ L4, L4 = syncsL kw M3.dirty L3 := ⟨_, rfl⟩
            rw [← hM4, ← hL4] at hsy
            have hfl4 : flatT (T3.map fullT) = x0.take (i - 1) ++ [fx] := by rw [flat_full]; exact hfl
            have hle : (x0.take (i - 1) ++ [fx]).length = i := by rw [List.length_append, List.length_take, HN.out]; simp; omega
            obtain ⟨qq, S5, d5, q1, q2, q3, q4, q5⟩ := kept_fit (c := i) (0 : Int).toNat hsy (by rw [hM4]; show M3.next ≤ 100000000; omega) (synced_full T3 i) (by rw [hfl4, hle]; exact Nat.le_refl _)
            rw [hfl4, hle] at q2
            have hq : qq = i := by omega
            subst hq
            rw [hfl4] at q5
            obtain ⟨M5, hM5⟩ : ∃ M5, M5 = (openR kw (crashD (0 : Int).toNat L4)).log := ⟨_, rfl⟩
            have hm5 : M5 = ⟨S5, 1 + qq, d5⟩ := by rw [hM5]; exact q3
            have HG5 : Hid (∀ z : Nat, z < qq → getE M5 ((1 + z : Nat) : Int) = ((x0.take (qq - 1) ++ [fx]).getD z [], 0)) := hide (fun z hz => by rw [hm5]; exact q5 z hz)
            have HN5 : Hid (M5.next = qq + 1) := hide (by rw [hm5]; show 1 + qq = qq + 1; omega)
            have HCU := hide hCU
            have HM2 := hide hM2
            have HL2 := hide hL2
            have HE1 := hide e1
            have HM4 := hide hM4
            have HL4 := hide hL4
            have HM5 := hide hM5
            have HI9 := hide hi
            clear hI hnx hrr hi hf1 c1 c2 c3 c4 c5 hCU hM2 hL2 hfew hflen hbt hu hrl e1 e2 e3 e4 e5 e6 hfl hsy hM4 hL4 hfl4 hle q1 q2 q3 q4 q5 hM5 hm5 HI hlt hr0
            have hstart : ∀ (P : Prop), (a1 < 0 → P) → (0 ≤ a1 → P) → P := fun P h1 h2 => (Int.lt_or_le a1 0).elim h1 h2
            by_cases hn : a1 < 0
            · have hi9 : (1 : Int) = (qq : Int) := by have := HI9.out; rw [if_pos hn] at this; exact this.symm
              have HQ : Hid (qq = 1) := hide (by omega)
              clear hi9 hstart
              go_wp2_with fail
              rw [show (1 : Int) = ((qq : Nat) : Int) from by rw [HQ.out]; rfl]
              refine HCU.out.mono ?_
              rintro e w3 ⟨rfl, h3, k3⟩
              have h3 : Run w.heap.size w3 d l 1048576 ⟨#[119]⟩ M2 L2 := by rw [HM2.out, HL2.out]; exact h3
              have H3 := hide h3
              have K3 := hide (K.out.trans k3)
              clear h3 k3
              go_wp2_with fail
              refine (run_add H3.out (Below.refl _ _) a2 len2 cap2 fx (HFX.out.keep K3.out) HFL.out HFB.out (fun hne g hg => .inl (isM_low HFX.out hne g hg))).mono ?_
              rintro e w4 ⟨rfl, h4, k4⟩
              rw [show addL 1048576 (⟨#[119]⟩ : ByteArray).data.toList fx M2 L2 = _ from HE1.out] at h4 ⊢
              have H4 := hide h4
              have K4 := hide (K3.out.trans k4)
              clear h4 k4
              go_wp2_with fail
              refine (run_sync H4.out).mono ?_
              rintro e w5 ⟨rfl, h5, k5⟩
              have h5 : Run w.heap.size w5 d l 1048576 ⟨#[119]⟩ M4 L4 := by rw [HM4.out, HL4.out]; exact h5
              have H5 := hide h5
              have K5 := hide (K4.out.trans k5)
              clear h5 k5
              go_wp2_with fail
              refine (run_crash H5.out 0).mono ?_
              rintro e w6 ⟨rfl, F6, d6, f6, b6, k6⟩
              have D6 := hide d6
              have F6' := hide f6
              have K6 := hide (K5.out.trans k6)
              clear d6 f6 k6
              go_wp2_with fail
              refine (run_open (B := w.heap.size) ⟨#[119]⟩ D6.out F6'.out b6 (by decide) (by decide)).mono ?_
              rintro e w7 ⟨l2, rfl, h7, k7⟩
              have h7 : Run w.heap.size w7 d l2 1048576 ⟨#[119]⟩ M5 (openR kw (crashD (0 : Int).toNat L4)).disk := by rw [HM5.out]; exact h7
              have H7 := hide h7
              have K7 := hide (K6.out.trans k7)
              have hne1 : ((qq : Int) != (qq : Int)) = false := by simp
              clear h7 k7
              go_wp2_with fail
              refine (run_bounds H7.out).mono ?_
              rintro e w8 ⟨rfl, k8⟩
              rw [HN5.out]
              have R8 := hide (H7.out.below k8).read
              have K8 := hide (K7.out.trans (k8.mono K7.out.size))
              have hE : Hid (getE M5 (qq : Int) = (fx, 0)) := hide (by
                have h9 := HG5.out (qq - 1) (by omega)
                rw [show ((1 + (qq - 1) : Nat) : Int) = (qq : Int) by omega] at h9
                rw [h9, last_getD x0 fx (qq - 1) (by rw [HN.out]; omega)])
              clear k8
              go_wp2_with fail
              refine (read_get R8.out (qq : Int)).mono ?_
              rintro e w9 ⟨v9, rfl, o9, k9⟩
              rw [hE.out] at o9 ⊢
              obtain ⟨A9, c9, rfl, i9, _, _⟩ := o9.isB.form (n := len2) HFL.out
              have I9 := hide i9
              have R9 := hide (R8.out.below k9)
              have K9 := hide (K8.out.trans (k9.mono K8.out.size))
              have hne2 : (((qq + 1 : Nat) : Int) != (qq : Int) + 1) = false := by simp
              have hne3 : (((qq : Int) + 1) != (qq : Int) + 1) = false := by simp
              have hl2b : len2 ≤ 20000 := by have := TB.out; omega
              clear o9 i9 k9
              go_wp2_with fail
              refine (same_any A9 a2 len2 len2 c9 cap2 fx fx w9 I9.out.rd (HFX.out.keep K9.out).rd HFL.out.symm HFL.out.symm (by omega) (by omega)).mono ?_
              rintro e w10 ⟨rfl, d10, rfl⟩
              rw [decide_eq_true rfl]
              have k10 : Below w9.heap.size w9 (w9.drewN d10) := ⟨rfl, rfl, rfl, Nat.le_refl _, fun _ _ => rfl⟩
              obtain ⟨w10, hw10⟩ : ∃ z, z = w9.drewN d10 := ⟨_, rfl⟩
              rw [← hw10] at k10 ⊢
              have R10 := hide (R9.out.below k10)
              have K10 := hide (K9.out.trans (k10.mono K9.out.size))
              clear k10 hw10
              go_wp2_with fail
              go_loopw [23] (fun ix wr => ∃ kz : Nat, kz + 1 ≤ qq ∧ ix = .int .i64 ((kz : Int) + 1) ∧ Hid (Read wr l2 M5) ∧ Hid (Below w.heap.size w wr)) (fun ix _ => qq + 1 - (intOf ix).toNat)
              case atStart => exact ⟨0, hi1, rfl, R10.out, K10.out⟩
              case round =>
                clear R10 K10
                obtain ⟨kz, hz1, rfl, RA, K⟩ := hrel
                by_cases hlt : kz + 1 < qq
                · have hzl : (kz : Int) + 1 < (qq : Int) := by omega
                  have hzs : (kz : Int) + 1 - 1 = (kz : Int) := by omega
                  have hkk : kz < k := by omega
                  obtain ⟨b, off, A', c, rfl, q, i1, _, m1⟩ := HW.out.at_ kz (by rw [HN.out]; exact hkk)
                  have hmem := getD_mem (xss := x0) (j := kz) (by rw [HN.out]; exact hkk)
                  have hl : (x0.getD kz []).length ≤ 20000 := by
                    have := totR_le x0 _ hmem
                    have := TA.out
                    omega
                  have hE1 : Hid (getE M5 ((kz : Int) + 1) = (x0.getD kz [], 0)) := hide (by
                    have h9 := HG5.out kz (by omega)
                    rw [show ((1 + kz : Nat) : Int) = (kz : Int) + 1 by omega] at h9
                    rw [h9, take_getD x0 fx (qq - 1) kz (by omega) (by rw [HN.out]; omega)])
                  obtain ⟨p, hp⟩ : ∃ p, p = x0.getD kz [] := ⟨_, rfl⟩
                  rw [← hp] at q i1 hl hE1
                  obtain ⟨m, hm⟩ : ∃ m, m = p.length := ⟨_, rfl⟩
                  rw [← hm] at q i1 hl
                  have I1 := hide i1
                  have HP := hide hm
                  have hbw : b < w.heap.size := cell_lt q
                  have Q := hide q
                  clear i1 hm hp hmem q
                  go_wp2_with fail
                  refine (read_get RA.out ((kz : Int) + 1)).mono ?_
                  rintro e w11 ⟨v8, rfl, o8, k8⟩
                  rw [hE1.out] at o8 ⊢
                  obtain ⟨A8, c8, rfl, i8, _, _⟩ := o8.isB.form (n := m) HP.out.symm
                  have I8 := hide i8
                  have RA8 := hide (RA.out.below k8)
                  have K8 := hide (K.out.trans (k8.mono K.out.size))
                  have q9 := (K8.out.cell (p := ⟨b, off + kz, none⟩) hbw).trans Q.out
                  clear o8 i8 k8
                  go_wp2_with fail
                  refine (same_any A8 A' m m c8 c p p w11 I8.out.rd (I1.out.keep K8.out).rd HP.out HP.out (by omega) (by omega)).mono ?_
                  rintro e w12 ⟨rfl, d12, rfl⟩
                  rw [decide_eq_true rfl]
                  have k12 : Below w11.heap.size w11 (w11.drewN d12) := ⟨rfl, rfl, rfl, Nat.le_refl _, fun _ _ => rfl⟩
                  have RAu := hide (RA8.out.below k12)
                  have Ku := hide (K8.out.trans (k12.mono K8.out.size))
                  clear k12 q9
                  go_wp2_with fail
                  go_roundw
                  case rel => exact ⟨kz + 1, by omega, by go_num, RAu.out, Ku.out⟩
                  case measure => simp [intOf]; omega
                · have hzl : ¬ (kz : Int) + 1 < (qq : Int) := by omega
                  go_wp2_with fail
                  refine (known_any _).mono ?_
                  rintro e w13 ⟨rfl, k13⟩
                  have K13 := hide (K.out.trans (k13.mono K.out.size))
                  clear k13
                  go_wp2_with fail
                  go_ret
                  exact ⟨rfl, K13.out⟩
            · have hn2 : 0 ≤ a1 := by omega
              have hi9 : 1 + rr = (qq : Int) := by have := HI9.out; rw [if_neg hn] at this; exact this.symm
              clear hn hstart
              go_wp2_with fail
              refine HCU.out.mono ?_
              rintro e w3 ⟨rfl, h3, k3⟩
              have h3 : Run w.heap.size w3 d l 1048576 ⟨#[119]⟩ M2 L2 := by rw [HM2.out, HL2.out]; exact h3
              have H3 := hide h3
              have K3 := hide (K.out.trans k3)
              clear h3 k3
              go_wp2_with fail
              refine (run_add H3.out (Below.refl _ _) a2 len2 cap2 fx (HFX.out.keep K3.out) HFL.out HFB.out (fun hne g hg => .inl (isM_low HFX.out hne g hg))).mono ?_
              rintro e w4 ⟨rfl, h4, k4⟩
              rw [show addL 1048576 (⟨#[119]⟩ : ByteArray).data.toList fx M2 L2 = _ from HE1.out] at h4 ⊢
              have H4 := hide h4
              have K4 := hide (K3.out.trans k4)
              clear h4 k4
              go_wp2_with fail
              refine (run_sync H4.out).mono ?_
              rintro e w5 ⟨rfl, h5, k5⟩
              have h5 : Run w.heap.size w5 d l 1048576 ⟨#[119]⟩ M4 L4 := by rw [HM4.out, HL4.out]; exact h5
              have H5 := hide h5
              have K5 := hide (K4.out.trans k5)
              clear h5 k5
              go_wp2_with fail
              refine (run_crash H5.out 0).mono ?_
              rintro e w6 ⟨rfl, F6, d6, f6, b6, k6⟩
              have D6 := hide d6
              have F6' := hide f6
              have K6 := hide (K5.out.trans k6)
              clear d6 f6 k6
              go_wp2_with fail
              refine (run_open (B := w.heap.size) ⟨#[119]⟩ D6.out F6'.out b6 (by decide) (by decide)).mono ?_
              rintro e w7 ⟨l2, rfl, h7, k7⟩
              have h7 : Run w.heap.size w7 d l2 1048576 ⟨#[119]⟩ M5 (openR kw (crashD (0 : Int).toNat L4)).disk := by rw [HM5.out]; exact h7
              have H7 := hide h7
              have K7 := hide (K6.out.trans k7)
              have hne1 : ((qq : Int) != (qq : Int)) = false := by simp
              clear h7 k7
              go_wp2_with fail
              refine (run_bounds H7.out).mono ?_
              rintro e w8 ⟨rfl, k8⟩
              rw [HN5.out]
              have R8 := hide (H7.out.below k8).read
              have K8 := hide (K7.out.trans (k8.mono K7.out.size))
              have hE : Hid (getE M5 (qq : Int) = (fx, 0)) := hide (by
                have h9 := HG5.out (qq - 1) (by omega)
                rw [show ((1 + (qq - 1) : Nat) : Int) = (qq : Int) by omega] at h9
                rw [h9, last_getD x0 fx (qq - 1) (by rw [HN.out]; omega)])
              clear k8
              go_wp2_with fail
              refine (read_get R8.out (qq : Int)).mono ?_
              rintro e w9 ⟨v9, rfl, o9, k9⟩
              rw [hE.out] at o9 ⊢
              obtain ⟨A9, c9, rfl, i9, _, _⟩ := o9.isB.form (n := len2) HFL.out
              have I9 := hide i9
              have R9 := hide (R8.out.below k9)
              have K9 := hide (K8.out.trans (k9.mono K8.out.size))
              have hne2 : (((qq + 1 : Nat) : Int) != (qq : Int) + 1) = false := by simp
              have hne3 : (((qq : Int) + 1) != (qq : Int) + 1) = false := by simp
              have hl2b : len2 ≤ 20000 := by have := TB.out; omega
              clear o9 i9 k9
              go_wp2_with fail
              refine (same_any A9 a2 len2 len2 c9 cap2 fx fx w9 I9.out.rd (HFX.out.keep K9.out).rd HFL.out.symm HFL.out.symm (by omega) (by omega)).mono ?_
              rintro e w10 ⟨rfl, d10, rfl⟩
              rw [decide_eq_true rfl]
              have k10 : Below w9.heap.size w9 (w9.drewN d10) := ⟨rfl, rfl, rfl, Nat.le_refl _, fun _ _ => rfl⟩
              obtain ⟨w10, hw10⟩ : ∃ z, z = w9.drewN d10 := ⟨_, rfl⟩
              rw [← hw10] at k10 ⊢
              have R10 := hide (R9.out.below k10)
              have K10 := hide (K9.out.trans (k10.mono K9.out.size))
              clear k10 hw10
              go_wp2_with fail
              go_loopw [23] (fun ix wr => ∃ kz : Nat, kz + 1 ≤ qq ∧ ix = .int .i64 ((kz : Int) + 1) ∧ Hid (Read wr l2 M5) ∧ Hid (Below w.heap.size w wr)) (fun ix _ => qq + 1 - (intOf ix).toNat)
              case atStart => exact ⟨0, hi1, rfl, R10.out, K10.out⟩
              case round =>
                clear R10 K10
                obtain ⟨kz, hz1, rfl, RA, K⟩ := hrel
                by_cases hlt : kz + 1 < qq
                · have hzl : (kz : Int) + 1 < (qq : Int) := by omega
                  have hzs : (kz : Int) + 1 - 1 = (kz : Int) := by omega
                  have hkk : kz < k := by omega
                  obtain ⟨b, off, A', c, rfl, q, i1, _, m1⟩ := HW.out.at_ kz (by rw [HN.out]; exact hkk)
                  have hmem := getD_mem (xss := x0) (j := kz) (by rw [HN.out]; exact hkk)
                  have hl : (x0.getD kz []).length ≤ 20000 := by
                    have := totR_le x0 _ hmem
                    have := TA.out
                    omega
                  have hE1 : Hid (getE M5 ((kz : Int) + 1) = (x0.getD kz [], 0)) := hide (by
                    have h9 := HG5.out kz (by omega)
                    rw [show ((1 + kz : Nat) : Int) = (kz : Int) + 1 by omega] at h9
                    rw [h9, take_getD x0 fx (qq - 1) kz (by omega) (by rw [HN.out]; omega)])
                  obtain ⟨p, hp⟩ : ∃ p, p = x0.getD kz [] := ⟨_, rfl⟩
                  rw [← hp] at q i1 hl hE1
                  obtain ⟨m, hm⟩ : ∃ m, m = p.length := ⟨_, rfl⟩
                  rw [← hm] at q i1 hl
                  have I1 := hide i1
                  have HP := hide hm
                  have hbw : b < w.heap.size := cell_lt q
                  have Q := hide q
                  clear i1 hm hp hmem q
                  go_wp2_with fail
                  refine (read_get RA.out ((kz : Int) + 1)).mono ?_
                  rintro e w11 ⟨v8, rfl, o8, k8⟩
                  rw [hE1.out] at o8 ⊢
                  obtain ⟨A8, c8, rfl, i8, _, _⟩ := o8.isB.form (n := m) HP.out.symm
                  have I8 := hide i8
                  have RA8 := hide (RA.out.below k8)
                  have K8 := hide (K.out.trans (k8.mono K.out.size))
                  have q9 := (K8.out.cell (p := ⟨b, off + kz, none⟩) hbw).trans Q.out
                  clear o8 i8 k8
                  go_wp2_with fail
                  refine (same_any A8 A' m m c8 c p p w11 I8.out.rd (I1.out.keep K8.out).rd HP.out HP.out (by omega) (by omega)).mono ?_
                  rintro e w12 ⟨rfl, d12, rfl⟩
                  rw [decide_eq_true rfl]
                  have k12 : Below w11.heap.size w11 (w11.drewN d12) := ⟨rfl, rfl, rfl, Nat.le_refl _, fun _ _ => rfl⟩
                  have RAu := hide (RA8.out.below k12)
                  have Ku := hide (K8.out.trans (k12.mono K8.out.size))
                  clear k12 q9
                  go_wp2_with fail
                  go_roundw
                  case rel => exact ⟨kz + 1, by omega, by go_num, RAu.out, Ku.out⟩
                  case measure => simp [intOf]; omega
                · have hzl : ¬ (kz : Int) + 1 < (qq : Int) := by omega
                  go_wp2_with fail
                  refine (known_any _).mono ?_
                  rintro e w13 ⟨rfl, k13⟩
                  have K13 := hide (K.out.trans (k13.mono K.out.size))
                  clear k13
                  go_wp2_with fail
                  go_ret
                  exact ⟨rfl, K13.out⟩
end Go.Proofs.Ytaoplofhogenmaa
