/- The walk of the law's own 'known': what lasts of three entries. No condition. The walk of the law WalDrops. No conditions but the widths. -/
import Derived.Test.YtaoplofhogenmaaW35
import Derived.Test.YtaoplofhogenmaaW15
import Derived.Test.YtaoplofhogenmaaW9
import Derived.Test.YtaoplofhogenmaaW7
namespace Go.Proofs.Ytaoplofhogenmaa
open Go.RowKit Go.Maps
def kw : Str := (⟨#[119]⟩ : ByteArray).data.toList
theorem kw_len : 1 ≤ kw.length ∧ kw.length ≤ 55 := by decide
set_option maxRecDepth 100000 in
set_option maxHeartbeats 3200000 in
theorem known_any (w : World) : Calls Try.prog 15 #[] w fun e w' => e = .returned (.bool true) ∧ Below w.heap.size w w' := by
  have kc := const_bytes
  have r1 := rec_ten (i := 1) (x := 97) (by decide)
  have r2 := rec_ten (i := 2) (x := 98) (by decide)
  have r3 := rec_ten (i := 3) (x := 99) (by decide)
  have A1 := hide (add_first (room := 10000) (k := kw) (p := [97]) kw_len (by decide) (by rw [r1]; decide))
  have A2 := hide (add_next (room := 10000) (n := 2) (y := 0) (k := kw) (p := [98]) (b := recL 1 [97]) (es := [[97]]) (d := [1]) kw_len (by decide) (by decide) (by rw [r1]; decide) (by rw [r1, r2]; decide))
  have hl2 : (recL 1 [97] ++ recL 2 [98]).length = 20 := by rw [List.length_append, r1, r2]
  have A3 := hide (add_next (room := 10000) (n := 3) (y := 20) (k := kw) (p := [99]) (b := recL 1 [97] ++ recL 2 [98]) (es := [[97], [98]]) (d := []) kw_len (by decide) (by decide) (by rw [hl2]; decide) (by rw [hl2, r3]; decide))
  have SY : Hid (syncsL kw [1, 1] [(nameL kw 1, (recL 1 [97] ++ recL 2 [98], 0))] = [(nameL kw 1, (recL 1 [97] ++ recL 2 [98], 20))]) := hide (by rw [sync_two, hl2])
  have OP := hide (known_open kw)
  have O0 := hide (open_empty kw)
  clear r1 r2 r3 hl2
  go_enter Try.func15, Try.ntmps15
  go_wp2_with fail
  refine (new_any 10000 w (by decide)).mono ?_
  rintro e w1 ⟨d, F1, rfl, d1, l1, k1⟩
  have D1 := hide d1
  have K1 := hide k1
  have L1 := hide l1
  clear d1 l1 k1
  go_wp2_with fail
  refine (run_open (B := w.heap.size) ⟨#[119]⟩ D1.out L1.out K1.out.size (by decide) (by decide)).mono ?_
  rintro e w2 ⟨l, rfl, h2, k2⟩
  have h2 : Run w.heap.size w2 d l 10000 ⟨#[119]⟩ ⟨[], 1, []⟩ [] := by
    have h9 := O0.out
    unfold kw at h9
    rw [h9] at h2
    exact h2
  have H2 := hide h2
  have K2 := hide (K1.out.trans k2)
  clear h2 k2
  go_wp2_with fail
  have ka := below_alloc w2 (.cells #[.int .u8 97] 5 (1, 2))
  refine (run_add H2.out ka _ 1 1 [97] (isB_const w2 _ _ _ rfl (by decide) _ _ rfl rfl) rfl (by decide) (fun _ g hg => .inr (by cases hg; exact Nat.le_refl _))).mono ?_
  rintro e w3 ⟨rfl, h3, k3⟩
  rw [show addL 10000 (⟨#[119]⟩ : ByteArray).data.toList [97] ⟨[], 1, []⟩ [] = _ from A1.out] at h3 ⊢
  have H3 := hide h3
  have K3 := hide ((K2.out.trans (ka.mono K2.out.size)).trans k3)
  clear h3 k3 ka
  go_wp2_with fail
  have ka := below_alloc w3 (.cells #[.int .u8 98] 5 (1, 2))
  refine (run_add H3.out ka _ 1 1 [98] (isB_const w3 _ _ _ rfl (by decide) _ _ rfl rfl) rfl (by decide) (fun _ g hg => .inr (by cases hg; exact Nat.le_refl _))).mono ?_
  rintro e w4 ⟨rfl, h4, k4⟩
  rw [show addL 10000 (⟨#[119]⟩ : ByteArray).data.toList [98] ⟨[(1, [[97]])], 2, [1]⟩ [(nameL kw 1, (recL 1 [97], 0))] = _ from A2.out] at h4 ⊢
  have H4 := hide h4
  have K4 := hide ((K3.out.trans (ka.mono K3.out.size)).trans k4)
  clear h4 k4 ka
  go_wp2_with fail
  refine (run_sync H4.out).mono ?_
  rintro e w5 ⟨rfl, h5, k5⟩
  rw [show syncsL (⟨#[119]⟩ : ByteArray).data.toList ([1] ++ [1]) [(nameL kw 1, (recL 1 [97] ++ recL 2 [98], 0))] = _ from SY.out] at h5
  have h5 : Run w.heap.size w5 d l 10000 ⟨#[119]⟩ ⟨[(1, [[97], [98]])], 3, []⟩ [(nameL kw 1, (recL 1 [97] ++ recL 2 [98], 20))] := h5
  have H5 := hide h5
  have K5 := hide (K4.out.trans k5)
  clear h5 k5
  go_wp2_with fail
  have ka := below_alloc w5 (.cells #[.int .u8 99] 5 (1, 2))
  refine (run_add H5.out ka _ 1 1 [99] (isB_const w5 _ _ _ rfl (by decide) _ _ rfl rfl) rfl (by decide) (fun _ g hg => .inr (by cases hg; exact Nat.le_refl _))).mono ?_
  rintro e w6 ⟨rfl, h6, k6⟩
  rw [show addL 10000 (⟨#[119]⟩ : ByteArray).data.toList [99] ⟨[(1, [[97], [98]])], 3, []⟩ [(nameL kw 1, (recL 1 [97] ++ recL 2 [98], 20))] = _ from A3.out] at h6 ⊢
  have H6 := hide h6
  have K6 := hide ((K5.out.trans (ka.mono K5.out.size)).trans k6)
  clear h6 k6 ka
  go_wp2_with fail
  refine (run_crash H6.out 3).mono ?_
  rintro e w7 ⟨rfl, F7, d7, f7, b7, k7⟩
  have D7 := hide d7
  have F7' := hide f7
  have K7 := hide (K6.out.trans k7)
  clear d7 f7 k7
  go_wp2_with fail
  refine (run_open (B := w.heap.size) ⟨#[119]⟩ D7.out F7'.out b7 (by decide) (by decide)).mono ?_
  rintro e w8 ⟨l8, rfl, h8, k8⟩
  rw [show (openR (⟨#[119]⟩ : ByteArray).data.toList (crashD (3 : Int).toNat [(nameL kw 1, (recL 1 [97] ++ recL 2 [98] ++ recL 3 [99], 20))])).log = _ from OP.out] at h8
  have H8 := hide h8
  have K8 := hide (K7.out.trans k8)
  clear h8 k8
  go_wp2_with fail
  refine (run_bounds H8.out).mono ?_
  rintro e w9 ⟨rfl, k9⟩
  have K9 := hide (K8.out.trans (k9.mono K8.out.size))
  clear k9
  rw [show firstL ⟨[(1, [[97], [98]])], 3, [1]⟩ = 1 from rfl]
  go_wp2_with fail
  go_ret
  exact ⟨rfl, K9.out⟩
end Go.Proofs.Ytaoplofhogenmaa
namespace Go.Proofs.Ytaoplofhogenmaa
open Go.RowKit Go.Maps
theorem and_65535 (z : Int) : bits .and .i64 z 65535 = z % 65536 := by
  have h2 : (BitVec.ofInt 64 65535).toNat = 2 ^ 16 - 1 := by decide
  have e : (BitVec.ofInt 64 z &&& BitVec.ofInt 64 65535).toNat = (BitVec.ofInt 64 z).toNat % 65536 := by
    rw [BitVec.toNat_and, h2, Nat.and_two_pow_sub_one_eq_mod]
  show IntKind.i64.wrap (((BitVec.ofInt 64 z &&& BitVec.ofInt 64 65535).toNat : Nat) : Int) = z % 65536
  rw [e, BitVec.toNat_ofInt, IntKind.wrap_i64]
  omega
theorem isM_low {w : World} {A : Option Addr} {n c : Nat} {xs : List Nat} (h : IsB w (.slice A n c) xs) : xs ≠ [] → ∀ g, (Value.slice A n c).ownBlock = some g → g < w.heap.size := fun hne => isB_low h hne
theorem flat_seg (T : List Tl) : flatS (T.map segT) = flatT T := by
  unfold flatS flatT
  rw [List.flatMap_map]
  rfl
theorem drop_getD (xss : List (List Nat)) (f z : Nat) (h1 : 1 ≤ f) (h2 : f ≤ z) : (xss.drop (f - 1)).getD (z - f) [] = xss.getD (z - 1) [] := by
  simp only [List.getD_eq_getElem?_getD, List.getElem?_drop]
  congr 2
  omega
set_option maxRecDepth 100000 in
set_option maxHeartbeats 6400000 in
theorem walDrops_walk (a0 : Option Addr) (len0 cap0 : Nat) (x0 : List (List Nat)) (a1 : Int) (w : World) (w0 : IsM w a0 x0) (n0 : x0.length = len0) (l0 : len0 ≤ 140737488351232) (y0 : ∀ r ∈ x0, ∀ x ∈ r, x < 256) (s0 : ∀ r ∈ x0, r.length ≤ 140737488351232) (_w1 : (Lit.int .i64 a1).wf = true) :
    Calls Try.prog 6 #[.slice a0 len0 cap0, .int .i64 a1] w fun e w' => e = .returned (.bool true) ∧ Below w.heap.size w w' := by
  have HW := hide w0
  have HN := hide n0
  have HY := hide y0
  have HS := hide s0
  clear w0 n0 y0 s0
  go_enter Try.func6, Try.ntmps6
  go_wp2_with fail
  go_loopw [5, 6] (fun n i wr => ∃ j t : Nat, j ≤ len0 ∧ n = .int .i64 (t : Int) ∧ i = .int .i64 (j : Int) ∧ w = wr ∧ Hid (t = totR (x0.take j)) ∧ t ≤ 140737488371362) (fun _ i _ => len0 - (intOf i).toNat)
  case atStart => exact ⟨0, 0, Nat.zero_le _, rfl, rfl, rfl, rfl, by omega⟩
  case round =>
    obtain ⟨j, t, hj, rfl, rfl, rfl, HT, htb⟩ := hrel
    by_cases hgo : j < len0 ∧ t ≤ 20000
    · obtain ⟨hlt, h8⟩ := hgo
      obtain ⟨b, off, A', c, rfl, q, _, _, _⟩ := HW.out.at_ j (by rw [HN.out]; exact hlt)
      have hl := HS.out _ (getD_mem (xss := x0) (j := j) (by rw [HN.out]; exact hlt))
      have hst := totR_step x0 j (by rw [HN.out]; exact hlt)
      rw [← HT.out] at hst
      obtain ⟨m, hm⟩ : ∃ m, m = (x0.getD j []).length := ⟨_, rfl⟩
      rw [← hm] at q hl hst
      have HST := hide hst
      clear hst hm
      go_wp2_with fail
      go_roundw
      case rel => exact ⟨j + 1, t + 10 + m, by omega, by go_num, by go_num, trivial, HST.out.symm, by omega⟩
      case measure => simp [intOf]; omega
    · by_cases hbig : 20000 < t
      · have h8 : ¬ (t : Int) ≤ 20000 := by omega
        have hend : ¬ ((j : Int) < (len0 : Int)) ∨ ((j : Int) < (len0 : Int)) := by omega
        clear hgo
        rcases hend with hltz | hltz
        all_goals
          go_wp2_with fail
          go_ret
          exact ⟨rfl, Below.refl _ _⟩
      · have hjN : j = len0 := by omega
        subst hjN
        have TA : Hid (totR x0 ≤ 20000) := by
          have := HT.out
          rw [← HN.out, List.take_length] at this
          unfold Hid
          omega
        have hj2000 : j ≤ 2000 := by have := totR_len x0; have := TA.out; have := HN.out; omega
        have h8 : ¬ 20000 < t := hbig
        clear hgo HT htb
        go_wp2_with fail
        refine (new_any 1048576 w (by decide)).mono ?_
        rintro e w1 ⟨d, F1, rfl, d1, u1, k1⟩
        have D1 := hide d1
        have K1 := hide k1
        have U1 := hide u1
        clear d1 u1 k1
        go_wp2_with fail
        refine (run_open (B := w.heap.size) ⟨#[119]⟩ D1.out U1.out K1.out.size (by decide) (by decide)).mono ?_
        rintro e w2 ⟨l, rfl, h2, k2⟩
        have h2 : Run w.heap.size w2 d l 1048576 ⟨#[119]⟩ ⟨[], 1, []⟩ [] := by
          rw [open_empty] at h2
          exact h2
        have H2 := hide h2
        have K2 := hide (K1.out.trans k2)
        clear h2 k2
        go_wp2_with fail
        go_loopw [11] (fun i wr => ∃ (k : Nat) (T : List Tl) (M : LogL) (L : DiskL), k ≤ j ∧ i = .int .i64 (k : Int) ∧ Hid (LogI kw (x0.take k) T M L) ∧ Hid (Run w.heap.size wr d l 1048576 ⟨#[119]⟩ M L) ∧ Hid (Below w.heap.size w wr)) (fun i _ => j - (intOf i).toNat)
        case atStart => exact ⟨0, [], _, _, Nat.zero_le _, rfl, hide (LogI.start kw), H2.out, K2.out⟩
        case round =>
          clear H2 K2
          obtain ⟨k, T, M, L, hk, rfl, HI, HR, K⟩ := hrel
          by_cases hlt : k < j
          · obtain ⟨b, off, A', c, rfl, q, i1, _, m1⟩ := HW.out.at_ k (by rw [HN.out]; exact hlt)
            have hmem := getD_mem (xss := x0) (j := k) (by rw [HN.out]; exact hlt)
            have hl : (x0.getD k []).length ≤ 20000 := by
              have := totR_le x0 _ hmem
              have := TA.out
              omega
            have hbyte := HY.out _ hmem
            have htk : x0.take (k + 1) = x0.take k ++ [x0.getD k []] := by
              rw [List.take_succ_eq_append_getElem (by rw [HN.out]; exact hlt)]
              simp [show k < x0.length by rw [HN.out]; exact hlt]
            obtain ⟨p, hp⟩ : ∃ p, p = x0.getD k [] := ⟨_, rfl⟩
            rw [← hp] at q i1 hl hbyte htk
            obtain ⟨m, hm⟩ : ∃ m, m = p.length := ⟨_, rfl⟩
            rw [← hm] at q i1 hl
            have I1 := hide i1
            have HBY := hide hbyte
            have HP := hide hm
            have HTK := hide htk
            have hklen : Hid ((x0.take k).length = k) := hide (by rw [List.length_take, HN.out]; omega)
            obtain ⟨T', M', L', a1', a2', _⟩ := logI_add HI.out kw_len p (by rw [← HTK.out]; have := totR_take x0 (k + 1); have := TA.out; omega)
            rw [hklen.out] at a1'
            have A1 := hide a1'
            have A2 := hide a2'
            have hbw : b < w.heap.size := cell_lt q
            have q1 := (K.out.cell (p := ⟨b, off + k, none⟩) hbw).trans q
            clear i1 hbyte hm hp hmem htk a1' a2'
            go_wp2_with fail
            refine (run_add HR.out (Below.refl _ _) A' m c p (I1.out.keep K.out) HP.out.symm HBY.out (fun hne g hg => .inl (isM_low I1.out hne g hg))).mono ?_
            rintro e w3 ⟨rfl, h3, k3⟩
            rw [show addL 1048576 (⟨#[119]⟩ : ByteArray).data.toList p M L = _ from A1.out] at h3 ⊢
            have H3 := hide h3
            have K3 := hide (K.out.trans k3)
            clear h3 k3 q1
            go_wp2_with fail
            go_roundw
            case rel => exact ⟨k + 1, T', M', L', by omega, by go_num, by unfold Hid; rw [HTK.out]; exact A2.out, H3.out, K3.out⟩
            case measure => simp [intOf]; omega
          · obtain rfl : k = j := by omega
            have hI := HI.out
            rw [List.take_of_length_le (by rw [HN.out]; exact Nat.le_refl _)] at hI
            have hnx : M.next = k + 1 := by rw [hI.next, HN.out]
            have hand := and_65535 a1
            obtain ⟨mm, hmm⟩ : ∃ m, m = a1 % 65536 := ⟨_, rfl⟩
            rw [← hmm] at hand
            have hm0 : 0 ≤ mm ∧ mm < 65536 := by omega
            obtain ⟨kk, hkk⟩ : ∃ q : Nat, q = mm.toNat % (k + 1) := ⟨_, rfl⟩
            have hkl : kk < k + 1 := by rw [hkk]; exact Nat.mod_lt _ (by omega)
            have hrem : mm.tmod ((k : Int) + 1) = (kk : Int) := by
              rw [Int.tmod_eq_emod_of_nonneg hm0.1, hkk]
              push_cast
              rw [Int.toNat_of_nonneg hm0.1]
            obtain ⟨i, hi⟩ : ∃ i, i = 1 + kk := ⟨_, rfl⟩
            have hi1 : (1 : Int) + (kk : Int) = (i : Int) := by omega
            have hf1 : firstL M = 1 := by
              have := chain_first (d := M.dirty) hI.fit.good.chain
              rw [← hI.fit.segs] at this
              exact this
            obtain ⟨f, f1, f2, f3, f4, f5, f6⟩ := drop_fit (i := i) hI.fit (by omega) (by omega) (by omega)
            have hDR := run_drop HR.out i (by omega) (by omega)
            obtain ⟨M2, hM2⟩ : ∃ M2, M2 = (dropW kw i M L).1 := ⟨_, rfl⟩
            obtain ⟨L2, hL2⟩ : ∃ L2, L2 = (dropW kw i M L).2 := ⟨_, rfl⟩
            rw [← hM2] at f3 f5 f6
            rw [← hL2] at f3
            obtain ⟨T3, g1, g2⟩ := sync_fitJ f3 f1 (by omega) (by rw [f6]; exact hI.fit.nums)
            have hflat : flatS (T3.map segT) = x0.drop (f - 1) := by rw [g1, flat_seg, f4, hI.flat]
            obtain ⟨M3, hM3⟩ : ∃ M3 : LogL, M3 = ⟨M2.segs, M2.next, []⟩ := ⟨_, rfl⟩
            obtain ⟨L3, hL3⟩ : ∃ L3, L3 = syncsL kw M2.dirty L2 := ⟨_, rfl⟩
            rw [← hM3, ← hL3] at g2
            have hn3 : M3.next = k + 1 := by rw [hM3]; show M2.next = k + 1; omega
            have hf3 := firstJ g2
            have hc3 := g2.good.chain
            rw [hn3] at hc3
            have hs3 := g2.segs
            have hget : Hid (∀ z : Int, getE M3 z = if (f : Int) ≤ z ∧ z < ((k + 1 : Nat) : Int) then ((x0.drop (f - 1)).getD (z - f).toNat [], 0) else ([], 7)) := hide (fun z => by
              rw [show M3 = ⟨M3.segs, M3.next, M3.dirty⟩ from rfl, hs3, hn3, getE_chain z hc3, hflat])
            have hop : Hid (f < k + 1 → ∃ dd, (openR kw L3).log = ⟨M3.segs, M3.next, dd⟩) := hide (fun hlt2 => open_fit g2 f1 (by omega) (by omega))
            have HDR := hide hDR
            have HM2 := hide hM2
            have HL2 := hide hL2
            have HM3 := hide hM3
            have HL3 := hide hL3
            have HN3 := hide hn3
            have HF3 := hide hf3
            have hfi : f ≤ i := f2
            have hfk : f ≤ k + 1 := by omega
            clear hI hnx hmm hkk hi hf1 f3 f4 f5 f6 hDR g1 g2 hflat hM2 hL2 hM3 hL3 hn3 hf3 hc3 hs3 f2 HI hlt
            go_wp2_with fail
            refine HDR.out.mono ?_
            rintro e w3 ⟨rfl, h3, k3⟩
            have h3 : Run w.heap.size w3 d l 1048576 ⟨#[119]⟩ M2 L2 := by rw [HM2.out, HL2.out]; exact h3
            have H3 := hide h3
            have K3 := hide (K.out.trans k3)
            clear h3 k3
            go_wp2_with fail
            refine (run_sync H3.out).mono ?_
            rintro e w4 ⟨rfl, h4, k4⟩
            have h4 : Run w.heap.size w4 d l 1048576 ⟨#[119]⟩ M3 L3 := by rw [HM3.out, HL3.out]; exact h4
            have H4 := hide h4
            have K4 := hide (K3.out.trans k4)
            clear h4 k4
            go_wp2_with fail
            refine (run_bounds H4.out).mono ?_
            rintro e w5 ⟨rfl, k5⟩
            rw [HF3.out, HN3.out]
            have H5 := hide (H4.out.below k5)
            have K5 := hide (K4.out.trans (k5.mono K4.out.size))
            have hfi2 : (f : Int) ≤ (i : Int) := by omega
            have hne1 : (((k + 1 : Nat) : Int) != (k : Int) + 1) = false := by simp
            clear k5
            go_wp2_with fail
            refine (run_open2 H5.out ⟨#[119]⟩ (by decide) (by decide)).mono ?_
            rintro e w6 ⟨l2, rfl, h6, k6, r6⟩
            obtain ⟨M4, hM4⟩ : ∃ M4, M4 = (openR kw L3).log := ⟨_, rfl⟩
            have h6 : Run w.heap.size w6 d l2 1048576 ⟨#[119]⟩ M4 (openR kw L3).disk := by rw [hM4]; exact h6
            have hlog := hop.out
            rw [← hM4] at hlog
            have HLOG := hide hlog
            clear hM4 hlog
            have H6 := hide h6
            have R6 := hide r6
            have K6 := hide (K5.out.trans k6)
            clear h6 k6 r6
            go_wp2_with fail
            refine (run_bounds H6.out).mono ?_
            rintro e w7 ⟨rfl, k7⟩
            have R7 := hide (R6.out.below k7)
            have H7 := hide (H6.out.below k7).read
            have K7 := hide (K6.out.trans (k7.mono K6.out.size))
            clear k7
            have hlog := HLOG.out
            have HG4 : Hid (f < k + 1 → ∀ z, getE M4 z = getE M3 z) := hide (fun h9 z => by
              obtain ⟨dd, e9⟩ := hlog h9
              rw [e9]
              rfl)
            by_cases hfk1 : f < k + 1
            · obtain ⟨dd, e9⟩ := hlog hfk1
              have ha4 : firstL M4 = f := by rw [e9]; exact HF3.out
              have hb4 : M4.next = k + 1 := by rw [e9]; exact HN3.out
              rw [ha4, hb4]
              have hne2 : ((f : Int) != (f : Int)) = false := by simp
              have hne3 : (((k : Int) + 1) != ((k : Int) + 1)) = false := by simp
              have hfk3 : (f : Int) < (k : Int) + 1 := by omega
              clear hlog e9 ha4 hb4 hfk1
              go_wp2_with fail
              go_loopw [19] (fun ix wr => ∃ kz : Nat, f ≤ kz + 1 ∧ kz ≤ k ∧ ix = .int .i64 ((kz : Int) + 1) ∧ Hid (Read wr l M3) ∧ Hid (Read wr l2 M4) ∧ Hid (Below w.heap.size w wr)) (fun ix _ => k + 1 - (intOf ix).toNat)
              case atStart => exact ⟨f - 1, by omega, by omega, by congr 1; omega, R7.out, H7.out, K7.out⟩
              case round =>
                clear R7 H7 K7
                obtain ⟨kz, hz1, hz2, rfl, RA, RB, K⟩ := hrel
                by_cases hlt : kz < k
                · have hfk2 : f < k + 1 := by omega
                  have hzl : (kz : Int) + 1 < (k : Int) + 1 := by omega
                  have hzs : (kz : Int) + 1 - 1 = (kz : Int) := by omega
                  obtain ⟨b, off, A', c, rfl, q, i1, _, m1⟩ := HW.out.at_ kz (by rw [HN.out]; exact hlt)
                  have hmem := getD_mem (xss := x0) (j := kz) (by rw [HN.out]; exact hlt)
                  have hl : (x0.getD kz []).length ≤ 20000 := by
                    have := totR_le x0 _ hmem
                    have := TA.out
                    omega
                  have hE : Hid (getE M3 ((kz : Int) + 1) = (x0.getD kz [], 0)) := hide (by
                    rw [hget.out, if_pos ⟨by omega, by omega⟩]
                    have h9 := drop_getD x0 f (kz + 1) (by omega) hz1
                    rw [show ((kz : Int) + 1 - (f : Int)).toNat = kz + 1 - f by omega, h9]
                    rfl)
                  have hE4 : Hid (getE M4 ((kz : Int) + 1) = (x0.getD kz [], 0)) := hide (by rw [HG4.out hfk2, hE.out])
                  obtain ⟨p, hp⟩ : ∃ p, p = x0.getD kz [] := ⟨_, rfl⟩
                  rw [← hp] at q i1 hl hE hE4
                  obtain ⟨m, hm⟩ : ∃ m, m = p.length := ⟨_, rfl⟩
                  rw [← hm] at q i1 hl
                  have I1 := hide i1
                  have HP := hide hm
                  have hbw : b < w.heap.size := cell_lt q
                  have Q := hide q
                  clear i1 hm hp hmem q
                  go_wp2_with fail
                  refine (read_get RA.out ((kz : Int) + 1)).mono ?_
                  rintro e w8 ⟨v8, rfl, o8, k8⟩
                  rw [hE.out] at o8 ⊢
                  obtain ⟨A8, c8, rfl, i8, _, _⟩ := o8.isB.form (n := m) HP.out.symm
                  have I8 := hide i8
                  have RB8 := hide (RB.out.below k8)
                  have RA8 := hide (RA.out.below k8)
                  have K8 := hide (K.out.trans (k8.mono K.out.size))
                  clear o8 i8 k8
                  go_wp2_with fail
                  refine (read_get RB8.out ((kz : Int) + 1)).mono ?_
                  rintro e w9 ⟨v9, rfl, o9, k9⟩
                  rw [hE4.out] at o9 ⊢
                  obtain ⟨A9, c9, rfl, i9, _, _⟩ := o9.isB.form (n := m) HP.out.symm
                  have I9 := hide i9
                  have I89 := hide (I8.out.keep k9)
                  have RB9 := hide (RB8.out.below k9)
                  have RA9 := hide (RA8.out.below k9)
                  have K9 := hide (K8.out.trans (k9.mono K8.out.size))
                  have q9 := (K9.out.cell (p := ⟨b, off + kz, none⟩) hbw).trans Q.out
                  clear o9 i9 k9
                  go_wp2_with fail
                  refine (same_any A8 A' m m c8 c p p w9 I89.out.rd (I1.out.keep K9.out).rd HP.out HP.out (by omega) (by omega)).mono ?_
                  rintro e w10 ⟨rfl, d10, rfl⟩
                  rw [decide_eq_true rfl]
                  have k10 : Below w9.heap.size w9 (w9.drewN d10) := ⟨rfl, rfl, rfl, Nat.le_refl _, fun _ _ => rfl⟩
                  obtain ⟨w10, hw10⟩ : ∃ z, z = w9.drewN d10 := ⟨_, rfl⟩
                  rw [← hw10] at k10 ⊢
                  have I8t := hide (I89.out.keep k10)
                  have I9t := hide (I9.out.keep k10)
                  have RBt := hide (RB9.out.below k10)
                  have RAt' := hide (RA9.out.below k10)
                  have Kt := hide (K9.out.trans (k10.mono K9.out.size))
                  clear k10 hw10 q9
                  go_wp2_with fail
                  refine (same_any A9 A8 m m c9 c8 p p w10 I9t.out.rd I8t.out.rd HP.out HP.out (by omega) (by omega)).mono ?_
                  rintro e w11 ⟨rfl, d11, rfl⟩
                  rw [decide_eq_true rfl]
                  have k11 : Below w10.heap.size w10 (w10.drewN d11) := ⟨rfl, rfl, rfl, Nat.le_refl _, fun _ _ => rfl⟩
                  have RBu := hide (RBt.out.below k11)
                  have RAu := hide (RAt'.out.below k11)
                  have Ku := hide (Kt.out.trans (k11.mono Kt.out.size))
                  clear k11
                  go_wp2_with fail
                  go_roundw
                  case rel => exact ⟨kz + 1, by omega, by omega, by go_num, RAu.out, RBu.out, Ku.out⟩
                  case measure => simp [intOf]; omega
                · have hzl : ¬ (kz : Int) + 1 < (k : Int) + 1 := by omega
                  have hE : Hid (getE M3 ((f : Int) - 1) = ([], 7)) := hide (by rw [hget.out, if_neg (by omega)])
                  have hw1 : IntKind.i64.wrap ((f : Int) - 1) = (f : Int) - 1 := by rw [IntKind.wrap_i64]; omega
                  go_wp2_with fail
                  refine (read_get RA.out ((f : Int) - 1)).mono ?_
                  rintro e w8 ⟨v8, rfl, o8, k8⟩
                  rw [hE.out]
                  have K8 := hide (K.out.trans (k8.mono K.out.size))
                  clear o8 k8
                  go_wp2_with fail
                  refine (known_any _).mono ?_
                  rintro e w9 ⟨rfl, k9⟩
                  have K9 := hide (K8.out.trans (k9.mono K8.out.size))
                  clear k9
                  go_wp2_with fail
                  go_ret
                  exact ⟨rfl, K9.out⟩
            · have hfk3 : ¬ (f : Int) < (k : Int) + 1 := by omega
              clear hlog hfk1
              go_wp2_with fail
              go_loopw [19] (fun ix wr => ∃ kz : Nat, f ≤ kz + 1 ∧ kz ≤ k ∧ ix = .int .i64 ((kz : Int) + 1) ∧ Hid (Read wr l M3) ∧ Hid (Read wr l2 M4) ∧ Hid (Below w.heap.size w wr)) (fun ix _ => k + 1 - (intOf ix).toNat)
              case atStart => exact ⟨f - 1, by omega, by omega, by congr 1; omega, R7.out, H7.out, K7.out⟩
              case round =>
                clear R7 H7 K7
                obtain ⟨kz, hz1, hz2, rfl, RA, RB, K⟩ := hrel
                by_cases hlt : kz < k
                · have hfk2 : f < k + 1 := by omega
                  have hzl : (kz : Int) + 1 < (k : Int) + 1 := by omega
                  have hzs : (kz : Int) + 1 - 1 = (kz : Int) := by omega
                  obtain ⟨b, off, A', c, rfl, q, i1, _, m1⟩ := HW.out.at_ kz (by rw [HN.out]; exact hlt)
                  have hmem := getD_mem (xss := x0) (j := kz) (by rw [HN.out]; exact hlt)
                  have hl : (x0.getD kz []).length ≤ 20000 := by
                    have := totR_le x0 _ hmem
                    have := TA.out
                    omega
                  have hE : Hid (getE M3 ((kz : Int) + 1) = (x0.getD kz [], 0)) := hide (by
                    rw [hget.out, if_pos ⟨by omega, by omega⟩]
                    have h9 := drop_getD x0 f (kz + 1) (by omega) hz1
                    rw [show ((kz : Int) + 1 - (f : Int)).toNat = kz + 1 - f by omega, h9]
                    rfl)
                  have hE4 : Hid (getE M4 ((kz : Int) + 1) = (x0.getD kz [], 0)) := hide (by rw [HG4.out hfk2, hE.out])
                  obtain ⟨p, hp⟩ : ∃ p, p = x0.getD kz [] := ⟨_, rfl⟩
                  rw [← hp] at q i1 hl hE hE4
                  obtain ⟨m, hm⟩ : ∃ m, m = p.length := ⟨_, rfl⟩
                  rw [← hm] at q i1 hl
                  have I1 := hide i1
                  have HP := hide hm
                  have hbw : b < w.heap.size := cell_lt q
                  have Q := hide q
                  clear i1 hm hp hmem q
                  go_wp2_with fail
                  refine (read_get RA.out ((kz : Int) + 1)).mono ?_
                  rintro e w8 ⟨v8, rfl, o8, k8⟩
                  rw [hE.out] at o8 ⊢
                  obtain ⟨A8, c8, rfl, i8, _, _⟩ := o8.isB.form (n := m) HP.out.symm
                  have I8 := hide i8
                  have RB8 := hide (RB.out.below k8)
                  have RA8 := hide (RA.out.below k8)
                  have K8 := hide (K.out.trans (k8.mono K.out.size))
                  clear o8 i8 k8
                  go_wp2_with fail
                  refine (read_get RB8.out ((kz : Int) + 1)).mono ?_
                  rintro e w9 ⟨v9, rfl, o9, k9⟩
                  rw [hE4.out] at o9 ⊢
                  obtain ⟨A9, c9, rfl, i9, _, _⟩ := o9.isB.form (n := m) HP.out.symm
                  have I9 := hide i9
                  have I89 := hide (I8.out.keep k9)
                  have RB9 := hide (RB8.out.below k9)
                  have RA9 := hide (RA8.out.below k9)
                  have K9 := hide (K8.out.trans (k9.mono K8.out.size))
                  have q9 := (K9.out.cell (p := ⟨b, off + kz, none⟩) hbw).trans Q.out
                  clear o9 i9 k9
                  go_wp2_with fail
                  refine (same_any A8 A' m m c8 c p p w9 I89.out.rd (I1.out.keep K9.out).rd HP.out HP.out (by omega) (by omega)).mono ?_
                  rintro e w10 ⟨rfl, d10, rfl⟩
                  rw [decide_eq_true rfl]
                  have k10 : Below w9.heap.size w9 (w9.drewN d10) := ⟨rfl, rfl, rfl, Nat.le_refl _, fun _ _ => rfl⟩
                  obtain ⟨w10, hw10⟩ : ∃ z, z = w9.drewN d10 := ⟨_, rfl⟩
                  rw [← hw10] at k10 ⊢
                  have I8t := hide (I89.out.keep k10)
                  have I9t := hide (I9.out.keep k10)
                  have RBt := hide (RB9.out.below k10)
                  have RAt' := hide (RA9.out.below k10)
                  have Kt := hide (K9.out.trans (k10.mono K9.out.size))
                  clear k10 hw10 q9
                  go_wp2_with fail
                  refine (same_any A9 A8 m m c9 c8 p p w10 I9t.out.rd I8t.out.rd HP.out HP.out (by omega) (by omega)).mono ?_
                  rintro e w11 ⟨rfl, d11, rfl⟩
                  rw [decide_eq_true rfl]
                  have k11 : Below w10.heap.size w10 (w10.drewN d11) := ⟨rfl, rfl, rfl, Nat.le_refl _, fun _ _ => rfl⟩
                  have RBu := hide (RBt.out.below k11)
                  have RAu := hide (RAt'.out.below k11)
                  have Ku := hide (Kt.out.trans (k11.mono Kt.out.size))
                  clear k11
                  go_wp2_with fail
                  go_roundw
                  case rel => exact ⟨kz + 1, by omega, by omega, by go_num, RAu.out, RBu.out, Ku.out⟩
                  case measure => simp [intOf]; omega
                · have hzl : ¬ (kz : Int) + 1 < (k : Int) + 1 := by omega
                  have hE : Hid (getE M3 ((f : Int) - 1) = ([], 7)) := hide (by rw [hget.out, if_neg (by omega)])
                  have hw1 : IntKind.i64.wrap ((f : Int) - 1) = (f : Int) - 1 := by rw [IntKind.wrap_i64]; omega
                  go_wp2_with fail
                  refine (read_get RA.out ((f : Int) - 1)).mono ?_
                  rintro e w8 ⟨v8, rfl, o8, k8⟩
                  rw [hE.out]
                  have K8 := hide (K.out.trans (k8.mono K.out.size))
                  clear o8 k8
                  go_wp2_with fail
                  refine (known_any _).mono ?_
                  rintro e w9 ⟨rfl, k9⟩
                  have K9 := hide (K8.out.trans (k9.mono K8.out.size))
                  clear k9
                  go_wp2_with fail
                  go_ret
                  exact ⟨rfl, K9.out⟩
end Go.Proofs.Ytaoplofhogenmaa
