/- The walk of the law WalLasts. Condition: at most 2 to the 20 rows on each side. -/
import Derived.Test.YtaoplofhogenmaaW36
import Derived.Test.YtaoplofhogenmaaW7
namespace Go.Proofs.Ytaoplofhogenmaa
open Go.RowKit Go.Maps
set_option maxRecDepth 100000 in
set_option maxHeartbeats 12800000 in
theorem walLasts_walk (a0 : Option Addr) (len0 cap0 : Nat) (x0 : List (List Nat)) (a1 : Option Addr) (len1 cap1 : Nat) (x1 : List (List Nat)) (a2 : Int) (w : World)
    (w0 : IsM w a0 x0) (n0 : x0.length = len0) (l0 : len0 ≤ 1048576) (c0 : a0 = none → cap0 = 0) (y0 : ∀ r ∈ x0, ∀ x ∈ r, x < 256) (s0 : ∀ r ∈ x0, r.length ≤ 1048576)
    (w1 : IsM w a1 x1) (n1 : x1.length = len1) (l1 : len1 ≤ 1048576) (c1 : a1 = none → cap1 = 0) (y1 : ∀ r ∈ x1, ∀ x ∈ r, x < 256) (s1 : ∀ r ∈ x1, r.length ≤ 1048576) (_w2 : (Lit.int .i64 a2).wf = true) :
    Calls Try.prog 3 #[.slice a0 len0 cap0, .slice a1 len1 cap1, .int .i64 a2] w fun e w' => e = .returned (.bool true) ∧ Below w.heap.size w w' := by
  obtain ⟨v0, R0', B0'⟩ := w0
  obtain ⟨v1, R1', B1'⟩ := w1
  have R0 := hide R0'
  have R1 := hide R1'
  have B0 := hide B0'
  have B1 := hide B1'
  have V0 : Hid (v0.length = len0) := hide (by rw [B0'.1, n0])
  have V1 : Hid (v1.length = len1) := hide (by rw [B1'.1, n1])
  have C0 := hide c0
  have C1 := hide c1
  obtain ⟨X, hX⟩ : ∃ X, X = x0 ++ x1 := ⟨_, rfl⟩
  obtain ⟨N, hN⟩ : ∃ N, N = len0 + len1 := ⟨_, rfl⟩
  have HX := hide hX
  have HL := hide hN
  have HN : Hid (X.length = N) := hide (by rw [hX, List.length_append, n0, n1, hN])
  have HN0 : Hid (x0.length + x1.length = N) := hide (by rw [n0, n1, hN])
  have HY : Hid (∀ r ∈ X, ∀ x ∈ r, x < 256) := hide (by
    rw [hX]
    intro r hr
    rcases List.mem_append.1 hr with h | h
    · exact y0 r h
    · exact y1 r h)
  have HS : Hid (∀ r ∈ X, r.length ≤ 1048576) := hide (by
    rw [hX]
    intro r hr
    rcases List.mem_append.1 hr with h | h
    · exact s0 r h
    · exact s1 r h)
  have hNb : N ≤ 2097152 := by omega
  clear R0' R1' B0' B1' n0 n1 y0 y1 s0 s1 c0 c1 hX hN
  go_enter Try.func3, Try.ntmps3
  have ka := below_alloc w (.cells #[] 23)
  have KA := hide ka
  have OA := hide (ownV_empty w)
  clear ka
  go_wp2_with (at_builtin; refine halt ?_)
  refine ⟨?_⟩
  refine wpList_append_vals rfl (.tmp 24) (.tmp 25) rfl w.heap.size _ [] rfl OA.out a0 len0 cap0 v0 rfl V0.out C0.out (R0.out.below KA.out) B0.out.one (by show 0 + len0 ≤ 1099511627776; omega) KA.out.size ?_
  intro s1 u1 o1 k1
  have O1 := hide o1
  have KB := hide (KA.out.trans k1)
  clear o1 k1
  go_wp2_with (at_builtin; refine halt ?_)
  refine ⟨?_⟩
  refine wpList_append_vals rfl (.tmp 26) (.tmp 27) rfl w.heap.size s1 v0 rfl O1.out a1 len1 cap1 v1 rfl V1.out C1.out (R1.out.below KB.out) B1.out.one (by rw [V0.out]; omega) KB.out.size ?_
  intro s2 u o2 k2
  have K0 := hide (KB.out.trans k2)
  obtain ⟨A, c, rfl, hw⟩ := isM_both o2 K0.out B0.out B1.out HN0.out
  rw [← HX.out] at hw
  have HW := hide hw
  clear o2 k2 hw R0 R1 B0 B1 V0 V1 C0 C1 KA OA O1 KB HX HN0
  go_wp2_with fail
  go_loopw [7, 9] (fun n i wr => ∃ j t : Nat, j ≤ N ∧ n = .int .i64 (t : Int) ∧ i = .int .i64 (j : Int) ∧ u = wr ∧ Hid (t = totR (X.take j)) ∧ t ≤ 1100000) (fun _ i _ => N - (intOf i).toNat)
  case atStart => exact ⟨0, 0, Nat.zero_le _, rfl, rfl, rfl, rfl, by omega⟩
  case round =>
    obtain ⟨j, t, hj, rfl, rfl, rfl, HT, htb⟩ := hrel
    by_cases hgo : j < N ∧ t ≤ 20000
    · obtain ⟨hlt, h8⟩ := hgo
      obtain ⟨b, off, A', c', rfl, q, _, _, _⟩ := HW.out.at_ j (by rw [HN.out]; exact hlt)
      have hl := HS.out _ (getD_mem (xss := X) (j := j) (by rw [HN.out]; exact hlt))
      have hst := totR_step X j (by rw [HN.out]; exact hlt)
      rw [← HT.out] at hst
      obtain ⟨m, hm⟩ : ∃ m, m = (X.getD j []).length := ⟨_, rfl⟩
      rw [← hm] at q hl hst
      have HST := hide hst
      clear hst hm
      go_wp2_with fail
      go_roundw
      case rel => exact ⟨j + 1, t + 10 + m, by omega, by go_num, by go_num, trivial, HST.out.symm, by omega⟩
      case measure => simp [intOf]; omega
    · by_cases hbig : 20000 < t
      · have h8 : ¬ (t : Int) ≤ 20000 := by omega
        have hend : ¬ ((j : Int) < (N : Int)) ∨ ((j : Int) < (N : Int)) := by omega
        clear hgo
        rcases hend with hltz | hltz
        all_goals
          go_wp2_with fail
          go_ret
          exact ⟨rfl, K0.out⟩
      · have hjN : j = N := by omega
        subst hjN
        have TA : Hid (totR X ≤ 20000) := by
          have := HT.out
          rw [← HN.out, List.take_length] at this
          unfold Hid
          omega
        have hj2000 : j ≤ 2000 := by have := totR_len X; have := TA.out; have := HN.out; omega
        have h8 : ¬ 20000 < t := hbig
        clear hgo HT htb
        go_wp2_with fail
        refine (new_any 1048576 u (by decide)).mono ?_
        rintro e w1 ⟨d, F1, rfl, d1, u1, k1⟩
        have D1 := hide d1
        have K1 := hide k1
        have U1 := hide u1
        clear d1 u1 k1
        go_wp2_with fail
        refine (run_open (B := u.heap.size) ⟨#[119]⟩ D1.out U1.out K1.out.size (by decide) (by decide)).mono ?_
        rintro e w2 ⟨l, rfl, h2, k2⟩
        have h2 : Run u.heap.size w2 d l 1048576 ⟨#[119]⟩ ⟨[], 1, []⟩ [] := by
          rw [open_empty] at h2
          exact h2
        have H2 := hide h2
        have K2 := hide (K1.out.trans k2)
        clear h2 k2
        go_wp2_with fail
        go_loopw [14] (fun i wr => ∃ (k : Nat) (T : List Tl) (M : LogL) (L : DiskL), k ≤ j ∧ i = .int .i64 (k : Int) ∧ Hid (LogI kw (X.take k) T M L) ∧ Hid (len0 < k → Synced len0 T) ∧ Hid (Run u.heap.size wr d l 1048576 ⟨#[119]⟩ M L) ∧ Hid (Below u.heap.size u wr)) (fun i _ => j - (intOf i).toNat)
        case atStart => exact ⟨0, [], _, _, Nat.zero_le _, rfl, hide (LogI.start kw), hide (fun h => absurd h (by omega)), H2.out, K2.out⟩
        case round =>
          clear H2 K2
          obtain ⟨k, T, M, L, hk, rfl, HI, HC, HR, K⟩ := hrel
          by_cases hlt : k < j
          · by_cases hkl : k = len0
            · have hkeq : ((k : Int) == (len0 : Int)) = true := by simp [hkl]
              have hkn := HI.out.next
              have hSI : Hid (LogI kw (X.take k) (T.map fullT) ⟨M.segs, M.next, []⟩ (syncsL kw M.dirty L)) := hide (logI_sync HI.out (by rw [hkn, List.length_take]; omega))
              have hSC : Hid (Synced len0 (T.map fullT)) := hide (synced_full T len0)
              clear hkn
              obtain ⟨b, off, A', c', rfl, q, i1, _, m1⟩ := HW.out.at_ k (by rw [HN.out]; exact hlt)
              have hmem := getD_mem (xss := X) (j := k) (by rw [HN.out]; exact hlt)
              have hl : (X.getD k []).length ≤ 20000 := by
                have := totR_le X _ hmem
                have := TA.out
                omega
              have hbyte := HY.out _ hmem
              have htk : X.take (k + 1) = X.take k ++ [X.getD k []] := by
                rw [List.take_succ_eq_append_getElem (by rw [HN.out]; exact hlt)]
                simp [show k < X.length by rw [HN.out]; exact hlt]
              obtain ⟨p, hp⟩ : ∃ p, p = X.getD k [] := ⟨_, rfl⟩
              rw [← hp] at q i1 hl hbyte htk
              obtain ⟨m, hm⟩ : ∃ m, m = p.length := ⟨_, rfl⟩
              rw [← hm] at q i1 hl
              have I1 := hide i1
              have HBY := hide hbyte
              have HP := hide hm
              have HTK := hide htk
              have hklen : Hid ((X.take k).length = k) := hide (by rw [List.length_take, HN.out]; omega)
              obtain ⟨T', M', L', a1', a2', a3'⟩ := logI_add hSI.out kw_len p (by rw [← HTK.out]; have := totR_take X (k + 1); have := TA.out; omega)
              rw [hklen.out] at a1'
              have HC' : Hid (len0 < k + 1 → Synced len0 T') := hide (fun h => a3' len0 (by rw [hklen.out]; omega) hSC.out)
              have A1 := hide a1'
              have A2 := hide a2'
              have Q := hide q
              have hbw : b < u.heap.size := cell_lt q
              have hne1 : (((k + 1 : Nat) : Int) != (k : Int) + 1) = false := by simp
              have hne2 : (((k : Int) + 1) != (k : Int) + 1) = false := by simp
              clear i1 hbyte hm hp hmem htk a1' a2' a3' q
              clear hkl
              go_wp2_with fail
              refine (run_sync HR.out).mono ?_
              rintro e w3 ⟨rfl, h3, k3⟩
              have HR3 : Hid (Run u.heap.size w3 d l 1048576 ⟨#[119]⟩ ⟨M.segs, M.next, []⟩ (syncsL kw M.dirty L)) := hide h3
              have K3 := hide (K.out.trans k3)
              clear h3 k3
              have q1 := (K3.out.cell (p := ⟨b, off + k, none⟩) hbw).trans Q.out
              go_wp2_with fail
              refine (run_add HR3.out (Below.refl _ _) A' m c' p (I1.out.keep K3.out) HP.out.symm HBY.out (fun hne g hg => .inl (isM_low I1.out hne g hg))).mono ?_
              rintro e w4 ⟨rfl, h4, k4⟩
              rw [show addL 1048576 (⟨#[119]⟩ : ByteArray).data.toList p ⟨M.segs, M.next, []⟩ (syncsL kw M.dirty L) = _ from A1.out] at h4 ⊢
              have H4 := hide h4
              have K4 := hide (K3.out.trans k4)
              clear h4 k4 q1
              go_wp2_with fail
              go_roundw
              case rel => exact ⟨k + 1, T', M', L', by omega, by go_num, by unfold Hid; rw [HTK.out]; exact A2.out, HC'.out, H4.out, K4.out⟩
              case measure => simp [intOf]; omega
            · have hkeq : ((k : Int) == (len0 : Int)) = false := by simp; omega
              have hkeq2 : ¬ (k : Int) = (len0 : Int) := by omega
              obtain ⟨b, off, A', c', rfl, q, i1, _, m1⟩ := HW.out.at_ k (by rw [HN.out]; exact hlt)
              have hmem := getD_mem (xss := X) (j := k) (by rw [HN.out]; exact hlt)
              have hl : (X.getD k []).length ≤ 20000 := by
                have := totR_le X _ hmem
                have := TA.out
                omega
              have hbyte := HY.out _ hmem
              have htk : X.take (k + 1) = X.take k ++ [X.getD k []] := by
                rw [List.take_succ_eq_append_getElem (by rw [HN.out]; exact hlt)]
                simp [show k < X.length by rw [HN.out]; exact hlt]
              obtain ⟨p, hp⟩ : ∃ p, p = X.getD k [] := ⟨_, rfl⟩
              rw [← hp] at q i1 hl hbyte htk
              obtain ⟨m, hm⟩ : ∃ m, m = p.length := ⟨_, rfl⟩
              rw [← hm] at q i1 hl
              have I1 := hide i1
              have HBY := hide hbyte
              have HP := hide hm
              have HTK := hide htk
              have hklen : Hid ((X.take k).length = k) := hide (by rw [List.length_take, HN.out]; omega)
              obtain ⟨T', M', L', a1', a2', a3'⟩ := logI_add HI.out kw_len p (by rw [← HTK.out]; have := totR_take X (k + 1); have := TA.out; omega)
              rw [hklen.out] at a1'
              have HC' : Hid (len0 < k + 1 → Synced len0 T') := hide (fun h => a3' len0 (by rw [hklen.out]; omega) (HC.out (by omega)))
              have A1 := hide a1'
              have A2 := hide a2'
              have Q := hide q
              have hbw : b < u.heap.size := cell_lt q
              have hne1 : (((k + 1 : Nat) : Int) != (k : Int) + 1) = false := by simp
              have hne2 : (((k : Int) + 1) != (k : Int) + 1) = false := by simp
              clear i1 hbyte hm hp hmem htk a1' a2' a3' q
              clear hkl
              have q1 := (K.out.cell (p := ⟨b, off + k, none⟩) hbw).trans Q.out
              go_wp2_with fail
              refine (run_add HR.out (Below.refl _ _) A' m c' p (I1.out.keep K.out) HP.out.symm HBY.out (fun hne g hg => .inl (isM_low I1.out hne g hg))).mono ?_
              rintro e w4 ⟨rfl, h4, k4⟩
              rw [show addL 1048576 (⟨#[119]⟩ : ByteArray).data.toList p M L = _ from A1.out] at h4 ⊢
              have H4 := hide h4
              have K4 := hide (K.out.trans k4)
              clear h4 k4 q1
              go_wp2_with fail
              go_roundw
              case rel => exact ⟨k + 1, T', M', L', by omega, by go_num, by unfold Hid; rw [HTK.out]; exact A2.out, HC'.out, H4.out, K4.out⟩
              case measure => simp [intOf]; omega
          · obtain rfl : k = j := by omega
            have hI := HI.out
            rw [List.take_of_length_le (by rw [HN.out]; exact Nat.le_refl _)] at hI
            have hnx : M.next = k + 1 := by rw [hI.next, HN.out]
            have hle := HL.out
            by_cases hz : len1 = 0
            · have hzeq : ((len1 : Int) == 0) = true := by simp [hz]
              have hzeq2 : (len1 : Int) = 0 := by omega
              have hJ := logI_sync hI (by omega)
              obtain ⟨M2, hM2⟩ : ∃ M2 : LogL, M2 = ⟨M.segs, M.next, []⟩ := ⟨_, rfl⟩
              obtain ⟨L2, hL2⟩ : ∃ L2, L2 = syncsL kw M.dirty L := ⟨_, rfl⟩
              rw [← hM2, ← hL2] at hJ
              have HM2 := hide hM2
              have HL2 := hide hL2
              have hnx2 : M2.next = k + 1 := by rw [hM2]; exact hnx
              have hkf := kept_fit (c := len0) a2.toNat hJ.fit (by omega) (synced_full T len0) (by rw [hJ.flat, HN.out]; omega)
              clear hM2 hL2
              obtain ⟨qq, S, dd, f1, f2, f3, f4, f5⟩ := hkf
              rw [hJ.flat, HN.out] at f2
              obtain ⟨M5, hM5⟩ : ∃ M5, M5 = (openR kw (crashD a2.toNat L2)).log := ⟨_, rfl⟩
              obtain ⟨nb, hnb⟩ : ∃ nb, nb = qq + 1 := ⟨_, rfl⟩
              have HM5 := hide hM5
              have HN5 : Hid (M5.next = nb) := hide (by rw [hM5, f3, hnb]; exact Nat.add_comm 1 qq)
              have HF5 : Hid (firstL M5 = 1) := hide (by rw [hM5, f3]; exact f4)
              have HG5 : Hid (∀ i, i + 1 < nb → getE M5 ((1 + i : Nat) : Int) = (X.getD i [], 0)) := hide (by rw [hM5, f3, ← hJ.flat]; exact fun i hi => f5 i (by omega))
              have hb1 : ¬ ((nb : Int) < (len0 : Int) + 1) := by omega
              have hb3 : ¬ ((k : Int) + 1 < (nb : Int)) := by omega
              have hq1 : 1 ≤ nb := by omega
              have hq2 : nb ≤ k + 1 := by omega
              clear hM5 f1 f2 f3 f4 f5 hnb
              clear hI hJ hnx hnx2 hz HC HI hle hlt
              go_wp2_with fail
              refine (run_sync HR.out).mono ?_
              rintro e w3 ⟨rfl, h3, k3⟩
              have HR3 : Hid (Run u.heap.size w3 d l 1048576 ⟨#[119]⟩ M2 L2) := hide (by rw [HM2.out, HL2.out]; exact h3)
              have K3 := hide (K.out.trans k3)
              clear h3 k3
              go_wp2_with fail
              refine (run_crash HR3.out a2).mono ?_
              rintro e w6 ⟨rfl, F6, d6, f6, b6, k6⟩
              have D6 := hide d6
              have F6' := hide f6
              have K6 := hide (K3.out.trans k6)
              clear d6 f6 k6
              go_wp2_with fail
              refine (run_open (B := u.heap.size) ⟨#[119]⟩ D6.out F6'.out b6 (by decide) (by decide)).mono ?_
              rintro e w7 ⟨l2, rfl, h7, k7⟩
              have h7 : Run u.heap.size w7 d l2 1048576 ⟨#[119]⟩ M5 (openR kw (crashD a2.toNat L2)).disk := by rw [HM5.out]; exact h7
              have H7 := hide h7
              have K7 := hide (K6.out.trans k7)
              clear h7 k7
              go_wp2_with fail
              refine (run_bounds H7.out).mono ?_
              rintro e w8 ⟨rfl, k8⟩
              rw [HN5.out, HF5.out]
              have R8 := hide (H7.out.below k8).read
              have K8 := hide (K7.out.trans (k8.mono K7.out.size))
              clear k8
              go_wp2_with fail
              go_loopw [21] (fun ix wr => ∃ kz : Nat, kz + 1 ≤ nb ∧ ix = .int .i64 ((kz : Int) + 1) ∧ Hid (Read wr l2 M5) ∧ Hid (Below u.heap.size u wr)) (fun ix _ => nb + 1 - (intOf ix).toNat)
              case atStart => exact ⟨0, hq1, rfl, R8.out, K8.out⟩
              case round =>
                clear R8 K8
                obtain ⟨kz, hz1, rfl, RA, K⟩ := hrel
                by_cases hlt : kz + 1 < nb
                · have hzl : (kz : Int) + 1 < (nb : Int) := by omega
                  have hzs : (kz : Int) + 1 - 1 = (kz : Int) := by omega
                  have hkk : kz < k := by omega
                  obtain ⟨b, off, A', c', rfl, q, i1, _, m1⟩ := HW.out.at_ kz (by rw [HN.out]; exact hkk)
                  have hmem := getD_mem (xss := X) (j := kz) (by rw [HN.out]; exact hkk)
                  have hl : (X.getD kz []).length ≤ 20000 := by
                    have := totR_le X _ hmem
                    have := TA.out
                    omega
                  have hE1 : Hid (getE M5 ((kz : Int) + 1) = (X.getD kz [], 0)) := hide (by
                    have h9 := HG5.out kz hlt
                    rw [show ((1 + kz : Nat) : Int) = (kz : Int) + 1 by omega] at h9
                    exact h9)
                  obtain ⟨p, hp⟩ : ∃ p, p = X.getD kz [] := ⟨_, rfl⟩
                  rw [← hp] at q i1 hl hE1
                  obtain ⟨m, hm⟩ : ∃ m, m = p.length := ⟨_, rfl⟩
                  rw [← hm] at q i1 hl
                  have I1 := hide i1
                  have HP := hide hm
                  have hbw : b < u.heap.size := cell_lt q
                  have Q := hide q
                  clear i1 hm hp hmem q
                  go_wp2_with fail
                  refine (read_get RA.out ((kz : Int) + 1)).mono ?_
                  rintro e w11 ⟨v8, rfl, o8, k8⟩
                  rw [hE1.out] at o8 ⊢
                  obtain ⟨A8, c8, rfl, i8, _, _⟩ := o8.isB.form (n := m) HP.out.symm
                  have I8 := hide i8
                  have RA8 := hide (RA.out.below k8)
                  have K8 := hide (K.out.trans (k8.mono K.out.size))
                  have q9 := (K8.out.cell (p := ⟨b, off + kz, none⟩) hbw).trans Q.out
                  clear o8 i8 k8
                  go_wp2_with fail
                  refine (same_any A8 A' m m c8 c' p p w11 I8.out.rd (I1.out.keep K8.out).rd HP.out HP.out (by omega) (by omega)).mono ?_
                  rintro e w12 ⟨rfl, d12, rfl⟩
                  rw [decide_eq_true rfl]
                  have k12 : Below w11.heap.size w11 (w11.drewN d12) := ⟨rfl, rfl, rfl, Nat.le_refl _, fun _ _ => rfl⟩
                  have RAu := hide (RA8.out.below k12)
                  have Ku := hide (K8.out.trans (k12.mono K8.out.size))
                  clear k12 q9
                  go_wp2_with fail
                  go_roundw
                  case rel => exact ⟨kz + 1, by omega, by go_num, RAu.out, Ku.out⟩
                  case measure => simp [intOf]; omega
                · have hzl : ¬ (kz : Int) + 1 < (nb : Int) := by omega
                  go_wp2_with fail
                  refine (known_any _).mono ?_
                  rintro e w13 ⟨rfl, k13⟩
                  have K13 := hide (K.out.trans (k13.mono K.out.size))
                  clear k13
                  go_wp2_with fail
                  go_ret
                  exact ⟨rfl, K0.out.trans (K13.out.mono K0.out.size)⟩
            · have hzeq : ((len1 : Int) == 0) = false := by simp; omega
              have hzeq2 : ¬ (len1 : Int) = 0 := by omega
              have hJ := hI
              have hkf := kept_fit (c := len0) a2.toNat hJ.fit (by omega) (HC.out (by omega)) (by rw [hJ.flat, HN.out]; omega)
              obtain ⟨qq, S, dd, f1, f2, f3, f4, f5⟩ := hkf
              rw [hJ.flat, HN.out] at f2
              obtain ⟨M5, hM5⟩ : ∃ M5, M5 = (openR kw (crashD a2.toNat L)).log := ⟨_, rfl⟩
              obtain ⟨nb, hnb⟩ : ∃ nb, nb = qq + 1 := ⟨_, rfl⟩
              have HM5 := hide hM5
              have HN5 : Hid (M5.next = nb) := hide (by rw [hM5, f3, hnb]; exact Nat.add_comm 1 qq)
              have HF5 : Hid (firstL M5 = 1) := hide (by rw [hM5, f3]; exact f4)
              have HG5 : Hid (∀ i, i + 1 < nb → getE M5 ((1 + i : Nat) : Int) = (X.getD i [], 0)) := hide (by rw [hM5, f3, ← hJ.flat]; exact fun i hi => f5 i (by omega))
              have hb1 : ¬ ((nb : Int) < (len0 : Int) + 1) := by omega
              have hb3 : ¬ ((k : Int) + 1 < (nb : Int)) := by omega
              have hq1 : 1 ≤ nb := by omega
              have hq2 : nb ≤ k + 1 := by omega
              clear hM5 f1 f2 f3 f4 f5 hnb
              clear hI hJ hnx hz HC HI hle hlt
              go_wp2_with fail
              refine (run_crash HR.out a2).mono ?_
              rintro e w6 ⟨rfl, F6, d6, f6, b6, k6⟩
              have D6 := hide d6
              have F6' := hide f6
              have K6 := hide (K.out.trans k6)
              clear d6 f6 k6
              go_wp2_with fail
              refine (run_open (B := u.heap.size) ⟨#[119]⟩ D6.out F6'.out b6 (by decide) (by decide)).mono ?_
              rintro e w7 ⟨l2, rfl, h7, k7⟩
              have h7 : Run u.heap.size w7 d l2 1048576 ⟨#[119]⟩ M5 (openR kw (crashD a2.toNat L)).disk := by rw [HM5.out]; exact h7
              have H7 := hide h7
              have K7 := hide (K6.out.trans k7)
              clear h7 k7
              go_wp2_with fail
              refine (run_bounds H7.out).mono ?_
              rintro e w8 ⟨rfl, k8⟩
              rw [HN5.out, HF5.out]
              have R8 := hide (H7.out.below k8).read
              have K8 := hide (K7.out.trans (k8.mono K7.out.size))
              clear k8
              go_wp2_with fail
              go_loopw [21] (fun ix wr => ∃ kz : Nat, kz + 1 ≤ nb ∧ ix = .int .i64 ((kz : Int) + 1) ∧ Hid (Read wr l2 M5) ∧ Hid (Below u.heap.size u wr)) (fun ix _ => nb + 1 - (intOf ix).toNat)
              case atStart => exact ⟨0, hq1, rfl, R8.out, K8.out⟩
              case round =>
                clear R8 K8
                obtain ⟨kz, hz1, rfl, RA, K⟩ := hrel
                by_cases hlt : kz + 1 < nb
                · have hzl : (kz : Int) + 1 < (nb : Int) := by omega
                  have hzs : (kz : Int) + 1 - 1 = (kz : Int) := by omega
                  have hkk : kz < k := by omega
                  obtain ⟨b, off, A', c', rfl, q, i1, _, m1⟩ := HW.out.at_ kz (by rw [HN.out]; exact hkk)
                  have hmem := getD_mem (xss := X) (j := kz) (by rw [HN.out]; exact hkk)
                  have hl : (X.getD kz []).length ≤ 20000 := by
                    have := totR_le X _ hmem
                    have := TA.out
                    omega
                  have hE1 : Hid (getE M5 ((kz : Int) + 1) = (X.getD kz [], 0)) := hide (by
                    have h9 := HG5.out kz hlt
                    rw [show ((1 + kz : Nat) : Int) = (kz : Int) + 1 by omega] at h9
                    exact h9)
                  obtain ⟨p, hp⟩ : ∃ p, p = X.getD kz [] := ⟨_, rfl⟩
                  rw [← hp] at q i1 hl hE1
                  obtain ⟨m, hm⟩ : ∃ m, m = p.length := ⟨_, rfl⟩
                  rw [← hm] at q i1 hl
                  have I1 := hide i1
                  have HP := hide hm
                  have hbw : b < u.heap.size := cell_lt q
                  have Q := hide q
                  clear i1 hm hp hmem q
                  go_wp2_with fail
                  refine (read_get RA.out ((kz : Int) + 1)).mono ?_
                  rintro e w11 ⟨v8, rfl, o8, k8⟩
                  rw [hE1.out] at o8 ⊢
                  obtain ⟨A8, c8, rfl, i8, _, _⟩ := o8.isB.form (n := m) HP.out.symm
                  have I8 := hide i8
                  have RA8 := hide (RA.out.below k8)
                  have K8 := hide (K.out.trans (k8.mono K.out.size))
                  have q9 := (K8.out.cell (p := ⟨b, off + kz, none⟩) hbw).trans Q.out
                  clear o8 i8 k8
                  go_wp2_with fail
                  refine (same_any A8 A' m m c8 c' p p w11 I8.out.rd (I1.out.keep K8.out).rd HP.out HP.out (by omega) (by omega)).mono ?_
                  rintro e w12 ⟨rfl, d12, rfl⟩
                  rw [decide_eq_true rfl]
                  have k12 : Below w11.heap.size w11 (w11.drewN d12) := ⟨rfl, rfl, rfl, Nat.le_refl _, fun _ _ => rfl⟩
                  have RAu := hide (RA8.out.below k12)
                  have Ku := hide (K8.out.trans (k12.mono K8.out.size))
                  clear k12 q9
                  go_wp2_with fail
                  go_roundw
                  case rel => exact ⟨kz + 1, by omega, by go_num, RAu.out, Ku.out⟩
                  case measure => simp [intOf]; omega
                · have hzl : ¬ (kz : Int) + 1 < (nb : Int) := by omega
                  go_wp2_with fail
                  refine (known_any _).mono ?_
                  rintro e w13 ⟨rfl, k13⟩
                  have K13 := hide (K.out.trans (k13.mono K.out.size))
                  clear k13
                  go_wp2_with fail
                  go_ret
                  exact ⟨rfl, K0.out.trans (K13.out.mono K0.out.size)⟩
end Go.Proofs.Ytaoplofhogenmaa
