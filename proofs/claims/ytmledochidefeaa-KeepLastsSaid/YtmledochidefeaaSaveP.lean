/- The contract of keep.Save. No condition but the widths. -/
import Derived.Test.YtmledochidefeaaStepF
import Derived.Test.YtmledochidefeaaFar
namespace Go.Proofs.Ytmledochidefeaa
open Go.RowKit Go.Maps
/-- The disk behind so many steps. -/
def stL (room : Nat) (k : Str) (p : List Nat) (L : DiskL) : Nat → DiskL
  | 0 => L
  | 1 => (remL (tildeL k) L).1
  | 2 => (draftL room k p L).1
  | 3 => (syncL (tildeL k) (draftL room k p L).1).1
  | _ => (renL (tildeL k) k (syncL (tildeL k) (draftL room k p L).1).1).1
theorem str_empty {s : ByteArray} (h : s.size = 0) : s = ⟨#[]⟩ := by
  obtain ⟨⟨l⟩⟩ := s
  have : l = [] := List.length_eq_zero_iff.1 h
  rw [this]
theorem str_some {s : ByteArray} (h : 1 ≤ s.size) : s.toList.isEmpty = false := by
  rw [ByteArray.toList_eq]
  rcases e : s.data.toList with _ | ⟨x, xs⟩
  · have h2 : s.data.toList.length = s.size := rfl
    rw [e] at h2
    simp at h2
    omega
  · rfl
theorem save_bad (d : Nat) (s : ByteArray) (v : Value) (w : World) (hs : ¬ (1 ≤ s.size ∧ s.size ≤ 63)) (hb : s.size ≤ 1099511627776) :
    Calls Try.prog 13 #[.pointer (some ⟨d, 0, none⟩), .string s, v] w fun e w' => e = .returned (.int .i64 1) ∧ w = w' := by
  by_cases h0 : s.size = 0
  · obtain rfl := str_empty h0
    go_enter Try.func13, Try.ntmps13
    go_wp2_with fail
    go_ret
    exact ⟨rfl, rfl⟩
  · have h1 : 63 < s.size := by omega
    have he := str_some (s := s) (by omega)
    clear hs h0
    go_enter Try.func13, Try.ntmps13
    go_wp2_with fail
    go_ret
    exact ⟨rfl, rfl⟩
theorem save_long (d : Nat) (s : ByteArray) (P : Option Addr) (m cp : Nat) (w : World) (hs : 1 ≤ s.size ∧ s.size ≤ 63) (hm : 1048576 < m) (hl : m ≤ 1099511627776) :
    Calls Try.prog 13 #[.pointer (some ⟨d, 0, none⟩), .string s, .slice P m cp] w fun e w' => e = .returned (.int .i64 5) ∧ w = w' := by
  obtain ⟨h1, h2⟩ := hs
  have he := str_some h1
  go_enter Try.func13, Try.ntmps13
  go_wp2_with fail
  refine (encode_long P m cp w hm (by omega)).mono ?_
  rintro e w1 ⟨rfl, rfl⟩
  go_wp2_with fail
  go_ret
  exact ⟨rfl, rfl⟩
set_option maxRecDepth 100000 in
set_option maxHeartbeats 3200000 in
theorem save_core (F : Nat → Prop) (d room : Nat) (L : DiskL) (s : ByteArray) (P : Option Addr) (m cp : Nat) (p : List Nat) (w : World) (hD : DiskAt w F d room L) (hs : 1 ≤ s.size ∧ s.size ≤ 63) (hP : IsB w (.slice P m cp) p) (hm : p.length = m) (hb : ∀ x ∈ p, x < 256) (hmr : m ≤ 1048576) :
    Calls Try.prog 13 #[.pointer (some ⟨d, 0, none⟩), .string s, .slice P m cp] w fun e w' => e = .returned (.int .i64 ((saveL room s.data.toList p L).2 : Nat)) ∧ ∃ F', DiskAt w' F' d room (saveL room s.data.toList p L).1 ∧ Next F w F' w' := by
  obtain ⟨h1, h2⟩ := hs
  have he := str_some h1
  have HD := hide hD
  have HP := hide hP
  have HM := hide hm
  have HB := hide hb
  have HK : Hid (1 ≤ s.data.toList.length ∧ s.data.toList.length ≤ 63) := hide ⟨h1, h2⟩
  have hRise := hide (hD.facts).1
  clear hD hP hm hb
  go_enter Try.func13, Try.ntmps13
  go_wp2_with fail
  refine (encode_any P m cp p w HP.out HM.out HB.out hmr).mono ?_
  rintro e w1 ⟨r, rfl, o1, k1⟩
  obtain ⟨A, c, rfl, i1, l1, m1⟩ := o1.isB.form (n := 8 + m) (by rw [frame_len, HM.out])
  have I1 := hide i1
  have K1 := hide k1
  have OF1 := hide (off_new o1 HD.out.low)
  clear o1 i1 k1 he
  go_wp2_with fail
  refine (steps_any d s A (8 + m) c w1 (by omega)).mono ?_
  rintro e w2 ⟨g, a, b, cc, ee, rfl, hBx, hFn, hlow, k2⟩
  obtain ⟨t, ht⟩ : ∃ t, t = s ++ ⟨#[126]⟩ := ⟨_, rfl⟩
  have ts : t.size = s.size + 1 := by rw [ht]; exact tilde_size s
  have tl : t.data.toList = tildeL s.data.toList := by rw [ht]; exact tilde_str s
  rw [← ht] at hBx
  have I2 := hide (I1.out.keep k2)
  have D2 := hide ((HD.out.below K1.out).below k2)
  have K2 := hide (below_step K1.out k2)
  have FO : ∀ k, w1.heap.size ≤ k → ¬ F k := fun k hk hf => by have := HD.out.low k hf; have := K1.out.size; omega
  obtain ⟨ua, ub, uc, ue, ug⟩ := hlow
  have na := hide (FO a ua)
  have nb := hide (FO b ub)
  have nc := hide (FO cc uc)
  have ne := hide (FO ee ue)
  have ng := hide (FO g ug)
  have HBX := hide hBx
  have HFN := hide hFn
  have TL := hide tl
  have HT := hide ht
  have OI : Hid (∀ (Z : World) (G : Nat → Prop), Next F w2 G Z → IsB Z (.slice A (8 + m) c) (frameL p)) := hide (fun Z G n => I2.out.turn n.turn OF1.out)
  have LF : Hid ((frameL p).length = 8 + m ∧ ∀ x ∈ frameL p, x < 256) := hide ⟨by rw [frame_len, HM.out], frameL_byte HB.out⟩
  clear k2 ua ub uc ue ug FO hBx hFn ht tl
  go_wp2_with fail
  go_loopw [36] (fun i wr => ∃ (j : Nat) (G : Nat → Prop), j ≤ 4 ∧ i = .int .i64 (j : Int) ∧ (2 ≤ j → (draftL room s.data.toList p L).2 = 0) ∧ Hid (DiskAt wr G d room (stL room s.data.toList p L j)) ∧ Hid (Next F w2 G wr)) (fun i _ => 4 - (intOf i).toNat)
  case atStart => exact ⟨0, F, by omega, rfl, fun h => by omega, D2.out, Next.refl _ _⟩
  case round =>
    obtain ⟨j, G, hj, rfl, hok, hDG, hN⟩ := hrel
    have hj' : j = 0 ∨ j = 1 ∨ j = 2 ∨ j = 3 ∨ j = 4 := by omega
    rcases hj' with rfl | rfl | rfl | rfl | rfl
    · have e0 := (hN.out.far (cell_lt HBX.out.disk) na.out).trans HBX.out.disk
      have e1 := (hN.out.far (cell_lt HBX.out.draft) nb.out).trans HBX.out.draft
      have f0 := (hN.out.far (cell_lt HFN.out.f0) ng.out).trans HFN.out.f0
      have hc := step0_any G d room _ t wr hDG.out (by omega) a b e0 e1
      rw [TL.out] at hc
      have HC := hide hc
      clear e0 e1 hc
      go_wp2_with fail
      refine HC.out.mono ?_
      rintro e w3 ⟨rfl, F3, d3, n3⟩
      have D3 := hide d3
      have N3 := hide (hN.out.trans n3)
      clear d3 n3 f0
      go_wp2_with fail
      go_roundw
      case rel => exact ⟨1, F3, by omega, by go_num, fun h => by omega, D3.out, N3.out⟩
      case measure => simp [intOf]
    · have e0 := (hN.out.far (cell_lt HBX.out.disk) na.out).trans HBX.out.disk
      have e1 := (hN.out.far (cell_lt HBX.out.draft) nb.out).trans HBX.out.draft
      have e2 := (hN.out.far (cell_lt HBX.out.record) nc.out).trans HBX.out.record
      have f0 := (hN.out.far (cell_lt HFN.out.f1) ng.out).trans HFN.out.f1
      have hc := step1_any G d room _ t wr hDG.out (by omega) a b e0 e1 cc A (8 + m) c (frameL p) e2 (OI.out wr G hN.out) LF.out.1 LF.out.2 (by omega)
      rw [TL.out] at hc
      have HC := hide hc
      clear e0 e1 e2 hc
      have hc2 : Calls Try.prog 59 #[.pointer (some ⟨a, 0, none⟩), .pointer (some ⟨b, 0, none⟩), .pointer (some ⟨cc, 0, none⟩)] wr fun e w' => e = .returned (.int .i64 ((draftL room s.data.toList p L).2 : Nat)) ∧ ∃ F', DiskAt w' F' d room (draftL room s.data.toList p L).1 ∧ Next G wr F' w' := HC.out
      have H2 := hide hc2
      clear hc2 HC
      by_cases h0 : (draftL room s.data.toList p L).2 = 0
      · rw [h0] at H2
        have H0 := hide h0
        clear h0
        go_wp2_with fail
        refine H2.out.mono ?_
        rintro e w3 ⟨rfl, F3, d3, n3⟩
        have D3 := hide d3
        have N3 := hide (hN.out.trans n3)
        clear d3 n3 f0
        go_wp2_with fail
        go_roundw
        case rel => exact ⟨2, F3, by omega, by go_num, fun _ => H0.out, D3.out, N3.out⟩
        case measure => simp [intOf]
      · have HE := hide (saveL_err (room := room) (L := L) HK.out (by rw [HM.out]; exact hmr) h0)
        obtain ⟨q, hq⟩ : ∃ q, q = (draftL room s.data.toList p L).2 := ⟨_, rfl⟩
        rw [← hq] at h0 H2 HE
        have hq0 : ((q : Int) == 0) = false := by simp; omega
        clear hq h0
        go_wp2_with fail
        refine H2.out.mono ?_
        rintro e w3 ⟨rfl, F3, d3, n3⟩
        have D3 := hide d3
        have N3 := hide (hN.out.trans n3)
        clear d3 n3 f0
        go_wp2_with fail
        rw [← HT.out]
        refine (remove_any F3 d room _ t w3 D3.out (by omega)).mono ?_
        rintro e w4 ⟨rfl, F4, d4, n4⟩
        rw [TL.out] at d4
        have D4 := hide d4
        have N4 := hide (N3.out.trans n4)
        clear d4 n4
        go_wp2_with fail
        go_ret
        rw [HE.out]
        exact ⟨rfl, F4, D4.out, (Next.of_below F K2.out).trans N4.out⟩
    · have e0 := (hN.out.far (cell_lt HBX.out.disk) na.out).trans HBX.out.disk
      have e1 := (hN.out.far (cell_lt HBX.out.draft) nb.out).trans HBX.out.draft
      have f0 := (hN.out.far (cell_lt HFN.out.f2) ng.out).trans HFN.out.f2
      have hc := step2_any G d room _ t wr hDG.out (by omega) a b e0 e1
      rw [TL.out] at hc
      have HC := hide hc
      clear e0 e1 hc
      have hc2 : Calls Try.prog 60 #[.pointer (some ⟨a, 0, none⟩), .pointer (some ⟨b, 0, none⟩)] wr fun e w' => e = .returned (.int .i64 ((syncL (tildeL s.data.toList) (draftL room s.data.toList p L).1).2 : Nat)) ∧ ∃ F', DiskAt w' F' d room (syncL (tildeL s.data.toList) (draftL room s.data.toList p L).1).1 ∧ Next G wr F' w' := HC.out
      have HO := hide (hok (by omega))
      rw [show (syncL (tildeL s.data.toList) (draftL room s.data.toList p L).1).2 = 0 by rw [sync_zero hRise.out HO.out]] at hc2
      have HC := hide hc2
      clear hc2
      go_wp2_with fail
      refine HC.out.mono ?_
      rintro e w3 ⟨rfl, F3, d3, n3⟩
      have D3 := hide d3
      have N3 := hide (hN.out.trans n3)
      clear d3 n3 f0
      go_wp2_with fail
      go_roundw
      case rel => exact ⟨3, F3, by omega, by go_num, fun _ => HO.out, D3.out, N3.out⟩
      case measure => simp [intOf]
    · have e0 := (hN.out.far (cell_lt HBX.out.disk) na.out).trans HBX.out.disk
      have e1 := (hN.out.far (cell_lt HBX.out.draft) nb.out).trans HBX.out.draft
      have e2 := (hN.out.far (cell_lt HBX.out.name) ne.out).trans HBX.out.name
      have f0 := (hN.out.far (cell_lt HFN.out.f3) ng.out).trans HFN.out.f3
      have hc := step3_any G d room _ t wr hDG.out (by omega) a b e0 e1 ee s (by omega) e2
      rw [TL.out] at hc
      have HC := hide hc
      clear e0 e1 e2 hc
      have hc2 : Calls Try.prog 62 #[.pointer (some ⟨a, 0, none⟩), .pointer (some ⟨b, 0, none⟩), .pointer (some ⟨ee, 0, none⟩)] wr fun e w' => e = .returned (.int .i64 ((renL (tildeL s.data.toList) s.data.toList (syncL (tildeL s.data.toList) (draftL room s.data.toList p L).1).1).2 : Nat)) ∧ ∃ F', DiskAt w' F' d room (renL (tildeL s.data.toList) s.data.toList (syncL (tildeL s.data.toList) (draftL room s.data.toList p L).1).1).1 ∧ Next G wr F' w' := HC.out
      have HO := hide (hok (by omega))
      rw [show (renL (tildeL s.data.toList) s.data.toList (syncL (tildeL s.data.toList) (draftL room s.data.toList p L).1).1).2 = 0 by rw [ren_zero hRise.out ⟨HK.out.1, Nat.le_trans HK.out.2 (by decide)⟩ HO.out]] at hc2
      have HC := hide hc2
      clear hc2
      go_wp2_with fail
      refine HC.out.mono ?_
      rintro e w3 ⟨rfl, F3, d3, n3⟩
      have D3 := hide d3
      have N3 := hide (hN.out.trans n3)
      clear d3 n3 f0
      go_wp2_with fail
      go_roundw
      case rel => exact ⟨4, F3, by omega, by go_num, fun _ => HO.out, D3.out, N3.out⟩
      case measure => simp [intOf]
    · go_wp2_with fail
      go_ret
      rw [saveL_ok HK.out (by rw [HM.out]; exact hmr) (hok (by omega))]
      exact ⟨rfl, G, hDG.out, (Next.of_below F K2.out).trans hN.out⟩
theorem save_any (F : Nat → Prop) (d room : Nat) (L : DiskL) (s : ByteArray) (P : Option Addr) (m cp : Nat) (p : List Nat) (w : World) (hD : DiskAt w F d room L) (hs : s.size ≤ 1099511627776) (hP : IsB w (.slice P m cp) p) (hm : p.length = m) (hb : ∀ x ∈ p, x < 256) (hmr : m ≤ 1099511627776) :
    Calls Try.prog 13 #[.pointer (some ⟨d, 0, none⟩), .string s, .slice P m cp] w fun e w' => e = .returned (.int .i64 ((saveL room s.data.toList p L).2 : Nat)) ∧ ∃ F', DiskAt w' F' d room (saveL room s.data.toList p L).1 ∧ Next F w F' w' := by
  by_cases h1 : 1 ≤ s.size ∧ s.size ≤ 63
  · by_cases h2 : m ≤ 1048576
    · exact save_core F d room L s P m cp p w hD h1 hP hm hb h2
    · rw [saveL_long (k := s.data.toList) h1 (by rw [hm]; omega)]
      refine (save_long d s P m cp w h1 (by omega) hmr).mono ?_
      rintro e w' ⟨rfl, rfl⟩
      exact ⟨rfl, F, hD, Next.refl _ _⟩
  · rw [saveL_bad (k := s.data.toList) h1]
    refine (save_bad d s _ w h1 hs).mono ?_
    rintro e w' ⟨rfl, rfl⟩
    exact ⟨rfl, F, hD, Next.refl _ _⟩
end Go.Proofs.Ytmledochidefeaa
