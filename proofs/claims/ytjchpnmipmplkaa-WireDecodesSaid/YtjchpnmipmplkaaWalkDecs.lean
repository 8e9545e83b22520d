/- The walk of the law WireDecodes: it returns true for any bytes, and writes nothing that was there. No conditions but the widths. -/
import Derived.Test.YtjchpnmipmplkaaSameM
import Derived.Test.YtjchpnmipmplkaaSpoilP
import Derived.Test.YtjchpnmipmplkaaRoomy
import Derived.Test.YtjchpnmipmplkaaRDec4
namespace Go.Proofs.Ytjchpnmipmplkaa
open Go.RowKit
theorem wdecL_le (b : List Nat) (hb : ∀ x ∈ b, x < 256) : (wdecL b).2.1 ≤ b.length ∧ (wdecL b).2.2 ≤ 5 ∧ (wdecL b).1.2.2.2.2.length ≤ 1048576 ∧ ((wdecL b).2.2 = 0 → ∃ p r, decL b = (p, (wdecL b).2.1, 0) ∧ rmsg p = ((wdecL b).1, some r)) := by
  rcases hd : decL b with ⟨p, dn, de⟩
  have hle := decL_le b
  rw [hd] at hle
  by_cases he : de = 0
  · subst he
    rcases hm : rmsg p with ⟨m, _ | r⟩
    · rw [wdecL_bad hd hm]
      refine ⟨Nat.zero_le _, by decide, by simp [zeroM], fun h => by simp at h⟩
    · rw [wdecL_ok hd hm]
      have hinv := rmsg_inv (dec_inv hb hd).2.2.2.2 hm
      have := hinv.1.d
      exact ⟨hle.1, Nat.zero_le _, by show m.2.2.2.2.length ≤ 1048576; omega, fun _ => ⟨p, r, rfl, hm⟩⟩
  · rw [wdecL_err hd he]
    exact ⟨Nat.zero_le _, hle.2, by simp [zeroM], fun h => absurd h he⟩
set_option maxHeartbeats 3200000 in
theorem wireDecodes_core (len cap : Nat) (M : Option Addr) (xs : List Nat) (w : World) (hl : xs.length = len) (hby : ∀ x ∈ xs, x < 256) (hM : IsB w (.slice M len cap) xs) (h3 : len ≤ 4000) (hcap : len ≤ cap ∧ cap ≤ 9223372036854775807) :
    Calls Try.prog 4 #[.slice M len cap] w fun e w' => e = .returned (.bool true) ∧ Below w.heap.size w w' := by
  have HL := hide hl
  have HB := hide hby
  have HM := hide hM
  have hdle := wdecL_le xs hby
  rw [hl] at hdle
  obtain ⟨f, t, k, zs, d, dn, de, hd⟩ : ∃ f t k zs d dn de, wdecL xs = ((f, t, k, zs, d), dn, de) := ⟨_, _, _, _, _, _, _, rfl⟩
  rw [hd] at hdle
  obtain ⟨hn1, hn2, hd3, _⟩ := hdle
  simp only at hn1 hn2 hd3
  obtain ⟨zl, hzl⟩ : ∃ zl, zl = zs.length := ⟨_, rfl⟩
  obtain ⟨dl, hdl⟩ : ∃ dl, dl = d.length := ⟨_, rfl⟩
  rw [← hdl] at hd3
  have HD := hide hd
  have HZL := hide hzl
  have HDL := hide hdl
  clear hl hby hM hd hzl hdl
  have e1 : ((dn : Int) != (dn : Int)) = false := by simp
  have e2 : ((de : Int) != (de : Int)) = false := by simp
  go_enter Try.func4, Try.ntmps4
  go_wp2_with fail
  refine (roomy_any M len cap xs w HM.out HL.out (by omega)).mono ?_
  rintro e w1 ⟨A, c, rfl, i1, l1, m1, k1⟩
  have I1 := hide i1
  have i2 := i1.take len (by omega)
  rw [List.take_left' HL.out] at i2
  have I2 := hide i2
  have K1 := hide k1
  clear i1 i2 k1
  go_wp2_with fail
  refine (wdec_any A len c xs w1 I2.out HL.out HB.out (by omega) (by omega) m1).mono ?_
  rintro e w2 ⟨N, D, rfl, iN, pD, k2⟩
  rw [HD.out] at iN pD
  rw [HD.out]
  obtain ⟨A2, c2, rfl, _⟩ := iN.form (n := zl) HZL.out.symm
  obtain ⟨A3, c3, rfl, _⟩ := pD.isB.form (n := dl) HDL.out.symm
  have ka : Below w2.heap.size w2 (w2.alloc (.cells #[.int .i64 f, .int .i64 t, .int .i64 k, .slice A2 zl c2, .slice A3 dl c3] 25)) := (Below.refl _ _).alloc (Nat.le_refl _) _
  have MA := hide (msgAt_new w2 25 f t k (.slice A2 zl c2) (.slice A3 dl c3))
  have IN := hide (iN.keep ka)
  have PD := hide (pD.keep ka)
  have K12 := hide (k2.trans (ka.mono k2.size))
  have K2 := hide (below_step K1.out (k2.trans (ka.mono k2.size)))
  clear iN pD k2 ka
  go_wp2_with fail
  refine (rdec3_any M len cap xs _ (HM.out.keep K2.out) HL.out HB.out (by omega) hcap.1 hcap.2).mono ?_
  rintro e w3 ⟨N, D, rfl, iN, iD, k3⟩
  rw [HD.out] at iN iD
  rw [HD.out]
  obtain ⟨A4, c4, rfl, _⟩ := iN.form (n := zl) HZL.out.symm
  obtain ⟨A5, c5, rfl, _⟩ := iD.form (n := dl) HDL.out.symm
  have ka : Below w3.heap.size w3 (w3.alloc (.cells #[.int .i64 f, .int .i64 t, .int .i64 k, .slice A4 zl c4, .slice A5 dl c5] 25)) := (Below.refl _ _).alloc (Nat.le_refl _) _
  have MB := hide (msgAt_new w3 25 f t k (.slice A4 zl c4) (.slice A5 dl c5))
  have ma3 := MA.out.keep k3
  have IN2 := hide (iN.keep ka)
  have ID2 := hide (iD.keep ka)
  have IN := hide ((IN.out.keep k3).keep ka)
  have PD := hide ((PD.out.keep k3).keep ka)
  have MA := hide ((MA.out.keep k3).keep ka)
  have K13 := hide ((K12.out.trans (k3.mono K12.out.size)).trans (ka.mono (Nat.le_trans K12.out.size k3.size)))
  have K3 := hide (below_step (below_step K2.out k3) ka)
  have hg2 : w2.heap.size < w3.heap.size := cell_lt ma3.c0
  obtain ⟨a0, a1, a2, a3, a4⟩ := ma3
  clear iN iD k3 ka K12 K2
  go_wp2_with fail
  refine (messages_same f t k A2 A4 A3 A5 zl c2 c4 dl c3 c5 zs d _ IN.out IN2.out PD.out.isB ID2.out HDL.out.symm (by omega)).mono ?_
  rintro e w4 ⟨rfl, k4⟩
  obtain ⟨_, _, _, _, b4⟩ := MA.out.keep k4
  have PD4 := hide (PD.out.keep k4)
  have K14 := hide (K13.out.trans (k4.mono K13.out.size))
  have K4 := hide (below_step K3.out k4)
  clear a0 a1 a2 a3 a4 k4
  go_wp2_with fail
  refine (spoilP_any A3 dl c3 d _ w1.heap.size PD4.out HDL.out.symm K14.out.size (by omega)).mono ?_
  rintro e w5 ⟨rfl, k5⟩
  have K15 := hide (K14.out.trans k5)
  have K5 := hide (below_step K1.out K15.out)
  clear k5
  go_wp2_with fail
  refine (stands_any A c M len cap xs w5 (I1.out.keep K15.out) (HM.out.keep K5.out) HL.out (by omega) l1 m1).mono ?_
  rintro e w6 ⟨rfl, d6, rfl⟩
  go_wp2_with fail
  refine (known_any _).mono ?_
  rintro e w7 ⟨rfl, k7⟩
  go_wp2_with fail
  go_ret
  exact ⟨rfl, below_step (below_draw K5.out d6) k7⟩
set_option maxHeartbeats 400000 in
theorem wireDecodes_long (len cap : Nat) (M : Option Addr) (w : World) (h3 : ¬ len ≤ 4000) (_h : len ≤ 9223372036854775807) :
    Calls Try.prog 4 #[.slice M len cap] w fun e w' => e = .returned (.bool true) ∧ Below w.heap.size w w' := by
  go_enter Try.func4, Try.ntmps4
  go_wp2_with fail
  go_ret
  exact ⟨rfl, Below.refl _ _⟩
theorem wireDecodes_walk (a0 : Option Addr) (len0 cap0 : Nat) (z0 : List Int) (w : World) (w0 : IsRow .u8 w a0 len0 cap0 z0) :
    Calls Try.prog 4 #[.slice a0 len0 cap0] w fun e w' => e = .returned (.bool true) ∧ Below w.heap.size w w' := by
  obtain ⟨xs, hl, hby, hM, hm⟩ := w0.isB
  by_cases h3 : len0 ≤ 4000
  · exact wireDecodes_core len0 cap0 a0 xs w hl hby hM h3 hM.caps
  · exact wireDecodes_long len0 cap0 a0 w h3 hm
end Go.Proofs.Ytjchpnmipmplkaa
