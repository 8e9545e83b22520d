/- The walk of the law FrameDecodes: it returns true for any bytes, and writes nothing that was there. No conditions but the widths. -/
import Derived.Test.YtopcjiilcbjimaaSpoil
import Derived.Test.YtopcjiilcbjimaaRoomy
import Derived.Test.YtopcjiilcbjimaaRDec
namespace Go.Proofs.Ytopcjiilcbjimaa
open Go.RowKit
theorem decL_len (b : List Nat) : (decL b).1.length ≤ b.length := by
  unfold decL
  split
  · simp
  · split
    · simp
    · split
      · simp
      · split
        · simp
        · simp only [List.length_take, List.length_drop]; omega
theorem decL_le (b : List Nat) : (decL b).2.1 ≤ b.length ∧ (decL b).2.2 ≤ 5 := by
  unfold decL
  split
  · simp
  · split
    · simp
    · split
      · simp
      · split
        · simp
        · constructor
          · show 8 + val32 b ≤ b.length; omega
          · show 0 ≤ 5; decide
set_option maxHeartbeats 1600000 in
theorem frameDecodes_core (len cap : Nat) (M : Option Addr) (xs : List Nat) (w : World) (hl : xs.length = len) (hby : ∀ x ∈ xs, x < 256) (hM : IsB w (.slice M len cap) xs) (h3 : len ≤ 4000) (hcap : len ≤ cap ∧ cap ≤ 9223372036854775807) :
    Calls Try.prog 4 #[.slice M len cap] w fun e w' => e = .returned (.bool true) ∧ Below w.heap.size w w' := by
  have HL := hide hl
  have HB := hide hby
  have HM := hide hM
  have hdl := decL_len xs
  have hdle := decL_le xs
  rw [hl] at hdl hdle
  obtain ⟨dp, dn, de, hd⟩ : ∃ dp dn de, decL xs = (dp, dn, de) := ⟨_, _, _, rfl⟩
  rw [hd] at hdl hdle
  replace hdl : dp.length ≤ len := hdl
  obtain ⟨hn1, hn2⟩ : dn ≤ len ∧ de ≤ 5 := hdle
  obtain ⟨m, hm⟩ : ∃ m, m = dp.length := ⟨_, rfl⟩
  rw [← hm] at hdl
  have HD := hide hd
  have HMM := hide hm
  clear hl hby hM hd hm
  have e1 : ((dn : Int) != (dn : Int)) = false := by simp
  have e2 : ((de : Int) != (de : Int)) = false := by simp
  go_enter Try.func4, Try.ntmps4
  go_wp2_with fail
  refine (roomy_any M len cap xs w HM.out HL.out (by omega)).mono ?_
  rintro e w1 ⟨A, c, rfl, i1, l1, m1, k1⟩
  have I1 := hide i1
  have i2 := i1.take len (by omega)
  rw [List.take_left' HL.out] at i2
  have I2 := hide i2
  have K1 := hide k1
  clear i1 i2 k1
  go_wp2_with fail
  refine (decode_any A len c xs w1 I2.out HL.out HB.out (by omega) (by omega) m1).mono ?_
  rintro e w2 ⟨s2, rfl, o2, k2⟩
  rw [HD.out] at o2
  rw [HD.out]
  have O2 := hide o2
  have K12 := hide k2
  have K2 := hide (below_step K1.out k2)
  clear o2 k2
  go_wp2_with fail
  refine (rdecode_any M len cap xs w2 (HM.out.keep K2.out) HL.out HB.out (by omega) hcap.1 hcap.2).mono ?_
  rintro e w3 ⟨s3, rfl, o3, k3⟩
  rw [HD.out] at o3
  rw [HD.out]
  have O2 := hide (O2.out.keep k3)
  have K13 := hide (K12.out.trans (k3.mono K12.out.size))
  have K3 := hide (below_step K2.out k3)
  obtain ⟨A3, c3, rfl, i3, _, _⟩ := o3.isB.form (n := m) HMM.out.symm
  obtain ⟨A2, c2, rfl, i2, _, _⟩ := O2.out.isB.form (n := m) HMM.out.symm
  have I3 := hide i3
  have I5 := hide i2
  clear o3 k3 i3 i2 K12 K2
  go_wp2_with fail
  refine (same_any A2 A3 m m c2 c3 _ _ _ I5.out.rd I3.out.rd HMM.out HMM.out (by omega) (by omega)).mono ?_
  rintro e w4 ⟨rfl, d, rfl⟩
  rw [decide_eq_true rfl]
  go_wp2_with fail
  refine (spoil_any A2 m c2 dp _ w1.heap.size (O2.out.drewN d) HMM.out.symm K13.out.size (by omega)).mono ?_
  rintro e w5 ⟨rfl, k5⟩
  have K15 := hide ((below_drewN K13.out d).trans k5)
  have K5 := hide (below_step K1.out K15.out)
  clear k5
  go_wp2_with fail
  refine (stands_any A c M len cap xs w5 (I1.out.keep K15.out) (HM.out.keep K5.out) HL.out (by omega) l1 m1).mono ?_
  rintro e w6 ⟨rfl, d6, rfl⟩
  go_wp2_with fail
  refine (known_any _).mono ?_
  rintro e w7 ⟨rfl, k7⟩
  go_wp2_with fail
  go_ret
  exact ⟨rfl, below_step (below_draw K5.out d6) k7⟩
set_option maxHeartbeats 400000 in
theorem frameDecodes_long (len cap : Nat) (M : Option Addr) (w : World) (h3 : ¬ len ≤ 4000) (_h : len ≤ 9223372036854775807) :
    Calls Try.prog 4 #[.slice M len cap] w fun e w' => e = .returned (.bool true) ∧ Below w.heap.size w w' := by
  go_enter Try.func4, Try.ntmps4
  go_wp2_with fail
  go_ret
  exact ⟨rfl, Below.refl _ _⟩
theorem IsB.caps {w : World} {A : Option Addr} {n c : Nat} {xs : List Nat} (h : IsB w (.slice A n c) xs) : n ≤ c ∧ c ≤ 9223372036854775807 := by
  obtain ⟨_, _, e, _, _, h2, h3⟩ := h
  cases e
  exact ⟨h2, h3⟩
theorem frameDecodes_walk (a0 : Option Addr) (len0 cap0 : Nat) (z0 : List Int) (w : World) (w0 : IsRow .u8 w a0 len0 cap0 z0) :
    Calls Try.prog 4 #[.slice a0 len0 cap0] w fun e w' => e = .returned (.bool true) ∧ Below w.heap.size w w' := by
  obtain ⟨xs, hl, hby, hM, hm⟩ := w0.isB
  by_cases h3 : len0 ≤ 4000
  · exact frameDecodes_core len0 cap0 a0 xs w hl hby hM h3 hM.caps
  · exact frameDecodes_long len0 cap0 a0 w h3 hm
end Go.Proofs.Ytopcjiilcbjimaa
