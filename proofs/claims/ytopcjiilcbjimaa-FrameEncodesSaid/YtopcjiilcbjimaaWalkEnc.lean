/- The walk of the law FrameEncodes: it returns true for any bytes, and writes nothing that was there. No conditions but the widths. -/
import Derived.Test.YtopcjiilcbjimaaSpoil
import Derived.Test.YtopcjiilcbjimaaRoomy
import Derived.Test.YtopcjiilcbjimaaRFrame
namespace Go.Proofs.Ytopcjiilcbjimaa
open Go.RowKit
theorem frameL_len (p : List Nat) : (frameL p).length = 8 + p.length := by
  unfold frameL
  rw [List.length_append, List.length_append, be32_len, be32_len]
set_option maxHeartbeats 1600000 in
theorem frameEncodes_core (len cap : Nat) (M : Option Addr) (xs : List Nat) (w : World) (hl : xs.length = len) (hby : ∀ x ∈ xs, x < 256) (hM : IsB w (.slice M len cap) xs) (h3 : len ≤ 4000) :
    Calls Try.prog 3 #[.slice M len cap] w fun e w' => e = .returned (.bool true) ∧ Below w.heap.size w w' := by
  have HL := hide hl
  have HB := hide hby
  have HM := hide hM
  clear hl hby hM
  go_enter Try.func3, Try.ntmps3
  go_wp2_with fail
  refine (roomy_any M len cap xs w HM.out HL.out (by omega)).mono ?_
  rintro e w1 ⟨A, c, rfl, i1, l1, m1, k1⟩
  have I1 := hide i1
  have i2 := i1.take len (by omega)
  rw [List.take_left' HL.out] at i2
  have I2 := hide i2
  have K1 := hide k1
  clear i1 i2 k1
  go_wp2_with fail
  refine (encode_any A len c xs w1 I2.out HL.out HB.out (by omega)).mono ?_
  rintro e w2 ⟨s2, rfl, o2, k2⟩
  have O2 := hide o2
  have K12 := hide k2
  have K2 := hide (below_step K1.out k2)
  clear o2 k2
  go_wp2_with fail
  refine (rencode_any M len cap xs w2 (HM.out.keep K2.out) HL.out HB.out (by omega)).mono ?_
  rintro e w3 ⟨s3, rfl, o3, k3⟩
  have O2 := hide (O2.out.keep k3)
  have K13 := hide (K12.out.trans (k3.mono K12.out.size))
  have K3 := hide (below_step K2.out k3)
  obtain ⟨A3, c3, rfl, i3, _, _⟩ := o3.isB.form (n := 8 + len) (by rw [frameL_len, HL.out])
  obtain ⟨A2, c2, rfl, i2, _, _⟩ := O2.out.isB.form (n := 8 + len) (by rw [frameL_len, HL.out])
  have I3 := hide i3
  have I5 := hide i2
  have LF : Hid (8 + len = (frameL xs).length) := by unfold Hid; rw [frameL_len, HL.out]
  clear o3 k3 i3 i2 K12 K2
  go_wp2_with fail
  refine (same_any A2 A3 (8 + len) (8 + len) c2 c3 _ _ _ I5.out.rd I3.out.rd LF.out LF.out (by omega) (by omega)).mono ?_
  rintro e w4 ⟨rfl, d, rfl⟩
  rw [decide_eq_true rfl]
  go_wp2_with fail
  refine (spoil_any A2 (8 + len) c2 (frameL xs) _ w1.heap.size (O2.out.drewN d) LF.out.symm K13.out.size (by omega)).mono ?_
  rintro e w5 ⟨rfl, k5⟩
  have K15 := hide ((below_drewN K13.out d).trans k5)
  have K5 := hide (below_step K1.out K15.out)
  clear k5
  go_wp2_with fail
  refine (stands_any A c M len cap xs w5 (I1.out.keep K15.out) (HM.out.keep K5.out) HL.out (by omega) l1 m1).mono ?_
  rintro e w6 ⟨rfl, d6, rfl⟩
  go_wp2_with fail
  refine (known_any _).mono ?_
  rintro e w7 ⟨rfl, k7⟩
  go_wp2_with fail
  go_ret
  exact ⟨rfl, below_step (below_draw K5.out d6) k7⟩
set_option maxHeartbeats 400000 in
theorem frameEncodes_long (len cap : Nat) (M : Option Addr) (w : World) (h3 : ¬ len ≤ 4000) (_h : len ≤ 9223372036854775807) :
    Calls Try.prog 3 #[.slice M len cap] w fun e w' => e = .returned (.bool true) ∧ Below w.heap.size w w' := by
  go_enter Try.func3, Try.ntmps3
  go_wp2_with fail
  go_ret
  exact ⟨rfl, Below.refl _ _⟩
theorem frameEncodes_walk (a0 : Option Addr) (len0 cap0 : Nat) (z0 : List Int) (w : World) (w0 : IsRow .u8 w a0 len0 cap0 z0) :
    Calls Try.prog 3 #[.slice a0 len0 cap0] w fun e w' => e = .returned (.bool true) ∧ Below w.heap.size w w' := by
  obtain ⟨xs, hl, hby, hM, hm⟩ := w0.isB
  by_cases h3 : len0 ≤ 4000
  · exact frameEncodes_core len0 cap0 a0 xs w hl hby hM h3
  · exact frameEncodes_long len0 cap0 a0 w h3 hm
end Go.Proofs.Ytopcjiilcbjimaa
