/- The walk of the law FrameScans: it returns true for any bytes, and writes nothing that was there. No conditions but the widths. -/
import Derived.Test.YtopcjiilcbjimaaRScan
import Derived.Test.YtopcjiilcbjimaaSameV
namespace Go.Proofs.Ytopcjiilcbjimaa
open Go.RowKit
theorem scanF_le : ∀ (f : Nat) (b : List Nat), (scanF f b).2.1 ≤ b.length ∧ (scanF f b).2.2 ≤ 5 := by
  intro f
  induction f with
  | zero => intro b; unfold scanF; exact ⟨Nat.zero_le _, Nat.zero_le _⟩
  | succ f ih =>
    intro b
    rw [scanF_step]
    by_cases h : b.length = 0
    · rw [if_pos h]; exact ⟨Nat.zero_le _, Nat.zero_le _⟩
    · rw [if_neg h]
      by_cases e : (decL b).2.2 = 0
      · rw [if_neg (by omega)]
        have h1 := ih (b.drop (8 + val32 b))
        have h2 := (dec_ok e).2
        rw [List.length_drop] at h1
        obtain ⟨v, hv⟩ : ∃ v, v = 8 + val32 b := ⟨_, rfl⟩
        rw [← hv] at h1 h2 ⊢
        generalize scanF f (b.drop v) = r at h1 ⊢
        exact ⟨by show v + r.2.1 ≤ b.length; omega, h1.2⟩
      · rw [if_pos e]
        exact ⟨Nat.zero_le _, dec_small b⟩
set_option maxHeartbeats 1600000 in
theorem frameScans_core (len cap : Nat) (M : Option Addr) (xs : List Nat) (w : World) (hl : xs.length = len) (hby : ∀ x ∈ xs, x < 256) (hM : IsB w (.slice M len cap) xs) (h3 : len ≤ 4000) :
    Calls Try.prog 6 #[.slice M len cap] w fun e w' => e = .returned (.bool true) ∧ Below w.heap.size w w' := by
  have HL := hide hl
  have HB := hide hby
  have HM := hide hM
  have hsl := scanF_le xs.length xs
  have hsd := scan_any
  have hsr := rscan_any
  obtain ⟨acc, hacc⟩ : ∃ acc, acc = (scanL xs).1 := ⟨_, rfl⟩
  obtain ⟨sn, hsn⟩ : ∃ sn, sn = (scanL xs).2.1 := ⟨_, rfl⟩
  obtain ⟨se, hse⟩ : ∃ se, se = (scanL xs).2.2 := ⟨_, rfl⟩
  have hs1 : sn ≤ len := by rw [hsn, ← hl]; exact hsl.1
  have hs2 : se ≤ 5 := by rw [hse]; exact hsl.2
  have HS := hide (And.intro hacc (And.intro hsn hse))
  clear hl hby hM hsl hsd hsr hacc hsn hse
  have e1 : ((sn : Int) == (sn : Int)) = true := by simp
  have e2 : ((se : Int) == (se : Int)) = true := by simp
  go_enter Try.func6, Try.ntmps6
  go_wp2_with fail
  refine (roomy_any M len cap xs w HM.out HL.out (by omega)).mono ?_
  rintro e w1 ⟨A, c, rfl, i1, l1, m1, k1⟩
  have I1 := hide i1
  have i2 := i1.take len (by omega)
  rw [List.take_left' HL.out] at i2
  have I2 := hide i2
  have K1 := hide k1
  clear i1 i2 k1
  go_wp2_with fail
  refine (scan_any A len c xs w1 I2.out HL.out HB.out (by omega)).mono ?_
  rintro e w2 ⟨s2, vs, rfl, o2, q2, k2⟩
  rw [← HS.out.2.1, ← HS.out.2.2]
  rw [← HS.out.1] at q2
  have O2 := hide o2
  have Q2 := hide q2
  have K12 := hide k2
  have K2 := hide (below_step K1.out k2)
  clear o2 q2 k2
  go_wp2_with fail
  refine (rscan_any M len cap xs w2 (HM.out.keep K2.out) HL.out HB.out (by omega)).mono ?_
  rintro e w3 ⟨s3, us, rfl, o3, q3, k3⟩
  rw [← HS.out.2.1, ← HS.out.2.2]
  rw [← HS.out.1] at q3
  have O2 := hide (O2.out.keep k3)
  have Q2 := hide (Q2.out.keep k3)
  have K13 := hide (K12.out.trans (k3.mono K12.out.size))
  have K3 := hide (below_step K2.out k3)
  obtain ⟨m, hm⟩ : ∃ m, m = vs.length := ⟨_, rfl⟩
  obtain ⟨A3, c3, rfl, r3, _⟩ := o3.form (n := m) (by rw [q3.1, ← Q2.out.1, hm])
  obtain ⟨A2, c2, rfl, r2, hm2⟩ := O2.out.form (n := m) hm.symm
  have R3 := hide r3
  have R2 := hide r2
  have Q3 := hide q3
  have HMM := hide hm
  clear o3 q3 k3 r3 r2 K12 K2 hm
  go_wp2_with fail
  refine (rows_any A2 A3 m c2 c3 vs us acc _ R2.out R3.out HMM.out.symm Q2.out.isBs Q3.out.isBs hm2).mono ?_
  rintro e w4 ⟨rfl, d, rfl⟩
  have K14 := hide (below_drewN K13.out d)
  have K4 := hide (below_draw K3.out d)
  obtain ⟨W, hW⟩ : ∃ W, W = w3.drewN d := ⟨_, rfl⟩
  rw [← hW] at K14 K4 ⊢
  clear hW
  go_wp2_with fail
  refine (stands_any A c M len cap xs W (I1.out.keep K14.out) (HM.out.keep K4.out) HL.out (by omega) l1 m1).mono ?_
  rintro e w6 ⟨rfl, d6, rfl⟩
  go_wp2_with fail
  refine (known_any _).mono ?_
  rintro e w7 ⟨rfl, k7⟩
  go_wp2_with fail
  go_ret
  exact ⟨rfl, below_step (below_draw K4.out d6) k7⟩
set_option maxHeartbeats 400000 in
theorem frameScans_long (len cap : Nat) (M : Option Addr) (w : World) (h3 : ¬ len ≤ 4000) (_h : len ≤ 9223372036854775807) :
    Calls Try.prog 6 #[.slice M len cap] w fun e w' => e = .returned (.bool true) ∧ Below w.heap.size w w' := by
  go_enter Try.func6, Try.ntmps6
  go_wp2_with fail
  go_ret
  exact ⟨rfl, Below.refl _ _⟩
theorem frameScans_walk (a0 : Option Addr) (len0 cap0 : Nat) (z0 : List Int) (w : World) (w0 : IsRow .u8 w a0 len0 cap0 z0) :
    Calls Try.prog 6 #[.slice a0 len0 cap0] w fun e w' => e = .returned (.bool true) ∧ Below w.heap.size w w' := by
  obtain ⟨xs, hl, hby, hM, hm⟩ := w0.isB
  by_cases h3 : len0 ≤ 4000
  · exact frameScans_core len0 cap0 a0 xs w hl hby hM h3
  · exact frameScans_long len0 cap0 a0 w h3 hm
end Go.Proofs.Ytopcjiilcbjimaa
