/- The walk of the law WireOnce: it returns true for any bytes, and writes nothing that was there. No conditions but the widths. -/
import Derived.Test.YtjchpnmipmplkaaSameM
import Derived.Test.YtjchpnmipmplkaaWDec
namespace Go.Proofs.Ytjchpnmipmplkaa
open Go.RowKit
/-- What is read is written as just these bytes. -/
theorem wdecL_once {b : List Nat} {m : Mess} {n : Nat} (hb : ∀ x ∈ b, x < 256) (h : wdecL b = (m, n, 0)) : ValidM m ∧ (∀ x ∈ m.2.2.2.2, x < 256) ∧ frameL (bodyL m) = b.take n ∧ n ≤ b.length := by
  rcases hd : decL b with ⟨p, dn, de⟩
  by_cases he : de = 0
  · subst he
    rcases hm : rmsg p with ⟨mm, _ | r⟩
    · rw [wdecL_bad hd hm] at h; simp at h
    · rw [wdecL_ok hd hm] at h
      simp only [Prod.mk.injEq, and_true] at h
      obtain ⟨rfl, rfl⟩ := h
      obtain ⟨h1, _, _, h4, h5⟩ := dec_inv hb hd
      obtain ⟨hv, hp, hby⟩ := rmsg_inv h5 hm
      exact ⟨hv, hby, by rw [← hp]; exact h1, h4⟩
  · rw [wdecL_err hd he] at h
    simp only [Prod.mk.injEq] at h
    exact absurd h.2.2 he
theorem wdecL_zero {b : List Nat} {m : Mess} {n e : Nat} (h : wdecL b = (m, n, e)) (he0 : e ≠ 0) : n = 0 := by
  rcases hd : decL b with ⟨p, dn, de⟩
  by_cases he : de = 0
  · subst he
    rcases hm : rmsg p with ⟨mm, _ | r⟩
    · rw [wdecL_bad hd hm] at h
      simp only [Prod.mk.injEq] at h
      exact h.2.1.symm
    · rw [wdecL_ok hd hm] at h
      simp only [Prod.mk.injEq] at h
      exact absurd h.2.2.symm he0
  · rw [wdecL_err hd he] at h
    simp only [Prod.mk.injEq] at h
    exact h.2.1.symm
set_option maxHeartbeats 3200000 in
theorem wireOnce_core (len cap : Nat) (M : Option Addr) (xs : List Nat) (w : World) (hl : xs.length = len) (hby : ∀ x ∈ xs, x < 256) (hM : IsB w (.slice M len cap) xs) (h3 : len ≤ 4000) (hcap : len ≤ cap ∧ cap ≤ 9223372036854775807) :
    Calls Try.prog 6 #[.slice M len cap] w fun e w' => e = .returned (.bool true) ∧ Below w.heap.size w w' := by
  have HL := hide hl
  have HB := hide hby
  have HM := hide hM
  obtain ⟨hcap1, hcap2⟩ := hcap
  obtain ⟨f, t, k, zs, d, dn, de, hd⟩ : ∃ f t k zs d dn de, wdecL xs = ((f, t, k, zs, d), dn, de) := ⟨_, _, _, _, _, _, _, rfl⟩
  obtain ⟨zl, hzl⟩ : ∃ zl, zl = zs.length := ⟨_, rfl⟩
  obtain ⟨dl, hdl⟩ : ∃ dl, dl = d.length := ⟨_, rfl⟩
  have HD := hide hd
  have HZL := hide hzl
  have HDL := hide hdl
  by_cases he : de = 0
  · subst he
    obtain ⟨hv, hbd, hfr, hle⟩ := wdecL_once hby hd
    rw [hl] at hle
    have HV := hide hv
    have HBD := hide hbd
    have HFR := hide hfr
    have HTL := hide (show dn = (xs.take dn).length by rw [List.length_take]; omega)
    clear hl hby hM hd hzl hdl hv hbd hfr
    go_enter Try.func6, Try.ntmps6
    go_wp2_with fail
    refine (wdec_any M len cap xs w HM.out HL.out HB.out (by omega) hcap1 hcap2).mono ?_
    rintro e w2 ⟨N, D, rfl, iN, pD, k2⟩
    rw [HD.out] at iN pD
    rw [HD.out]
    obtain ⟨A2, c2, rfl, _⟩ := iN.form (n := zl) HZL.out.symm
    obtain ⟨A3, c3, rfl, _⟩ := pD.isB.form (n := dl) HDL.out.symm
    have ka : Below w2.heap.size w2 (w2.alloc (.cells #[.int .i64 f, .int .i64 t, .int .i64 k, .slice A2 zl c2, .slice A3 dl c3] 25)) := (Below.refl _ _).alloc (Nat.le_refl _) _
    have IN := hide (iN.keep ka)
    have PD := hide (pD.keep ka).isB
    have K2 := hide (k2.trans (ka.mono k2.size))
    clear iN pD k2 ka
    go_wp2_with fail
    refine (wenc_ok f t k A2 A3 zl c2 dl c3 zs d _ IN.out PD.out HDL.out.symm HBD.out HV.out).mono ?_
    rintro e w3 ⟨s3, rfl, o3, k3⟩
    rw [HFR.out] at o3
    obtain ⟨A5, c5, rfl, i5, _⟩ := o3.isB.form (n := dn) HTL.out.symm
    have I5 := hide i5
    have K3 := hide (below_step K2.out k3)
    clear o3 k3 i5
    have IT := hide ((HM.out.take dn hle).keep K3.out)
    have hdc : (dn : Int) ≤ (cap : Int) := by omega
    go_wp2_with fail
    refine (same_any A5 M dn dn c5 cap _ _ _ I5.out.rd IT.out.rd HTL.out HTL.out (by omega) (by omega)).mono ?_
    rintro e w4 ⟨rfl, d4, rfl⟩
    rw [decide_eq_true rfl]
    go_wp2_with fail
    refine (known_any _).mono ?_
    rintro e w7 ⟨rfl, k7⟩
    go_wp2_with fail
    go_ret
    exact ⟨rfl, below_step (below_draw K3.out d4) k7⟩
  · have hz := wdecL_zero hd he
    subst hz
    have hne : ((de : Int) != 0) = true := by simp; omega
    clear hl hby hM hd hzl hdl he
    go_enter Try.func6, Try.ntmps6
    go_wp2_with fail
    refine (wdec_any M len cap xs w HM.out HL.out HB.out (by omega) hcap1 hcap2).mono ?_
    rintro e w2 ⟨N, D, rfl, iN, pD, k2⟩
    rw [HD.out] at iN pD
    rw [HD.out]
    obtain ⟨A2, c2, rfl, _⟩ := iN.form (n := zl) HZL.out.symm
    obtain ⟨A3, c3, rfl, _⟩ := pD.isB.form (n := dl) HDL.out.symm
    have ka : Below w2.heap.size w2 (w2.alloc (.cells #[.int .i64 f, .int .i64 t, .int .i64 k, .slice A2 zl c2, .slice A3 dl c3] 25)) := (Below.refl _ _).alloc (Nat.le_refl _) _
    have K2 := hide (k2.trans (ka.mono k2.size))
    clear iN pD k2 ka
    go_wp2_with fail
    refine (known_any _).mono ?_
    rintro e w7 ⟨rfl, k7⟩
    go_wp2_with fail
    go_ret
    exact ⟨rfl, below_step K2.out k7⟩
set_option maxHeartbeats 400000 in
theorem wireOnce_long (len cap : Nat) (M : Option Addr) (w : World) (h3 : ¬ len ≤ 4000) (_h : len ≤ 9223372036854775807) :
    Calls Try.prog 6 #[.slice M len cap] w fun e w' => e = .returned (.bool true) ∧ Below w.heap.size w w' := by
  go_enter Try.func6, Try.ntmps6
  go_wp2_with fail
  go_ret
  exact ⟨rfl, Below.refl _ _⟩
theorem wireOnce_walk (a0 : Option Addr) (len0 cap0 : Nat) (z0 : List Int) (w : World) (w0 : IsRow .u8 w a0 len0 cap0 z0) :
    Calls Try.prog 6 #[.slice a0 len0 cap0] w fun e w' => e = .returned (.bool true) ∧ Below w.heap.size w w' := by
  obtain ⟨xs, hl, hby, hM, hm⟩ := w0.isB
  by_cases h3 : len0 ≤ 4000
  · exact wireOnce_core len0 cap0 a0 xs w hl hby hM h3 hM.caps
  · exact wireOnce_long len0 cap0 a0 w h3 hm
end Go.Proofs.Ytjchpnmipmplkaa
