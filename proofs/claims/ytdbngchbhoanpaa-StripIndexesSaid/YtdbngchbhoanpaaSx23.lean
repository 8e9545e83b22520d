/- The walk of the law StripIndexes. Condition: none but the widths. -/
import Derived.Test.YtdbngchbhoanpaaSx20
import Derived.Test.YtdbngchbhoanpaaSx10
import Derived.Test.YtdbngchbhoanpaaSx21
import Derived.Test.YtdbngchbhoanpaaSx22
import Derived.Test.YtdbngchbhoanpaaSx13
import Derived.OpenShut
namespace Go.Proofs.Ytdbngchbhoanpaa
open Go.RowKit Go.Maps
attribute [local go_sem] Oper.semAt_some
theorem fdE_plc {ps : List Plc} {key : Nat} {e : Ending} (h : FdE ps key e) : ∃ P b, e = .returned (.tuple #[.agg #[.int .u64 (P.key : Int), .int .i64 P.at_, .int .i64 P.n, .int .u32 (P.cook : Int), .bool P.dead], .bool b]) ∧ FdA ps key (plcV P) b := by
  obtain ⟨v, b, rfl, h⟩ := h
  rcases h with ⟨i, h1, h2, rfl, rfl⟩ | ⟨h1, rfl, rfl⟩
  · exact ⟨ps.getD i noPlc, true, rfl, .inl ⟨i, h1, h2, rfl, rfl⟩⟩
  · exact ⟨noPlc, false, rfl, .inr ⟨h1, rfl, rfl⟩⟩
theorem plcV_inj {P Q : Plc} (h : plcV P = plcV Q) : P = Q := by
  obtain ⟨a, b, c, d, e⟩ := P
  obtain ⟨a2, b2, c2, d2, e2⟩ := Q
  unfold plcV at h
  simp at h
  obtain ⟨h1, h2, h3, h4, h5⟩ := h
  have g1 : a = a2 := by omega
  have g4 : d = d2 := by omega
  subst g1; subst h2; subst h3; subst g4; subst h5
  rfl
set_option maxRecDepth 100000 in
set_option maxHeartbeats 6400000 in
theorem stripIndexes_core (A : Option Addr) (n c : Nat) (ps : List Plc) (key : Nat) (w : World) (hA : IsP w A ps) (hn : ps.length = n) (hf : ∀ p ∈ ps, p.Fit) (_hk : key < 18446744073709551616) :
    Calls Try.prog 3 #[.slice A n c, .int .u64 (key : Int)] w fun e w' => e = .returned (.bool true) ∧ Below w.heap.size w w' := by
  by_cases h4 : 400 < n
  · have h4z : (400 : Int) < (n : Int) := by omega
    go_enter Try.func3, Try.ntmps3
    go_wp2_with fail
    go_ret
    exact ⟨rfl, Below.refl _ _⟩
  · have h4z : ¬ (400 : Int) < (n : Int) := by omega
    have HA := hide hA
    have HN := hide hn
    have HF := hide hf
    have H4 := hide h4
    clear hA hn hf h4
    obtain ⟨E, hE⟩ : ∃ E, E = ixE ps := ⟨_, rfl⟩
    obtain ⟨L, hL⟩ : ∃ L, L = ixL ps := ⟨_, rfl⟩
    have CP := hide (index_any A n c ps w HA.out HN.out HF.out (by have := H4.out; omega))
    have CR := hide (fun (W : World) (hA : IsP W A ps) => rindex_any A n c ps W hA HN.out HF.out (by have := H4.out; omega))
    rw [← hE, ← hL] at CP CR
    have HE := hide hE
    have HL := hide hL
    clear hE hL
    go_enter Try.func3, Try.ntmps3
    go_wp2_with fail
    refine CP.out.mono ?_
    rintro e w1 ⟨s1, rfl, o1, k1⟩
    obtain ⟨A1, c1, rfl, _⟩ := o1.form
    have O1 := hide o1
    have K1 := hide k1
    clear o1 k1 CP
    obtain ⟨n1, hn1⟩ : ∃ n1, n1 = L.length := ⟨_, rfl⟩
    rw [← hn1] at O1 ⊢
    have HN1 := hide hn1
    clear hn1
    dsimp only
    go_wp2_with fail
    refine (CR.out w1 (HA.out.keep K1.out)).mono ?_
    rintro e w2 ⟨s2, rfl, o2, k2⟩
    obtain ⟨A2, c2, rfl, _⟩ := o2.form
    have O2 := hide o2
    have O1b := hide (O1.out.keep k2)
    have K2 := hide (below_step K1.out k2)
    clear o2 k2 CR O1 K1
    rw [← HN1.out] at O2 ⊢
    dsimp only
    go_wp2_with fail
    refine (same_any A1 A2 n1 n1 c1 c2 L L w2 O1b.out.isB.rd O2.out.isB.rd HN1.out HN1.out (by rw [HN1.out]; exact O2.out.len) (by rw [HN1.out]; exact O2.out.len)).mono ?_
    rw [show decide (L = L) = true from by simp]
    rintro e w3 ⟨rfl, d3, rfl⟩
    have O1c := hide (O1b.out.drewN d3)
    have K3 := hide (below_drewN K2.out d3)
    clear O1b O2 K2
    generalize w2.drewN d3 = W3 at *
    dsimp only
    by_cases hE0 : E = 0
    · have hIX : IxOf L ps := ixOf_of HF.out (by rw [← HE.out]; exact hE0) HL.out.symm
      have HIX := hide hIX
      subst hE0
      clear hIX HE
      have hL9 : n1 ≤ 1000000000 := by
        rw [HN1.out, ← HIX.out.bytes, frame_len]
        have := HIX.out.short
        omega
      have RI := hide (fun (W : World) (h : IsB W (.slice A1 n1 c1) L) => rdix_any A1 n1 c1 L W h HN1.out.symm (by
        intro y hy
        rw [← HIX.out.bytes] at hy
        exact frameL_byte (bodyL_byte ps _) y hy) hL9)
      clear hL9
      go_wp2_with fail
      have hcall := RI.out W3 (O1c.out.isB)
      refine hcall.mono ?_
      clear hcall RI
      rintro e w4 ⟨v4, qs, F, rfl, o4, r4, k4⟩
      obtain ⟨rfl, rfl⟩ := rdIx_once r4 (.inr (.inl ⟨by rw [dec_ix HIX.out], HIX.out, rfl⟩))
      obtain ⟨A4, c4, rfl, _⟩ := ownPs_form o4
      have IP4 := hide o4.isP
      have K4 := hide (below_step K3.out k4)
      clear o4 r4 k4 K3 O1c
      rw [HN.out]
      dsimp only
      have FD := hide (fun (W : World) (h : IsP W A qs) => find_any A n c key qs W h HN.out (by have := H4.out; omega) (rise_ix HIX.out.ix))
      have FR := hide (fun (W : World) (h : IsP W A qs) => rfind_any A n c key qs W h HN.out (by have := H4.out; omega))
      have CZ : Hid (((0 : Nat) : Int) = 0) := hide rfl
      go_wp2_with fail
      refine (FD.out w4 (HA.out.keep K4.out)).mono ?_
      rintro e w5 ⟨h5, k5⟩
      obtain ⟨P, b5, rfl, hP⟩ := fdE_plc h5
      have HP := hide hP
      have IP5 := hide (IP4.out.keep k5)
      have K5 := hide (below_step K4.out k5)
      clear h5 k5 hP IP4 K4 FD
      obtain ⟨pk, pa, pn, pc, pd⟩ := P
      dsimp only
      have bl6 := Blk.new w5 (B := 0) 36 #[.int .u64 (pk : Int), .int .i64 pa, .int .i64 pn, .int .u32 (pc : Int), .bool pd] (Nat.zero_le _)
      have kl6 := below_alloc w5 (.cells #[.int .u64 (pk : Int), .int .i64 pa, .int .i64 pn, .int .u32 (pc : Int), .bool pd] 36)
      have BL6 := hide bl6
      have IP6 := hide (IP5.out.keep kl6)
      have K6 := hide (below_step K5.out kl6)
      clear bl6 kl6 IP5
      go_wp2_with fail
      refine (FR.out _ (HA.out.keep K6.out)).mono ?_
      obtain ⟨z6, hz6⟩ : ∃ z, z = w5.heap.size := ⟨_, rfl⟩
      rw [← hz6] at BL6 ⊢
      clear hz6
      generalize w5.alloc (.cells #[.int .u64 (pk : Int), .int .i64 pa, .int .i64 pn, .int .u32 (pc : Int), .bool pd] 36) = W6 at *
      rintro e w7 ⟨h7, k7⟩
      obtain ⟨Q, b7, rfl, hQ⟩ := fdE_plc h7
      obtain ⟨e1, e2⟩ := fdA_once (rise_ix HIX.out.ix) hQ HP.out
      have e3 := plcV_inj e1
      subst e3
      subst e2
      have BL7 := hide (BL6.out.keep k7)
      have IP7 := hide (IP6.out.keep k7)
      have K7 := hide (below_step K6.out k7)
      clear h7 hQ e1 k7 BL6 IP6 K6 FR
      dsimp only
      have bl8 := Blk.new w7 (B := 0) 36 #[.int .u64 (pk : Int), .int .i64 pa, .int .i64 pn, .int .u32 (pc : Int), .bool pd] (Nat.zero_le _)
      have kl8 := below_alloc w7 (.cells #[.int .u64 (pk : Int), .int .i64 pa, .int .i64 pn, .int .u32 (pc : Int), .bool pd] 36)
      have BN8 := hide bl8
      have BO8 := hide (BL7.out.keep kl8)
      have IP8 := hide (IP7.out.keep kl8)
      have K8 := hide (below_step K7.out kl8)
      clear bl8 kl8 BL7 IP7 K7
      go_wp2_with fail
      obtain ⟨z8, hz8⟩ : ∃ z, z = w7.heap.size := ⟨_, rfl⟩
      rw [← hz8] at BN8 ⊢
      clear hz8
      generalize w7.alloc (.cells #[.int .u64 (pk : Int), .int .i64 pa, .int .i64 pn, .int .u32 (pc : Int), .bool pd] 36) = W8 at *
      refine (places_same A4 A n c4 c qs W8 IP8.out (HA.out.keep K8.out) HN.out (by have := H4.out; omega)).mono ?_
      rintro e w9 ⟨rfl, k9⟩
      have BN9 := hide (BN8.out.keep k9)
      have BO9 := hide (BO8.out.keep k9)
      have K9 := hide (below_step K8.out k9)
      clear k9 BN8 BO8 K8 IP8
      have a0 := BN9.out.cell 0
      have a1 := BN9.out.cell 1
      have a2 := BN9.out.cell 2
      have a3 := BN9.out.cell 3
      have a4 := BN9.out.cell 4
      have b0 := BO9.out.cell 0
      have b1 := BO9.out.cell 1
      have b2 := BO9.out.cell 2
      have b3 := BO9.out.cell 3
      have b4 := BO9.out.cell 4
      dsimp only [List.getElem?_cons_zero, List.getElem?_cons_succ] at a0 a1 a2 a3 a4 b0 b1 b2 b3 b4
      dsimp only
      go_wp2_with fail
      refine (known_any _).mono ?_
      rintro e w10 ⟨rfl, k10⟩
      have K10 := hide (below_step K9.out k10)
      clear k10
      dsimp only
      go_wp2_with fail
      go_ret
      exact ⟨rfl, K10.out⟩
    · have hEz : ((E : Int) != 0) = true := by simp; omega
      clear hE0 HE
      go_wp2_with fail
      refine (known_any _).mono ?_
      rintro e w9 ⟨rfl, k9⟩
      have K9 := hide (below_step K3.out k9)
      clear k9
      dsimp only
      go_wp2_with fail
      go_ret
      exact ⟨rfl, K9.out⟩
theorem stripIndexes_walk (A : Option Addr) (n c : Nat) (ps : List Plc) (a1 : Int) (w : World) (hA : IsP w A ps) (hn : ps.length = n) (hf : ∀ p ∈ ps, p.Fit) (w1 : (Lit.int .u64 a1).wf = true) :
    Calls Try.prog 3 #[.slice A n c, .int .u64 a1] w fun e w' => e = .returned (.bool true) ∧ Below w.heap.size w w' := by
  have b1 := bounds_u64 w1
  obtain ⟨k, rfl⟩ : ∃ k : Nat, a1 = (k : Int) := ⟨a1.toNat, by omega⟩
  exact stripIndexes_core A n c ps k w hA hn hf (by omega)
end Go.Proofs.Ytdbngchbhoanpaa
