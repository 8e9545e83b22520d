/- The walk of the law StripReads. No condition. -/
import Derived.Test.YtdbngchbhoanpaaSr20
import Derived.Test.YtdbngchbhoanpaaSr21
import Derived.Test.YtdbngchbhoanpaaSr23
namespace Go.Proofs.Ytdbngchbhoanpaa
open Go.RowKit Go.Maps
attribute [local go_sem] Oper.semAt_some
set_option maxRecDepth 100000 in
set_option maxHeartbeats 3200000 in
theorem stripReads_core (A : Option Addr) (n c : Nat) (b : List Nat) (w : World) (hA : IsB w (.slice A n c) b) (hn : b.length = n) (hb : ∀ x ∈ b, x < 256) :
    Calls Try.prog 4 #[.slice A n c] w fun e w' => e = .returned (.bool true) ∧ Below w.heap.size w w' := by
  by_cases h4 : 3000 < n
  · have h4z : (3000 : Int) < (n : Int) := by omega
    go_enter Try.func4, Try.ntmps4
    go_wp2_with fail
    go_ret
    exact ⟨rfl, Below.refl _ _⟩
  · have h4z : ¬ (3000 : Int) < (n : Int) := by omega
    have HA := hide hA
    have CP := hide (rdix_any A n c b w hA hn hb (by omega))
    have CR := hide (fun (W : World) (h : IsB W (.slice A n c) b) => rrdix_any A n c b W h hn hb (by omega))
    have LB := hide (show b.length ≤ 3000 by omega)
    clear hA hn hb h4
    go_enter Try.func4, Try.ntmps4
    go_wp2_with fail
    refine CP.out.mono ?_
    rintro e w1 ⟨v1, ps, E, rfl, o1, r1, k1⟩
    have hform := ownPs_form o1
    obtain ⟨A1, c1, rfl, _⟩ := hform
    have O1 := hide o1
    have R1 := hide r1
    have K1 := hide k1
    clear o1 r1 k1 CP
    obtain ⟨N, hN⟩ : ∃ N, N = ps.length := ⟨_, rfl⟩
    rw [← hN] at O1 ⊢
    have HN := hide hN
    clear hN
    dsimp only
    go_wp2_with fail
    refine (CR.out w1 (HA.out.keep K1.out)).mono ?_
    rintro e w2 ⟨v2, qs, F, rfl, o2, r2, k2⟩
    have hone := rdIx_once r2 R1.out
    obtain ⟨e1, e2⟩ := hone
    subst e1
    subst e2
    obtain ⟨A2, c2, rfl, _⟩ := ownPs_form o2
    rw [← HN.out] at o2 ⊢
    have P1 := hide (show IsP w2 A1 qs from (show IsP w1 A1 qs by have h9 := O1.out; rw [HN.out] at h9; exact h9.isP).keep k2)
    have P2 := hide (show IsP w2 A2 qs by have h9 := o2; rw [HN.out] at h9; exact h9.isP)
    have K2 := hide (below_step K1.out k2)
    have HNB := hide (show N ≤ 1000000 by
      rw [HN.out]
      rcases r2 with ⟨_, _, h⟩ | ⟨_, h, _⟩ | ⟨_, _, h, _⟩
      · rw [h]; simp
      · have := h.len; omega
      · rw [h]; simp)
    clear o2 r2 k2 O1 K1 CR R1
    dsimp only
    go_wp2_with fail
    refine (places_same A1 A2 N c1 c2 qs w2 P1.out P2.out HN.out.symm (by have := HNB.out; omega)).mono ?_
    rintro e w3 ⟨rfl, k3⟩
    have K3 := hide (below_step K2.out k3)
    clear k3
    dsimp only
    have hee : ((F : Int) == (F : Int)) = true := by simp
    go_wp2_with fail
    refine (known_any _).mono ?_
    rintro e w4 ⟨rfl, k4⟩
    have K4 := hide (below_step K3.out k4)
    clear k4
    dsimp only
    go_wp2_with fail
    go_ret
    exact ⟨rfl, K4.out⟩
theorem stripReads_walk (A : Option Addr) (n c : Nat) (zs : List Int) (w : World) (h : IsRow .u8 w A n c zs) :
    Calls Try.prog 4 #[.slice A n c] w fun e w' => e = .returned (.bool true) ∧ Below w.heap.size w w' := by
  obtain ⟨xs, hl, hby, iD, _⟩ := h.isB
  exact stripReads_core A n c xs w iD hl hby
end Go.Proofs.Ytdbngchbhoanpaa
