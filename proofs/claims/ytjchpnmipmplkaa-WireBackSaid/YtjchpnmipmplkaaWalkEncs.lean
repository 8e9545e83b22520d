/- The walk of the law WireEncodes: it returns true for any message, and writes nothing that was there. Condition: no row is longer than the form's reach. -/
import Derived.Test.YtjchpnmipmplkaaSameM
import Derived.Test.YtjchpnmipmplkaaREnc
import Derived.Test.YtjchpnmipmplkaaRoomy
import Derived.Test.YtjchpnmipmplkaaMessage
namespace Go.Proofs.Ytjchpnmipmplkaa
open Go.RowKit
/-- What both make of a message: bytes, or the error of a bad argument. -/
theorem enc_both (f t k : Int) (zs : List Int) (d : List Nat) (hz : ∀ z ∈ zs, -9223372036854775808 ≤ z ∧ z < 9223372036854775808) (hby : ∀ x ∈ d, x < 256) (hd : d.length ≤ 4000) :
    ∃ (res : List Nat) (er : Nat), er ≤ 1 ∧ res.length ≤ 1048584 ∧ (er = 1 ∧ res = [] ∨ er = 0 ∧ ∃ f' t' k' : Nat, f = f' ∧ t = t' ∧ k = k' ∧ ValidM (f', t', k', zs, d) ∧ res = frameL (bodyL (f', t', k', zs, d))) ∧
      (∀ (A M : Option Addr) (n c len cap : Nat) (w : World), IsI w (.slice A n c) zs → IsB w (.slice M len cap) d → d.length = len →
        Calls Try.prog 9 #[.agg #[.int .i64 f, .int .i64 t, .int .i64 k, .slice A n c, .slice M len cap]] w fun e w' => ∃ s, e = .returned (.tuple #[s, .int .i64 (er : Int)]) ∧ Own w' w.heap.size s res ∧ Below w.heap.size w w') ∧
      (∀ (A M : Option Addr) (n c len cap : Nat) (w : World), IsI w (.slice A n c) zs → IsB w (.slice M len cap) d → d.length = len →
        Calls Try.prog 10 #[.agg #[.int .i64 f, .int .i64 t, .int .i64 k, .slice A n c, .slice M len cap]] w fun e w' => ∃ s, e = .returned (.tuple #[s, .int .i64 (er : Int)]) ∧ Own w' w.heap.size s res ∧ Below w.heap.size w w') := by
  by_cases h : BadM f t k zs.length
  · refine ⟨[], 1, by decide, by simp, Or.inl ⟨rfl, rfl⟩, ?_, ?_⟩
    · intro A M n c len cap w hN _ _
      rw [hN.len] at h
      refine (wenc_bad f t k A M n c len cap w h).mono ?_
      rintro e w' ⟨rfl, hk⟩
      exact ⟨_, rfl, World.ownsRow_nil _ _ _ _, hk⟩
    · intro A M n c len cap w hN _ _
      rw [hN.len] at h
      refine (renc_bad f t k A M n c len cap w h).mono ?_
      rintro e w' ⟨rfl, hk⟩
      exact ⟨_, rfl, World.ownsRow_nil _ _ _ _, hk⟩
  · obtain ⟨f', t', k', rfl, rfl, rfl, hf, ht, hk, hn⟩ := goodM h
    have hv : ValidM (f', t', k', zs, d) := ⟨hf, ht, hk, hn, hz, by show d.length ≤ 1047552; omega⟩
    have hl := bodyL_len _ hv
    refine ⟨frameL (bodyL (f', t', k', zs, d)), 0, by decide, by rw [frame_len]; omega, Or.inr ⟨rfl, f', t', k', rfl, rfl, rfl, hv, rfl⟩, ?_, ?_⟩
    · intro A M n c len cap w hN hD hl
      exact wenc_ok f' t' k' A M n c len cap zs d w hN hD hl hby hv
    · intro A M n c len cap w hN hD hl
      exact renc_ok f' t' k' A M n c len cap zs d w hN hD hl hby hv
set_option maxHeartbeats 3200000 in
theorem wireEncodes_core (f t k : Int) (A M : Option Addr) (n c len cap : Nat) (zs : List Int) (xs : List Nat) (w : World) (hN : IsI w (.slice A n c) zs) (hz : ∀ z ∈ zs, -9223372036854775808 ≤ z ∧ z < 9223372036854775808) (hM : IsB w (.slice M len cap) xs) (hl : xs.length = len) (hby : ∀ x ∈ xs, x < 256) (h3 : len + n ≤ 4000) :
    Calls Try.prog 3 #[.agg #[.int .i64 f, .int .i64 t, .int .i64 k, .slice A n c, .slice M len cap]] w fun e w' => e = .returned (.bool true) ∧ Below w.heap.size w w' := by
  obtain ⟨res, er, her, hrl, _, henc, hrenc⟩ := enc_both f t k zs xs hz hby (by omega)
  obtain ⟨rl, hrl2⟩ : ∃ rl, rl = res.length := ⟨_, rfl⟩
  rw [← hrl2] at hrl
  have HL := hide hl
  have HB := hide hby
  have k1 : Below w.heap.size w (w.alloc (.cells #[.int .i64 f, .int .i64 t, .int .i64 k, .slice A n c, .slice M len cap] 25)) := (Below.refl _ _).alloc (Nat.le_refl _) _
  have m1 := msgAt_new w 25 f t k (.slice A n c) (.slice M len cap)
  obtain ⟨w1, hw1⟩ : ∃ w1, w1 = w.alloc (.cells #[.int .i64 f, .int .i64 t, .int .i64 k, .slice A n c, .slice M len cap] 25) := ⟨_, rfl⟩
  rw [← hw1] at k1 m1
  have HW := hide hw1
  have IN := hide (hN.keep k1)
  have ID := hide (hM.keep k1)
  have K1 := hide k1
  have M1 := hide m1
  have HENC := hide henc
  have HRENC := hide hrenc
  have HRL := hide hrl2
  have e1 : ((er : Int) == (er : Int)) = true := by simp
  obtain ⟨a0, a1, a2, a3, a4⟩ := m1
  clear hN hM hl hby hz k1 hw1 henc hrenc hrl2
  go_enter Try.func3, Try.ntmps3
  go_wp2_with fail
  rw [← HW.out]
  refine (roomy_any M len cap xs w1 ID.out HL.out (by omega)).mono ?_
  rintro e w2 ⟨A2, c2, rfl, i1, l1, m1, k2⟩
  have i2 := i1.take len (by omega)
  rw [List.take_left' HL.out] at i2
  have ka : Below w2.heap.size w2 (w2.alloc (.cells #[.int .i64 f, .int .i64 t, .int .i64 k, .slice A n c, .slice A2 len c2] 25)) := (Below.refl _ _).alloc (Nat.le_refl _) _
  have M2 := hide ((M1.out.keep k2).keep ka)
  have I1 := hide (i1.keep ka)
  have I2 := hide (i2.keep ka)
  have IN2 := hide ((IN.out.keep k2).keep ka)
  have ID2 := hide ((ID.out.keep k2).keep ka)
  have K2 := hide (below_step (below_step K1.out k2) ka)
  have hl0 : w.heap.size < w2.heap.size := cell_lt (M1.out.keep k2).c0
  obtain ⟨b0, b1, b2, b3, b4⟩ := M1.out.keep k2
  clear i1 i2 ka k2
  go_wp2_with fail
  refine (HENC.out _ _ _ _ _ _ _ IN2.out I2.out HL.out).mono ?_
  rintro e w3 ⟨s3, rfl, o3, k3⟩
  obtain ⟨A3, c3, rfl, i3, _⟩ := o3.isB.form (n := rl) HRL.out.symm
  obtain ⟨d0, d1, d2, d3, d4⟩ := M2.out.keep k3
  have M3 := hide (M2.out.keep k3)
  have I1 := hide (I1.out.keep k3)
  have I3 := hide i3
  have IN3 := hide (IN2.out.keep k3)
  have ID3 := hide (ID2.out.keep k3)
  have K3 := hide (below_step K2.out k3)
  clear o3 k3 i3 a0 a1 a2 a3 a4 b0 b1 b2 b3 b4
  go_wp2_with fail
  refine (HRENC.out _ _ _ _ _ _ _ IN3.out ID3.out HL.out).mono ?_
  rintro e w4 ⟨s4, rfl, o4, k4⟩
  obtain ⟨A4, c4, rfl, i4, _⟩ := o4.isB.form (n := rl) HRL.out.symm
  have d4' := (M3.out.keep k4).c4
  have I1 := hide (I1.out.keep k4)
  have I3 := hide (I3.out.keep k4)
  have I4 := hide i4
  have ID4 := hide (ID3.out.keep k4)
  have K4 := hide (below_step K3.out k4)
  clear o4 k4 i4 d0 d1 d2 d3 d4
  go_wp2_with fail
  refine (same_any A3 A4 rl rl c3 c4 _ _ _ I3.out.rd I4.out.rd HRL.out HRL.out (by omega) (by omega)).mono ?_
  rintro e w5 ⟨rfl, d5, rfl⟩
  rw [decide_eq_true rfl]
  go_wp2_with fail
  refine (stands_any A2 c2 M len cap xs _ (I1.out.drewN d5) (ID4.out.drewN d5) HL.out (by omega) l1 m1).mono ?_
  rintro e w6 ⟨rfl, d6, rfl⟩
  go_wp2_with fail
  refine (known_any _).mono ?_
  rintro e w7 ⟨rfl, k7⟩
  go_wp2_with fail
  go_ret
  exact ⟨rfl, below_step (below_draw K4.out (d5 + d6)) k7⟩
set_option maxHeartbeats 800000 in
theorem wireEncodes_long (f t k : Int) (A M : Option Addr) (n c len cap : Nat) (w : World) (h3 : ¬ len + n ≤ 4000) (_h : len ≤ 140737488351232) (_h1 : n ≤ 140737488351232) :
    Calls Try.prog 3 #[.agg #[.int .i64 f, .int .i64 t, .int .i64 k, .slice A n c, .slice M len cap]] w fun e w' => e = .returned (.bool true) ∧ Below w.heap.size w w' := by
  go_enter Try.func3, Try.ntmps3
  go_wp2_with fail
  go_ret
  exact ⟨rfl, box_below _ _⟩
end Go.Proofs.Ytjchpnmipmplkaa
