/- The walk of the law BitsPacks: it returns true for any truths, and writes nothing that was there. No conditions of ours. -/
import Derived.Test.YtndkdfbcbofnkaaKnown
import Derived.Test.YtndkdfbcbofnkaaRPack
import Derived.Deep.Slices
import Derived.ProofKit
namespace Go.Proofs.Ytndkdfbcbofnkaa
open Go.RowKit
set_option maxHeartbeats 1600000 in
theorem bitsPacks_core (len cap : Nat) (M : Option Addr) (l : List Bool) (w : World) (hl : l.length = len) (hM : BRd w M l) (h3 : len ≤ 3000) :
    Calls Try.prog 10 #[.slice M len cap] w fun e w' => e = .returned (.bool true) ∧ Below w.heap.size w w' := by
  have hu := unp_pack l
  rw [hl] at hu
  obtain ⟨m, hm⟩ : ∃ m, m = need len := ⟨_, rfl⟩
  rw [← hm] at hu
  have hm2 : (((len : Int) + 7) / 8) = (m : Int) := by rw [hm, need_eq]; omega
  have hm3 : m ≤ 3000 := by rw [hm, need_eq]; omega
  obtain ⟨P, hP⟩ : ∃ P, P = packP l len m := ⟨_, rfl⟩
  have hPl : P.length = m := by rw [hP]; exact packP_len _ _ _
  have hPb : ∀ x ∈ P, x < 256 := by rw [hP]; exact packP_byte _ _ _
  rw [← hP] at hu
  have HU := hide hu
  have HL := hide hl
  have HM := hide hM
  have HMM := hide hm
  have HPP := hide hP
  have HPL := hide hPl
  have HPB := hide hPb
  have HM2 := hide hm2
  clear hu hl hM hm hP hPl hPb hm2
  go_enter Try.func10, Try.ntmps10
  go_wp2_with fail
  refine (pack_any M len cap l w HM.out HL.out h3).mono ?_
  rintro e w1 ⟨v1, rfl, o1, k1⟩
  rw [← HMM.out, ← HPP.out] at o1
  obtain ⟨A1, c1, rfl, i1, l1, m1⟩ := o1.isB.form HPL.out
  go_wp2_with fail
  refine (rpack_any M len cap l w1 (HM.out.below k1) HL.out h3).mono ?_
  rintro e w2 ⟨v2, rfl, o2, k2⟩
  rw [← HMM.out, ← HPP.out] at o2
  obtain ⟨A2, c2, rfl, i2, l2, m2⟩ := o2.isB.form HPL.out
  have i1 := i1.keep k2
  have K2 := below_step k1 k2
  go_wp2_with fail
  refine (same_any A1 A2 m m c1 c2 P P _ i1.rd i2.rd HPL.out.symm HPL.out.symm (by omega) (by omega)).mono ?_
  rintro e w3 ⟨rfl, d, rfl⟩
  have i1 := i1.drewN d
  have K3 := below_draw K2 d
  have hm2 := HM2.out
  clear o1 o2 i2 k1 k2 K2
  go_wp2_with fail
  refine (unpack_any A1 m c1 len P _ i1.rd HPL.out HPB.out (by omega) hm3 0 l HU.out).mono ?_
  rintro e w4 ⟨v4, rfl, o4, k4⟩
  have K4 := below_step K3 k4
  obtain ⟨A4, c4, rfl, r4, _⟩ := o4.form HL.out
  have R4 := hide r4
  have R1 := hide (HM.out.below K4)
  clear o4 r4 k4 K3 i1 hm2
  go_wp2
  go_loopw [6] (fun i wr => ∃ k d : Nat, k ≤ len ∧ i = .int .i64 (k : Int) ∧ wr = w4.drewN d) (fun i _ => len - (intOf i).toNat)
  case atStart => exact ⟨0, 0, Nat.zero_le _, rfl, rfl⟩
  case round =>
    obtain ⟨k, d, hk, rfl, rfl⟩ := hrel
    by_cases hlt : k < len
    · obtain ⟨b1, f1, rfl, cells1⟩ := R1.out (by intro e; rw [← HL.out, e] at hlt; simp at hlt)
      obtain ⟨b2, f2, rfl, cells2⟩ := R4.out (by intro e; rw [← HL.out, e] at hlt; simp at hlt)
      have x1 := cells1 k (by rw [HL.out]; exact hlt)
      have x2 := cells2 k (by rw [HL.out]; exact hlt)
      obtain ⟨t, ht⟩ : ∃ t, t = l.getD k false := ⟨_, rfl⟩
      rw [← ht] at x1 x2
      clear ht cells1 cells2
      go_wp2
      go_quiet (fail)
      go_wp2
      go_roundw
      case rel => exact ⟨k + 1, _, by omega, by go_num, rfl⟩
      case measure => simp [intOf]; omega
    · go_wp2_with fail
      refine (known_any _).mono ?_
      rintro e w5 ⟨rfl, k5⟩
      go_wp2_with fail
      go_ret
      exact ⟨rfl, below_step (below_draw K4 d) k5⟩
set_option maxHeartbeats 400000 in
theorem bitsPacks_long (len cap : Nat) (M : Option Addr) (w : World) (h3 : ¬ len ≤ 3000) (_h : len ≤ 9223372036854775807) :
    Calls Try.prog 10 #[.slice M len cap] w fun e w' => e = .returned (.bool true) ∧ Below w.heap.size w w' := by
  go_enter Try.func10, Try.ntmps10
  go_wp2_with fail
  go_ret
  exact ⟨rfl, Below.refl _ _⟩
/-- What the walk is told of truths that came in. -/
def BRow (w : World) (a : Option Addr) (len : Nat) (l : List Bool) : Prop := l.length = len ∧ BRd w a l ∧ len ≤ 9223372036854775807
theorem bitsPacks_walk (a0 : Option Addr) (len0 cap0 : Nat) (l : List Bool) (w : World) (w0 : BRow w a0 len0 l) :
    Calls Try.prog 10 #[.slice a0 len0 cap0] w fun e w' => e = .returned (.bool true) ∧ Below w.heap.size w w' := by
  obtain ⟨hl, hM, hm⟩ := w0
  by_cases h3 : len0 ≤ 3000
  · exact bitsPacks_core len0 cap0 a0 l w hl hM h3
  · exact bitsPacks_long len0 cap0 a0 w h3 hm
/-- Truths that are handed in read as truths. -/
theorem open_truths {H : Type} {enc : TypeId × Value → H} {w : World} {base : Nat} {spare : Nat → Bool} {held : Bool} {fuel : Nat} {a : Option Addr} {len cap : Nat} {x : DataW H × List MemPlace}
    (h : DataW.trod enc Try.prog w base spare held fuel 51 [.slice a len cap] = some x) : ∃ l, BRow w a len l := by
  rcases Go.Deep.open_slice1 Try.underlying51 (by kernel_rfl) h with ⟨hcs, _⟩ | ⟨ad, len', cap', m, n, V, D, Pl, hcs, _, hl, hm, hmm, _, hc⟩
  · simp at hcs
    obtain ⟨rfl, rfl, rfl⟩ := hcs
    exact ⟨[], rfl, fun h => absurd rfl h, by decide⟩
  · simp only [List.cons.injEq, Value.slice.injEq, and_true] at hcs
    obtain ⟨rfl, rfl, rfl⟩ := hcs
    have hlm : len ≤ m := by rw [hmm]; split <;> omega
    have hb : ∀ i, i < len → ∃ b, w.cell? (ad.add i) = some (.bool b) := by
      intro i hi
      obtain ⟨h1, h2⟩ := hc i (by omega)
      obtain ⟨b, e, _⟩ := DataW.trod_bool Try.underlying4 h2
      simp only [List.cons.injEq, and_true] at e
      exact ⟨b, by rw [h1, e]⟩
    refine ⟨(List.range len).map (fun i => match w.cell? (ad.add i) with | some (.bool b) => b | _ => false), by simp, ?_, by unfold maxLen at hm; omega⟩
    intro hne
    have hl0 : 0 < len := by
      rcases Nat.eq_zero_or_pos len with h0 | h0
      · rw [h0] at hne; simp at hne
      · exact h0
    obtain ⟨b, off, sp⟩ := ad
    obtain ⟨b0, hb0⟩ := hb 0 hl0
    have hsp : sp = none := by simpa [Addr.add] using World.cell?_spot hb0
    subst hsp
    refine ⟨b, off, rfl, fun i hi => ?_⟩
    have hi2 : i < len := by simpa using hi
    obtain ⟨bi, hbi⟩ := hb i hi2
    rw [add_off] at hbi
    simp [hi2, add_off, hbi]
end Go.Proofs.Ytndkdfbcbofnkaa
