/- The walk of the law BitsUnpacks: it returns true for any bytes and any number, and writes nothing that was there. No conditions but the widths. -/
import Derived.Test.YtndkdfbcbofnkaaKnown
import Derived.Test.YtndkdfbcbofnkaaRUnpack
namespace Go.Proofs.Ytndkdfbcbofnkaa
open Go.RowKit
theorem unp_len {xs : List Nat} {n : Int} {E : Nat} {L : List Bool} (h : Unp xs n E L) (hl : xs.length ≤ 3000) : L.length ≤ 24000 := by
  rcases h with ⟨_, _, rfl⟩ | ⟨_, _, _, rfl⟩ | ⟨_, _, _, rfl⟩ | ⟨_, _, _, _, rfl⟩ | ⟨_, h, _, _, rfl⟩
  · simp
  · simp
  · simp
  · simp
  · rw [bitsOf_len]
    have := need_eq n.toNat
    omega
set_option maxHeartbeats 1600000 in
theorem bitsUnpacks_core (len cap : Nat) (n : Int) (M : Option Addr) (xs : List Nat) (w : World) (hl : xs.length = len) (hby : ∀ x ∈ xs, x < 256) (hM : IsB w (.slice M len cap) xs) (h3 : len ≤ 3000) (hn : n ≤ 9223372036854775807) :
    Calls Try.prog 11 #[.slice M len cap, .int .i64 n] w fun e w' => e = .returned (.bool true) ∧ Below w.heap.size w w' := by
  obtain ⟨E, L, hu⟩ := unp_some xs n
  have hL := unp_len hu (by omega)
  have HL := hide hl
  have HB := hide hby
  have HM := hide hM
  have HU := hide hu
  obtain ⟨N, hN⟩ : ∃ N, N = L.length := ⟨_, rfl⟩
  rw [← hN] at hL
  have HN := hide hN
  clear hl hby hM hu hN
  go_enter Try.func11, Try.ntmps11
  go_wp2_with fail
  refine (unpack_any M len cap n xs w HM.out.rd HL.out HB.out hn h3 E L HU.out).mono ?_
  rintro e w1 ⟨v1, rfl, o1, k1⟩
  go_wp2_with fail
  refine (runpack_any M len cap n xs w1 (HM.out.keep k1).rd HL.out HB.out hn h3 E L HU.out).mono ?_
  rintro e w2 ⟨v2, rfl, o2, k2⟩
  have K2 := below_step k1 k2
  obtain ⟨A1, c1, rfl, r1, _⟩ := (o1.keep k2).form HN.out.symm
  obtain ⟨A2, c2, rfl, r2, _⟩ := o2.form HN.out.symm
  have R1 := hide r1
  have R2 := hide r2
  clear o1 o2 k1 k2 r1 r2
  go_wp2
  go_loopw [9] (fun i wr => ∃ k d : Nat, k ≤ N ∧ i = .int .i64 (k : Int) ∧ wr = w2.drewN d) (fun i _ => N - (intOf i).toNat)
  case atStart => exact ⟨0, 0, Nat.zero_le _, rfl, rfl⟩
  case round =>
    obtain ⟨k, d, hk, rfl, rfl⟩ := hrel
    by_cases hlt : k < N
    · obtain ⟨b1, f1, rfl, cells1⟩ := R1.out (by intro e; rw [HN.out, e] at hlt; simp at hlt)
      obtain ⟨b2, f2, rfl, cells2⟩ := R2.out (by intro e; rw [HN.out, e] at hlt; simp at hlt)
      have x1 := cells1 k (by rw [← HN.out]; exact hlt)
      have x2 := cells2 k (by rw [← HN.out]; exact hlt)
      obtain ⟨t, ht⟩ : ∃ t, t = L.getD k false := ⟨_, rfl⟩
      rw [← ht] at x1 x2
      clear ht cells1 cells2
      go_wp2
      go_quiet (fail)
      go_wp2
      go_roundw
      case rel => exact ⟨k + 1, _, by omega, by go_num, rfl⟩
      case measure => simp [intOf]; omega
    · go_wp2_with fail
      refine (known_any _).mono ?_
      rintro e w3 ⟨rfl, k3⟩
      go_wp2_with fail
      go_ret
      exact ⟨rfl, below_step (below_draw K2 d) k3⟩
set_option maxHeartbeats 400000 in
theorem bitsUnpacks_long (len cap : Nat) (n : Int) (M : Option Addr) (w : World) (h3 : ¬ len ≤ 3000) (_h : len ≤ 9223372036854775807) :
    Calls Try.prog 11 #[.slice M len cap, .int .i64 n] w fun e w' => e = .returned (.bool true) ∧ Below w.heap.size w w' := by
  go_enter Try.func11, Try.ntmps11
  go_wp2_with fail
  go_ret
  exact ⟨rfl, Below.refl _ _⟩
theorem bitsUnpacks_walk (a0 : Option Addr) (len0 cap0 : Nat) (z0 : List Int) (a1 : Int) (w : World) (w0 : IsRow .u8 w a0 len0 cap0 z0) (w1 : (Lit.int .i64 a1).wf = true) :
    Calls Try.prog 11 #[.slice a0 len0 cap0, .int .i64 a1] w fun e w' => e = .returned (.bool true) ∧ Below w.heap.size w w' := by
  obtain ⟨xs, hl, hby, hM, hm⟩ := w0.isB
  have b1 := bounds_i64 w1
  by_cases h3 : len0 ≤ 3000
  · exact bitsUnpacks_core len0 cap0 a1 a0 xs w hl hby hM h3 (by omega)
  · exact bitsUnpacks_long len0 cap0 a1 a0 w h3 hm
end Go.Proofs.Ytndkdfbcbofnkaa
