/- The walk of the law BitsSums: it returns true for any bytes, and writes nothing that was there. No conditions but the widths. -/
import Derived.Test.YtndkdfbcbofnkaaKnown
import Derived.Test.YtndkdfbcbofnkaaRoomy
namespace Go.Proofs.Ytndkdfbcbofnkaa
open Go.RowKit
theorem crcStep_odd (t : Nat) (h : t % 2 = 1) (ht : t < 4294967296) : bits .xor .u32 ((t : Int) / 2) 3988292384 = ((crcStep t : Nat) : Int) := half_poly t ht h
theorem crcStep_even (t : Nat) (h : t % 2 = 0) : (t : Int) / 2 = ((crcStep t : Nat) : Int) := by
  unfold crcStep
  rw [if_neg (by omega)]
  simp
set_option maxHeartbeats 1600000 in
theorem bitsSums_core (len cap : Nat) (M : Option Addr) (xs : List Nat) (w : World) (hl : xs.length = len) (hby : ∀ x ∈ xs, x < 256) (hM : IsB w (.slice M len cap) xs) (h3 : len ≤ 3000) :
    Calls Try.prog 7 #[.slice M len cap] w fun e w' => e = .returned (.bool true) ∧ Below w.heap.size w w' := by
  have HL := hide hl
  have HB := hide hby
  have HM := hide hM
  clear hl hby hM
  go_enter Try.func7, Try.ntmps7
  go_wp2
  go_loop [3, 4] (fun s i => ∃ k : Nat, k ≤ len ∧ i = .int .i64 (k : Int) ∧ s = .int .u32 (crcF 4294967295 (xs.take k) : Nat)) (fun _ i => len - (intOf i).toNat)
  case atStart => exact ⟨0, Nat.zero_le _, rfl, rfl⟩
  case round =>
    obtain ⟨k, hk, rfl, rfl⟩ := hrel
    have hs := crcF_lt (s := 4294967295) (by decide) (xs := xs.take k) (fun x hx => HB.out x (List.mem_of_mem_take hx))
    by_cases hlt : k < len
    · obtain ⟨b1, o1, rfl, c1⟩ := HM.out.rd (by intro e; rw [← HL.out, e] at hlt; simp at hlt)
      have k1 := c1 k (by rw [HL.out]; exact hlt)
      have hsn := crcF_snoc 4294967295 xs k (by rw [HL.out]; exact hlt)
      have hx : xs.getD k 0 < 256 := by
        have hl : k < xs.length := by rw [HL.out]; exact hlt
        have : xs.getD k 0 = xs[k] := by simp [hl]
        rw [this]; exact HB.out _ (List.getElem_mem hl)
      obtain ⟨x, hxe⟩ : ∃ x, x = xs.getD k 0 := ⟨_, rfl⟩
      obtain ⟨s, hse⟩ : ∃ s, s = crcF 4294967295 (xs.take k) := ⟨_, rfl⟩
      rw [← hxe] at k1 hx hsn
      rw [← hse] at hs hsn ⊢
      have HSN := hide hsn
      clear hsn hxe hse c1
      have hxor := xor32 s x hs (by omega)
      have hs2 := xor_lt32 hs (show x < 4294967296 by omega)
      go_wp2
      go_loop [3, 5] (fun t i => ∃ j : Nat, j ≤ 8 ∧ i = .int .i64 (j : Int) ∧ t = .int .u32 (crcB (s ^^^ x) j : Nat)) (fun _ i => 8 - (intOf i).toNat)
      case atStart => exact ⟨0, Nat.zero_le _, rfl, rfl⟩
      case round =>
        obtain ⟨j, hj, rfl, rfl⟩ := hrel
        have ht := crcB_lt hs2 j
        by_cases hj8 : j < 8
        · have hst : crcB (s ^^^ x) (j + 1) = crcStep (crcB (s ^^^ x) j) := rfl
          obtain ⟨t, hte⟩ : ∃ t, t = crcB (s ^^^ x) j := ⟨_, rfl⟩
          rw [← hte] at ht hst ⊢
          have HST := hide hst
          clear hst hte
          have h1 := and_one32 t ht
          by_cases hodd : t % 2 = 1
          · rw [hodd] at h1
            have h2 := half_poly t ht hodd
            clear hodd
            go_wp2
            go_round
            case rel => exact ⟨j + 1, by omega, by go_num, by rw [HST.out]⟩
            case measure => simp [intOf]; omega
          · have h0 : t % 2 = 0 := by omega
            rw [h0] at h1
            have H2 := hide (crcStep_even t h0)
            clear h0 hodd
            go_wp2
            go_round
            case rel => exact ⟨j + 1, by omega, by go_num, by rw [HST.out, H2.out]⟩
            case measure => simp [intOf]; omega
        · obtain rfl : j = 8 := by omega
          go_wp2
          go_round
          case rel => exact ⟨k + 1, by omega, by go_num, by rw [HSN.out]⟩
          case measure => simp [intOf]; omega
    · obtain rfl : k = len := by omega
      have he : xs.take k = xs := List.take_of_length_le (by rw [HL.out]; omega)
      rw [he] at hs ⊢
      clear he
      have hnot := not32 (crcF 4294967295 xs) hs
      have hsum : sumS xs = 4294967295 - crcF 4294967295 xs := rfl
      rw [← hsum] at hnot
      have hsig : IntKind.u32.signed = false := rfl
      clear hsum
      go_wp2_with fail
      refine (roomy_any M k cap xs w HM.out HL.out h3).mono ?_
      rintro e w1 ⟨A, c, rfl, i1, l1, m1, k1⟩
      have i2 := i1.take k (by omega)
      rw [List.take_left' HL.out] at i2
      go_wp2_with fail
      refine (sum_any A k c xs w1 i2.rd HL.out.symm HB.out (by omega)).mono ?_
      rintro e w2 ⟨rfl, rfl⟩
      go_wp2_with fail
      refine (stands_any A c M k cap xs w1 i1 (HM.out.keep k1) HL.out h3 l1 m1).mono ?_
      rintro e w2 ⟨rfl, d, rfl⟩
      go_wp2_with fail
      refine (known_any _).mono ?_
      rintro e w3 ⟨rfl, k3⟩
      go_wp2_with fail
      go_ret
      exact ⟨rfl, below_step (below_draw k1 d) k3⟩
set_option maxHeartbeats 400000 in
theorem bitsSums_long (len cap : Nat) (M : Option Addr) (w : World) (h3 : ¬ len ≤ 3000) (_h : len ≤ 9223372036854775807) :
    Calls Try.prog 7 #[.slice M len cap] w fun e w' => e = .returned (.bool true) ∧ Below w.heap.size w w' := by
  go_enter Try.func7, Try.ntmps7
  go_wp2_with fail
  go_ret
  exact ⟨rfl, Below.refl _ _⟩
theorem bitsSums_walk (a0 : Option Addr) (len0 cap0 : Nat) (z0 : List Int) (w : World) (w0 : IsRow .u8 w a0 len0 cap0 z0) :
    Calls Try.prog 7 #[.slice a0 len0 cap0] w fun e w' => e = .returned (.bool true) ∧ Below w.heap.size w w' := by
  obtain ⟨xs, hl, hby, hM, hm⟩ := w0.isB
  by_cases h3 : len0 ≤ 3000
  · exact bitsSums_core len0 cap0 a0 xs w hl hby hM h3
  · exact bitsSums_long len0 cap0 a0 w h3 hm
end Go.Proofs.Ytndkdfbcbofnkaa
