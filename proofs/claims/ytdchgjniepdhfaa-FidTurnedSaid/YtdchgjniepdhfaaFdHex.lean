/- The contract of fid's inHex. Conditions: the number has j digits, or the width is j. -/
import Derived.Test.YtdchgjniepdhfaaFdDec
namespace Go.Proofs.Ytdchgjniepdhfaa
open Go.RowKit
theorem and15 (k : Nat) (h : k < 18446744073709551616) : bits .and .u64 (k : Int) 15 = ((k % 16 : Nat) : Int) := by
  have := u64_and_nat k 15 h (by omega)
  have e : k &&& 15 = k % 16 := Nat.and_two_pow_sub_one_eq_mod k 4
  rw [e] at this
  exact this
set_option maxRecDepth 100000 in
set_option maxHeartbeats 3200000 in
theorem inhex_any (n wd j : Nat) (w : World) (h64 : n < 18446744073709551616) (hj : j ≤ 16) (hwd : wd ≤ j) (h1 : n < 16 ^ j) (h2 : j = wd ∨ 16 ^ (j - 1) ≤ n) (hj1 : 1 ≤ j) :
    Calls Try.prog 15 #[.int .u64 (n : Int), .int .i64 (wd : Int)] w fun e w' => e = .returned (.string (mkS (fixd 16 j n))) ∧ Below w.heap.size w w' := by
  go_enter Try.func15, Try.ntmps15
  go_wp2_with fail
  have ka := below_alloc w (.cells #[.int .u8 0, .int .u8 0, .int .u8 0, .int .u8 0, .int .u8 0, .int .u8 0, .int .u8 0, .int .u8 0, .int .u8 0, .int .u8 0, .int .u8 0, .int .u8 0, .int .u8 0, .int .u8 0, .int .u8 0, .int .u8 0] 52)
  have b0 : Blk (w.alloc (.cells #[.int .u8 0, .int .u8 0, .int .u8 0, .int .u8 0, .int .u8 0, .int .u8 0, .int .u8 0, .int .u8 0, .int .u8 0, .int .u8 0, .int .u8 0, .int .u8 0, .int .u8 0, .int .u8 0, .int .u8 0, .int .u8 0] 52)) 0 52 w.heap.size (arrV 16 16 0 n) := Blk.new w 52 #[.int .u8 0, .int .u8 0, .int .u8 0, .int .u8 0, .int .u8 0, .int .u8 0, .int .u8 0, .int .u8 0, .int .u8 0, .int .u8 0, .int .u8 0, .int .u8 0, .int .u8 0, .int .u8 0, .int .u8 0, .int .u8 0] (Nat.zero_le _)
  have KA := hide ka
  have B0 := hide b0
  obtain ⟨b, hb⟩ : ∃ b, b = w.heap.size := ⟨_, rfl⟩
  rw [← hb] at B0 ⊢
  have HB := hide hb
  have H1 := hide h1
  have H2 := hide h2
  have HWD := hide hwd
  have HJ1 := hide hj1
  have HJ := hide hj
  clear ka b0 hb h1 h2 hwd hj1 hj
  go_loopw [0, 6] (fun m i7 wr => ∃ (i k p : Nat), m = .int .u64 (k : Int) ∧ k < 18446744073709551616 ∧ i7 = .int .i64 (p : Int) ∧ Hid (i ≤ j) ∧ Hid (p = 16 - i) ∧ Hid (k = n / 16 ^ i) ∧ Hid (Blk wr 0 52 b (arrV 16 16 i n)) ∧ Hid (Below w.heap.size w wr)) (fun _ i7 _ => (intOf i7).toNat)
  case atStart => exact ⟨0, n, 16, rfl, h64, rfl, by simp [Hid], rfl, by simp [Hid], B0.out, KA.out⟩
  case round =>
    obtain ⟨i, k, p, rfl, hk, rfl, hi, hP, hK, hR, hB⟩ := hrel
    have hp16 : p ≤ 16 := by rw [hP.out]; omega
    by_cases hlt : i < j
    · have hi16 : i < 16 := by have := HJ.out; omega
      obtain ⟨q, hq⟩ : ∃ q, q = 15 - i := ⟨_, rfl⟩
      have hsub : (p : Int) - 1 = (q : Int) := by rw [hP.out]; omega
      have hwi : (16 : Int) - (p : Int) = (i : Int) := by rw [hP.out]; omega
      obtain ⟨x, hx⟩ := arrV_at 16 16 i n q (by omega) (by omega)
      have hc := hR.out.cell q
      rw [hx] at hc
      have hf := hR.out.frozen q
      have hq8 : (q : Int) < 16 := by omega
      have ha := and15 k hk
      obtain ⟨r, hr⟩ : ∃ r, r = k % 16 := ⟨_, rfl⟩
      have h16 : r < 16 := by omega
      have h16i : (r : Int) < 16 := by omega
      rw [← hr] at ha
      have HD := hide (dig_at r h16)
      have HR := hide hr
      have hQ := hide hq
      have hI := hide hlt
      have hset := arrV_set 16 16 i n hi16
      have h7 : 16 - 1 - i = q := by rw [hq]
      rw [h7, ← hK.out, ← hr] at hset
      have HS := hide hset
      have hcond : 0 < k ∨ (k = 0 ∧ i < wd) := by
        by_cases h0 : 0 < k
        · exact .inl h0
        · refine .inr ⟨by omega, ?_⟩
          rcases H2.out with h | h
          · omega
          · exfalso
            have h3 : 16 ^ i ≤ n := Nat.le_trans (Nat.pow_le_pow_right (by omega) (by omega)) h
            have h4 := Nat.div_pos h3 (Nat.pow_pos (by omega))
            rw [← hK.out] at h4
            omega
      have HK4 : Hid (k / 16 = n / 16 ^ (i + 1)) := by
        unfold Hid
        rw [hK.out, Nat.div_div_eq_div_mul, Nat.pow_succ]
      clear hx hq hr hlt hset h7 hi16
      rcases hcond with h0 | ⟨h0, hw⟩
      · go_wp2_with fail
        go_roundw
        case rel =>
          rw [HD.out]
          refine ⟨i + 1, k / 16, q, by go_num, by omega, rfl, hI.out, by rw [hQ.out]; unfold Hid; omega, HK4, ?_, ?_⟩
          · have := hR.out.stored q (.int .u8 (((hexd r).toNat : Nat) : Int))
            rw [HS.out] at this
            exact this
          · exact hB.out.setCell (p := ⟨b, q, none⟩) (by rw [HB.out]; exact Nat.le_refl _) _
        case measure => simp [intOf]; omega
      · subst h0
        have hr0 : r = 0 := by rw [HR.out]
        subst hr0
        have ha0 : bits .and .u64 0 15 = 0 := ha
        have hw2 : (i : Int) < (wd : Int) := by omega
        clear hw
        go_wp2_with fail
        go_roundw
        case rel =>
          refine ⟨i + 1, 0, q, by go_num, by omega, rfl, hI.out, by rw [hQ.out]; unfold Hid; omega, HK4, ?_, ?_⟩
          · have := hR.out.stored q (.int .u8 (((hexd 0).toNat : Nat) : Int))
            rw [HS.out] at this
            exact this
          · exact hB.out.setCell (p := ⟨b, q, none⟩) (by rw [HB.out]; exact Nat.le_refl _) _
        case measure => simp [intOf]; omega
    · have hij : i = j := by have := hi.out; omega
      have hk0 : k = 0 := by
        rw [hK.out, hij]
        exact Nat.div_eq_of_lt H1.out
      subst hk0
      have hwi : (16 : Int) - (p : Int) = (i : Int) := by have := HJ.out; have := hP.out; omega
      have hw2 : ¬ (i : Int) < (wd : Int) := by have := HWD.out; omega
      have hp0 : p = 16 - j := by rw [hP.out, hij]
      have hlt16 : (p : Int) < 16 := by have := HJ1.out; have := HJ.out; omega
      have hle16 : (p : Int) ≤ 16 := by omega
      have cv1 : (convert 40 9 (.slice (some ⟨b, p, none⟩) (16 - p) (16 - p))).run Try.prog wr = .ok (.string (mkS (fixd 16 j n))) wr := by
        have h := run_convert_bytes_back (P := Try.prog) wr 40 9 5 ⟨b, p, none⟩ (16 - p) (fixd 16 j n) Try.underlying40 Try.underlying5 Try.underlying9 (fun q hq => by
          have hq' := hq
          rw [fixd_len] at hq'
          have ea : Addr.add ⟨b, p, none⟩ q = ⟨b, p + q, none⟩ := by rw [add_off]
          have hc := hR.out.cell (p + q)
          rw [ea]
          show wr.cell? ⟨b, p + q, none⟩ = _
          rw [hc, hij, hp0, arrV_tail 16 16 j n q hq']
          simp [List.getElem?_eq_getElem hq])
        rw [fixd_len] at h
        have : 16 - p = j := by have := HJ.out; omega
        rw [this] at h ⊢
        exact h
      clear hp0 hij hlt
      go_wp2_with fail
      go_ret
      exact ⟨rfl, hB.out⟩
end Go.Proofs.Ytdchgjniepdhfaa
