/- The contracts of the document's Dec and hex. Conditions: the numbers have no more digits than there are places. -/
import Derived.Test.YtdchgjniepdhfaaFdHex
namespace Go.Proofs.Ytdchgjniepdhfaa
open Go.RowKit
theorem one_str (w : World) (b : Nat) (hb : b = w.heap.size) (x : UInt8) (e : TypeId) :
    (convert 40 9 (.slice (some ⟨b, 0, none⟩) 1 1)).run Try.prog (w.alloc (.cells #[.int .u8 (x.toNat : Int)] e)) = .ok (.string (mkS [x])) (w.alloc (.cells #[.int .u8 (x.toNat : Int)] e)) := by
  have h := run_convert_bytes_back (P := Try.prog) (w.alloc (.cells #[.int .u8 (x.toNat : Int)] e)) 40 9 5 ⟨b, 0, none⟩ 1 [x] Try.underlying40 Try.underlying5 Try.underlying9 (fun q hq => by
    have hq0 : q = 0 := by simpa using hq
    subst hq0
    rw [hb]
    exact (Blk.new w (B := 0) e #[.int .u8 (x.toNat : Int)] (Nat.zero_le _)).cell 0)
  exact h
set_option maxRecDepth 100000 in
set_option maxHeartbeats 1600000 in
theorem rdec_any (n : Nat) (w : World) (h0 : 1 ≤ n) (hn : n ≤ 99999999) :
    Calls Try.prog 16 #[.int .i64 (n : Int)] w fun e w' => e = .returned (.string (mkS (vL n))) ∧ Below w.heap.size w w' := by
  have HN := hide hn
  have H0 := hide h0
  obtain ⟨j, hj⟩ : ∃ j, j = ndF 10 8 n := ⟨_, rfl⟩
  have HL : Hid (vL n = fixd 10 j n) := by rw [hj]; exact rfl
  have HJ : Hid (1 ≤ j ∧ j ≤ 8 ∧ n < 10 ^ j ∧ 10 ^ (j - 1) ≤ n) := by
    rw [hj]
    exact ⟨(ndF_ge 10 (by omega) 8 n (by omega) (by omega)).1, ndF_le 10 8 n, ndF_lt 10 (by omega) 8 n (by omega), (ndF_ge 10 (by omega) 8 n (by omega) (by omega)).2⟩
  clear hn h0 hj
  go_enter Try.func16, Try.ntmps16
  go_wp2_with fail
  go_loopw [0, 3] (fun m s wr => ∃ (i k : Nat) (t : ByteArray), m = .int .i64 (k : Int) ∧ k ≤ 99999999 ∧ s = .string t ∧ t.size ≤ 8 ∧ Hid (i < j) ∧ Hid (t = mkS (fixd 10 i n)) ∧ Hid (k = n / 10 ^ i) ∧ Hid (Below w.heap.size w wr)) (fun m _ _ => (intOf m).toNat)
  case atStart => exact ⟨0, n, ⟨#[]⟩, rfl, HN.out, rfl, by decide, HJ.out.1, rfl, by simp [Hid], Below.refl _ _⟩
  case round =>
    obtain ⟨i, k, t, rfl, hk, rfl, ht, hi, hT, hK, hB⟩ := hrel
    obtain ⟨r, hr⟩ : ∃ r, r = k % 10 := ⟨_, rfl⟩
    have hr10 : r < 10 := by omega
    have hmod : (k : Int) % 10 = (r : Int) := by omega
    have hx : ((hexd r).toNat : Int) = 48 + (r : Int) := by
      have : ∀ r < 10, ((hexd r).toNat : Int) = 48 + (r : Int) := by decide +kernel
      exact this r hr10
    obtain ⟨x, hxx⟩ : ∃ x, x = hexd r := ⟨_, rfl⟩
    rw [← hxx] at hx
    have hw8 : IntKind.u8.wrap (48 + (r : Int)) = (x.toNat : Int) := by rw [IntKind.wrap_u8, hx]; omega
    have HR := hide hr
    have HX := hide hxx
    clear hr hx hxx
    have hcv := one_str wr wr.heap.size rfl x 5
    have hst : (mkS [x]).size = 1 := rfl
    have hcat : (9223372036854775807 < 1 + t.size) = False := by simp only [eq_iff_iff, iff_false]; omega
    have HT2 : Hid (mkS [x] ++ t = mkS (fixd 10 (i + 1) n)) := by
      unfold Hid
      rw [hT.out, mkS_app, fixd_cons, HX.out, HR.out, hK.out]
      rfl
    have HK2 : Hid (k / 10 = n / 10 ^ (i + 1)) := by
      unfold Hid
      rw [hK.out, Nat.div_div_eq_div_mul, Nat.pow_succ]
    have kb := hide (below_step hB.out (below_alloc wr (.cells #[.int .u8 (x.toNat : Int)] 5)))
    by_cases hz : k / 10 = 0
    · have hzi : ((k : Int) / 10 == 0) = true := by
        rw [beq_iff_eq]
        omega
      have HZ := hide hz
      clear hz
      go_wp2_with fail
      go_ret
      have hij : i + 1 = j := by
        have h1 := HK2.out
        rw [HZ.out] at h1
        have h2 : n < 10 ^ (i + 1) := by
          rcases Nat.lt_or_ge n (10 ^ (i + 1)) with h | h
          · exact h
          · have := Nat.div_pos h (Nat.pow_pos (by omega))
            omega
        have h3 := hi.out
        rcases Nat.lt_or_ge (i + 1) j with h | h
        · have h4 : 10 ^ (i + 1) ≤ 10 ^ (j - 1) := Nat.pow_le_pow_right (by omega) (by omega)
          have := HJ.out.2.2.2
          omega
        · omega
      rw [HT2.out, hij, ← HL.out]
      exact ⟨rfl, kb.out⟩
    · have hzi : ((k : Int) / 10 == 0) = false := by
        rw [beq_eq_false_iff_ne]
        omega
      have HZ := hide hz
      clear hz
      go_wp2_with fail
      go_roundw
      case rel =>
        have hij : i + 1 < j := by
          have h1 := HK2.out
          have h2 := HZ.out
          rcases Nat.lt_or_ge (i + 1) j with h | h
          · exact h
          · exfalso
            have h4 : 10 ^ j ≤ 10 ^ (i + 1) := Nat.pow_le_pow_right (by omega) h
            have h5 := HJ.out.2.2.1
            rw [Nat.div_eq_of_lt (Nat.lt_of_lt_of_le h5 h4)] at h1
            exact h2 h1
        refine ⟨i + 1, k / 10, mkS [x] ++ t, by go_num, by omega, rfl, ?_, hij, HT2, HK2, kb⟩
        rw [HT2.out, mkS_size, fixd_len]
        have := HJ.out.2.1
        omega
      case measure => have := HZ.out; simp [intOf]; omega
set_option maxRecDepth 100000 in
set_option maxHeartbeats 1600000 in
theorem rhex_any (n wd j : Nat) (w : World) (h64 : n < 18446744073709551616) (hj : j ≤ 16) (hwd : wd ≤ j) (h1 : n < 16 ^ j) (h2 : j = wd ∨ 16 ^ (j - 1) ≤ n) :
    Calls Try.prog 17 #[.int .u64 (n : Int), .int .i64 (wd : Int)] w fun e w' => e = .returned (.string (mkS (fixd 16 j n))) ∧ Below w.heap.size w w' := by
  have H1 := hide h1
  have H2 := hide h2
  have HWD := hide hwd
  have HJ := hide hj
  clear h1 h2 hwd hj
  go_enter Try.func17, Try.ntmps17
  go_wp2_with fail
  go_loopw [0, 5] (fun m s wr => ∃ (i k : Nat) (t : ByteArray), m = .int .u64 (k : Int) ∧ k < 18446744073709551616 ∧ s = .string t ∧ t.size = i ∧ Hid (i ≤ j) ∧ Hid (t = mkS (fixd 16 i n)) ∧ Hid (k = n / 16 ^ i) ∧ Hid (Below w.heap.size w wr)) (fun _ s _ => j - (match s with | .string t => t.size | _ => 0))
  case atStart => exact ⟨0, n, ⟨#[]⟩, rfl, h64, rfl, rfl, Nat.zero_le _, rfl, by simp [Hid], Below.refl _ _⟩
  case round =>
    obtain ⟨i, k, t, rfl, hk, rfl, hti, hi, hT, hK, hB⟩ := hrel
    by_cases hlt : i < j
    · have hcond : 0 < k ∨ (k = 0 ∧ i < wd) := by
        by_cases h0 : 0 < k
        · exact .inl h0
        · refine .inr ⟨by omega, ?_⟩
          rcases H2.out with h | h
          · omega
          · exfalso
            have h3 : 16 ^ i ≤ n := Nat.le_trans (Nat.pow_le_pow_right (by omega) (by omega)) h
            have h4 := Nat.div_pos h3 (Nat.pow_pos (by omega))
            rw [← hK.out] at h4
            omega
      obtain ⟨r, hr⟩ : ∃ r, r = k % 16 := ⟨_, rfl⟩
      have hr16 : r < 16 := by omega
      have hmod : (k : Int) % 16 = (r : Int) := by omega
      obtain ⟨x, hxx⟩ : ∃ x, x = hexd r := ⟨_, rfl⟩
      have hex1 : digT.extract r (r + 1) = mkS [x] := by
        have : ∀ r < 16, digT.extract r (r + 1) = mkS [hexd r] := by decide +kernel
        rw [hxx]
        exact this r hr16
      have HR := hide hr
      have HX := hide hxx
      have HI := hide hlt
      have HJ16 := HJ.out
      clear hr hxx hlt
      have hex2 : (⟨#[48, 49, 50, 51, 52, 53, 54, 55, 56, 57, 97, 98, 99, 100, 101, 102]⟩ : ByteArray).extract r (r + 1) = mkS [x] := hex1
      have hst : (mkS [x]).size = 1 := rfl
      have hcat : (9223372036854775807 < 1 + i) = False := by simp only [eq_iff_iff, iff_false]; have := HI.out; omega
      have hr1 : (r : Int) ≤ 16 := by omega
      have hr2 : (r : Int) + 1 ≤ 16 := by omega
      have HTI := hide hti
      have HT2 : Hid (mkS [x] ++ t = mkS (fixd 16 (i + 1) n)) := by
        unfold Hid
        rw [hT.out, mkS_app, fixd_cons, HX.out, HR.out, hK.out]
        rfl
      have HK2 : Hid (k / 16 = n / 16 ^ (i + 1)) := by
        unfold Hid
        rw [hK.out, Nat.div_div_eq_div_mul, Nat.pow_succ]
      have HSZ : Hid ((mkS [x] ++ t).size = i + 1) := by unfold Hid; rw [HT2.out, mkS_size, fixd_len]
      rcases hcond with h0 | ⟨h0, hw⟩
      · have hk0 : ((k : Int) != 0) = true := by rw [bne_iff_ne]; omega
        clear h0
        go_wp2_with fail
        go_roundw
        case rel =>
          exact ⟨i + 1, k / 16, mkS [x] ++ t, by go_num, by omega, rfl, HSZ.out, HI.out, HT2, HK2, hB⟩
        case measure =>
          show j - (mkS [x] ++ t).size < j - t.size
          rw [HSZ.out, HTI.out]
          have := HI.out
          omega
      · subst h0
        have hr0 : r = 0 := by rw [HR.out]
        subst hr0
        have hw2 : (i : Int) < (wd : Int) := by omega
        clear hw
        go_wp2_with fail
        go_roundw
        case rel =>
          exact ⟨i + 1, 0, mkS [x] ++ t, by go_num, by omega, rfl, HSZ.out, HI.out, HT2, HK2, hB⟩
        case measure =>
          show j - (mkS [x] ++ t).size < j - t.size
          rw [HSZ.out, HTI.out]
          have := HI.out
          omega
    · have hij : i = j := by have := hi.out; omega
      have hk0 : k = 0 := by
        rw [hK.out, hij]
        exact Nat.div_eq_of_lt H1.out
      subst hk0
      have hw2 : ¬ (i : Int) < (wd : Int) := by have := HWD.out; omega
      have HIJ := hide hij
      clear hij hlt
      go_wp2_with fail
      go_ret
      rw [hT.out, HIJ.out]
      exact ⟨rfl, hB.out⟩
end Go.Proofs.Ytdchgjniepdhfaa
