/- The contract of volume's own read. Condition: at most 2 to the 30 bytes, at least a head. -/
import Derived.Test.YtehgjkckhjggbaaVr14
import Derived.Test.YtehgjkckhjggbaaVr16
import Derived.Test.YtehgjkckhjggbaaVr7
namespace Go.Proofs.Ytehgjkckhjggbaa
open Go.RowKit Go.Maps
/-- A needle that is read takes at least 32 bytes, no more than there are; its numbers fit. -/
theorem ndDec_fits {b : List Nat} (hb : ∀ x ∈ b, x < 256) (h : ¬ ((ndDec b).2.2 ≠ 0 ∧ (ndDec b).2.2 ≠ 4)) : 32 ≤ (ndDec b).2.1 ∧ (ndDec b).2.1 ≤ b.length ∧ (ndDec b).2.1 ≤ 65568 ∧ (ndDec b).1.1 < 18446744073709551616 ∧ (ndDec b).1.2.1 < 4294967296 := by
  by_cases h1 : b.length < 24
  · rw [ndDec_short h1] at h
    exact absurd h (by decide)
  · by_cases h2 : HeadOk b
    · by_cases h3 : b.length < ndSize (hLen b)
      · rw [ndDec_short2 (by omega) h2 h3] at h
        exact absurd h (by decide)
      · have hs := ndSize_le (hLen b)
        by_cases h4 : TailOk b
        · rw [ndDec_ok (by omega) h2 (by omega) h4]
          exact ⟨hs.2, by show ndSize (hLen b) ≤ _; omega, hs.1, hKey_lt hb, hCook_lt hb⟩
        · rw [ndDec_sum (by omega) h2 (by omega) h4]
          exact ⟨hs.2, by show ndSize (hLen b) ≤ _; omega, hs.1, hKey_lt hb, hCook_lt hb⟩
    · rw [ndDec_form (by omega) h2] at h
      exact absurd h (by decide)
theorem readV_succ (f : Nat) (b : List Nat) (a : Nat) (T : PlL) : readV (f + 1) b a T = if (ndDec (b.drop a)).2.2 ≠ 0 ∧ (ndDec (b.drop a)).2.2 ≠ 4 then (a, T) else readV f b (a + (ndDec (b.drop a)).2.1) (takeL (plOf (ndDec (b.drop a)) a) T) := rfl
set_option maxRecDepth 100000 in
set_option maxHeartbeats 6400000 in
theorem vread_any {w : World} {v d m : Nat} {s : ByteArray} (h : VolAt w v d m s []) (A : Option Addr) (n c : Nat) (b : List Nat) (hA : IsB w (.slice A n c) b) (hb : ∀ x ∈ b, x < 256) (h8 : 8 ≤ n) (hn : n ≤ 1073741824) (hoff : Off (fun k => k = m) (.slice A n c)) :
    Calls Try.prog 49 #[.pointer (some ⟨v, 0, none⟩), .slice A n c] w fun e w' => e = .returned (.int .i64 ((readV (n + 1) b 8 []).1 : Int)) ∧ VolAt w' v d m s (readV (n + 1) b 8 []).2 ∧ Turn (fun k => k = m) w w' := by
  obtain ⟨hbl, hnc, hc63⟩ := isB_len hA
  obtain ⟨R, hR⟩ : ∃ R, R = readV (n + 1) b 8 [] := ⟨_, rfl⟩
  rw [← hR]
  have HR := hide hR
  have HB := hide hb
  have HA := hide hA
  have HO := hide hoff
  have HBL := hide hbl
  have HV := hide h
  have HM := hide h.low.2
  clear hR hb hA hoff hbl h
  go_enter Try.func49, Try.ntmps49
  go_wp2_with fail
  go_loopw [5] (fun p wr => ∃ (a f : Nat) (T : PlL), 8 ≤ a ∧ a ≤ n ∧ p = .int .i64 (a : Int) ∧ Hid (n - a < f ∧ R = readV f b a T ∧ T.length ≤ a) ∧ Hid (VolAt wr v d m s T) ∧ Hid (Turn (fun k => k = m) w wr)) (fun p _ => n - (intOf p).toNat)
  case atStart => exact ⟨8, n + 1, [], Nat.le_refl _, h8, rfl, hide ⟨by omega, HR.out, Nat.zero_le _⟩, HV, hide (Turn.refl _ _)⟩
  case round =>
    obtain ⟨a, f, T, ha8, han, rfl, hF, hV, hT⟩ := hrel
    have HI := hide (HA.out.turn hT.out HO.out)
    obtain ⟨g, off, rfl⟩ := isB_at HI.out (by omega)
    obtain ⟨f', rfl⟩ : ∃ f', f = f' + 1 := ⟨f - 1, by have := hF.out.1; omega⟩
    obtain ⟨r, hr⟩ : ∃ r, r = ndDec (b.drop a) := ⟨_, rfl⟩
    have hRR : R = if r.2.2 ≠ 0 ∧ r.2.2 ≠ 4 then (a, T) else readV f' b (a + r.2.1) (takeL (plOf r a) T) := by rw [hF.out.2.1, readV_succ, ← hr]
    have hfit := ndDec_fits (b := b.drop a) (fun x hx => HB.out x (List.mem_of_mem_drop hx))
    rw [← hr, List.length_drop, HBL.out] at hfit
    have hz2 : (a : Int) ≤ (n : Int) := by omega
    have hz3 : (a : Int) ≤ (c : Int) := by omega
    have hit := isB_tail HI.out a han
    by_cases hca : c = a
    · have hna : n - a = 0 := by omega
      have hca2 : c - a = 0 := by omega
      rw [if_pos hca, hna, hca2] at hit
      have DEC := hide (nddec_any (some ⟨g, off, none⟩) 0 0 (b.drop a) wr hit (fun x hx => HB.out x (List.mem_of_mem_drop hx)) (by decide))
      have hnil : b.drop a = [] := List.drop_of_length_le (by rw [HBL.out]; omega)
      have hrs : r = ((0, 0, false, []), 0, 2) := by rw [hr, hnil]; rfl
      rw [← hr, hrs] at DEC
      rw [hrs] at hRR
      have HE : Hid (R = (a, T)) := hide hRR
      clear hfit hRR hrs hnil hit hr hna hca2
      subst hca
      go_wp2_with fail
      refine DEC.out.mono ?_
      rintro e w1 ⟨s0, rfl, o, k⟩
      obtain ⟨A4, c4, rfl, i4, l4, m4⟩ := o.isB.form (n := 0) rfl
      have HV1 := hide (hV.out.below k)
      have HT1 := hide (hT.out.trans (Turn.of_below _ k))
      clear o k i4 DEC
      go_wp2_with fail
      have ka := below_alloc w1 (.cells #[.int .u64 0, .int .u32 0, .bool false, .slice A4 0 c4] 35)
      go_ret
      rw [HE.out]
      exact ⟨rfl, HV1.out.below ka, HT1.out.trans (Turn.of_below _ ka)⟩
    · rw [if_neg hca] at hit
      have DEC := hide (nddec_any (some ⟨g, off + a, none⟩) (n - a) (c - a) (b.drop a) wr hit (fun x hx => HB.out x (List.mem_of_mem_drop hx)) (by omega))
      rw [← hr] at DEC
      obtain ⟨⟨rk, rc, rd, rx⟩, rs, re⟩ := r
      dsimp only at hRR hfit
      have HRR := hide hRR
      have HFT := hide hfit
      clear hRR hfit hit hr
      go_wp2_with fail
      refine DEC.out.mono ?_
      rintro e w1 ⟨s0, rfl, o, k⟩
      obtain ⟨n4, hn4⟩ : ∃ n4, n4 = rx.length := ⟨_, rfl⟩
      obtain ⟨A4, c4, rfl, i4, l4, m4⟩ := o.isB.form hn4.symm
      have HV1 := hide (hV.out.below k)
      have HT1 := hide (hT.out.trans (Turn.of_below _ k))
      clear o k i4 hn4 DEC
      have ka := below_alloc w1 (.cells #[.int .u64 (rk : Int), .int .u32 (rc : Int), .bool rd, .slice A4 n4 c4] 35)
      have HV2 := hide (HV1.out.below ka)
      have HT2 := hide (HT1.out.trans (Turn.of_below _ ka))
      clear ka HV1 HT1
      by_cases hre : re ≠ 0 ∧ re ≠ 4
      · have hr0 : ((re : Int) != 0) = true := by simp; omega
        have hr4 : ((re : Int) != 4) = true := by simp; omega
        have HE : Hid (R = (a, T)) := hide (by rw [HRR.out]; exact if_pos hre)
        clear hre
        go_wp2_with fail
        go_ret
        rw [HE.out]
        exact ⟨rfl, HV2.out, HT2.out⟩
      · obtain ⟨q1, q2, q3, q4, q5⟩ := HFT.out hre
        have HE : Hid (R = readV f' b (a + rs) (takeL (plOf ((rk, rc, rd, rx), rs, re) a) T)) := hide (by rw [HRR.out]; exact if_neg hre)
        have hq : re = 0 ∨ re = 4 := by omega
        have HQ := hide (And.intro q4 q5)
        clear hre q4 q5
        rcases hq with rfl | rfl
        all_goals
          go_wp2_with fail
          refine (placeOf_any rk rc a rs rd A4 n4 c4 _).mono ?_
          rintro e w3 ⟨rfl, k3⟩
          have HV3 := hide (HV2.out.below k3)
          have HT3 := hide (HT2.out.trans (Turn.of_below _ k3))
          clear k3
          go_wp2_with fail
          refine (vtake_any v d m s T ⟨rk, a, rs, rc, rd⟩ w3 HV3.out ⟨HQ.out.1, HQ.out.2, ha8, by show a ≤ _; omega, by show rs ≤ _; omega⟩ (by have := hF.out.2.2; omega)).mono ?_
          rintro e w4 ⟨rfl, v4, t4⟩
          have HV4 := hide v4
          have HT4 := hide (HT3.out.trans t4)
          clear v4 t4
          go_wp2_with fail
          go_roundw
          case rel => exact ⟨a + rs, f', _, by omega, by omega, by go_num, hide ⟨by have := hF.out.1; omega, HE.out, Nat.le_trans (takeL_len _ _) (by have := hF.out.2.2; omega)⟩, HV4, HT4⟩
          case measure => simp [intOf]; omega
end Go.Proofs.Ytehgjkckhjggbaa
