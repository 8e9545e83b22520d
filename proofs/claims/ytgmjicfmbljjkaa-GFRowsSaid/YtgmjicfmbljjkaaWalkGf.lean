/- The walks of the laws GFProducts, GFField, GFInverts and GFPowers: each returns true for every argument, and writes nothing. No condition but the widths. -/
import Derived.Test.YtgmjicfmbljjkaaRPow
import Derived.OpenShut
namespace Go.Proofs.Ytgmjicfmbljjkaa
open Go.RowKit
theorem byte_nat {a : Int} (w : (Lit.int .u8 a).wf = true) : ∃ v : Nat, a = (v : Int) ∧ v < 256 := by
  have b := bounds_u8 w
  exact ⟨a.toNat, by omega, by omega⟩
theorem same_world {e : Ending} {w w' : World} (h : e = .returned (.bool true) ∧ w = w') : e = .returned (.bool true) ∧ Below w.heap.size w w' := by
  obtain ⟨h1, rfl⟩ := h
  exact ⟨h1, Below.refl _ _⟩
set_option maxHeartbeats 800000 in
theorem gFProducts_walk (a0 : Int) (a1 : Int) (w0 : (Lit.int .u8 a0).wf = true) (w1 : (Lit.int .u8 a1).wf = true) (w : World) :
    Calls Try.prog 3 #[.int .u8 a0, .int .u8 a1] w fun e w' => e = .returned (.bool true) ∧ Below w.heap.size w w' := by
  obtain ⟨a, rfl, ha⟩ := byte_nat w0
  obtain ⟨b, rfl, hb⟩ := byte_nat w1
  clear w0 w1
  refine Calls.mono (R := fun e w' => e = .returned (.bool true) ∧ w = w') ?_ fun _ _ h => same_world h
  go_enter Try.func3, Try.ntmps3
  go_wp2_with fail
  refine (mul_any a b _ ha hb).mono ?_
  rintro e w1 ⟨rfl, rfl⟩
  go_wp2_with fail
  refine (rmul_any a b _ ha hb).mono ?_
  rintro e w1 ⟨rfl, rfl⟩
  go_wp2_with fail
  refine (known_any _).mono ?_
  rintro e w1 ⟨rfl, rfl⟩
  go_wp2_with fail
  go_ret
  exact ⟨rfl, rfl⟩
set_option maxHeartbeats 1600000 in
theorem gFField_walk (a0 : Int) (a1 : Int) (a2 : Int) (w0 : (Lit.int .u8 a0).wf = true) (w1 : (Lit.int .u8 a1).wf = true) (w2 : (Lit.int .u8 a2).wf = true) (w : World) :
    Calls Try.prog 4 #[.int .u8 a0, .int .u8 a1, .int .u8 a2] w fun e w' => e = .returned (.bool true) ∧ Below w.heap.size w w' := by
  obtain ⟨a, rfl, ha⟩ := byte_nat w0
  obtain ⟨b, rfl, hb⟩ := byte_nat w1
  obtain ⟨c, rfl, hc⟩ := byte_nat w2
  clear w0 w1 w2
  have hx := u8_xor_nat b c hb hc
  have hbc := xor_lt8 hb hc
  obtain ⟨s, hs⟩ : ∃ s, s = b ^^^ c := ⟨_, rfl⟩
  rw [← hs] at hx hbc
  have hab := gmul_lt b ha
  have hac := gmul_lt c ha
  have hy := u8_xor_nat (gmul a b) (gmul a c) hab hac
  have HS : Hid (gmul a b ^^^ gmul a c = gmul a s) := hide (by rw [hs, gmul_right])
  rw [HS.out] at hy
  clear hs
  refine Calls.mono (R := fun e w' => e = .returned (.bool true) ∧ w = w') ?_ fun _ _ h => same_world h
  go_enter Try.func4, Try.ntmps4
  go_wp2_with fail
  refine (mul_any a b _ ha hb).mono ?_
  rintro e w1 ⟨rfl, rfl⟩
  go_wp2_with fail
  refine (mul_any b a _ hb ha).mono ?_
  rintro e w1 ⟨rfl, rfl⟩
  rw [gmul_comm hb ha]
  go_wp2_with fail
  refine (mul_any b c _ hb hc).mono ?_
  rintro e w1 ⟨rfl, rfl⟩
  go_wp2_with fail
  refine (mul_any a (gmul b c) _ ha (gmul_lt c hb)).mono ?_
  rintro e w1 ⟨rfl, rfl⟩
  go_wp2_with fail
  refine (mul_any a b _ ha hb).mono ?_
  rintro e w1 ⟨rfl, rfl⟩
  go_wp2_with fail
  refine (mul_any (gmul a b) c _ hab hc).mono ?_
  rintro e w1 ⟨rfl, rfl⟩
  rw [gmul_assoc ha hb hc]
  go_wp2_with fail
  refine (mul_any a s _ ha hbc).mono ?_
  rintro e w1 ⟨rfl, rfl⟩
  go_wp2_with fail
  refine (mul_any a b _ ha hb).mono ?_
  rintro e w1 ⟨rfl, rfl⟩
  go_wp2_with fail
  refine (mul_any a c _ ha hc).mono ?_
  rintro e w1 ⟨rfl, rfl⟩
  go_wp2_with fail
  refine (mul_any a 1 _ ha (by decide)).mono ?_
  rintro e w1 ⟨rfl, rfl⟩
  rw [gmul_one ha]
  go_wp2_with fail
  refine (mul_any a 0 _ ha (by decide)).mono ?_
  rintro e w1 ⟨rfl, rfl⟩
  rw [gmul_zero]
  go_wp2_with fail
  refine (known_any _).mono ?_
  rintro e w1 ⟨rfl, rfl⟩
  go_wp2_with fail
  go_ret
  exact ⟨rfl, rfl⟩
set_option maxHeartbeats 800000 in
theorem gFInverts_walk (a0 : Int) (a1 : Int) (w0 : (Lit.int .u8 a0).wf = true) (w1 : (Lit.int .u8 a1).wf = true) (w : World) :
    Calls Try.prog 5 #[.int .u8 a0, .int .u8 a1] w fun e w' => e = .returned (.bool true) ∧ Below w.heap.size w w' := by
  obtain ⟨a, rfl, ha⟩ := byte_nat w0
  obtain ⟨b, rfl, hb⟩ := byte_nat w1
  clear w0 w1
  refine Calls.mono (R := fun e w' => e = .returned (.bool true) ∧ w = w') ?_ fun _ _ h => same_world h
  by_cases h0 : a = 0
  · subst h0
    go_enter Try.func5, Try.ntmps5
    go_wp2_with fail
    refine (inv_none _).mono ?_
    rintro e w1 ⟨rfl, rfl⟩
    go_wp2_with fail
    refine (known_any _).mono ?_
    rintro e w1 ⟨rfl, rfl⟩
    go_wp2_with fail
    go_ret
    exact ⟨rfl, rfl⟩
  · have hne : ((a : Int) == 0) = false := by simp; omega
    have H0 := hide h0
    clear h0
    by_cases h1 : b = 0
    · subst h1
      go_enter Try.func5, Try.ntmps5
      go_wp2_with fail
      refine (inv_some a _ ha H0.out).mono ?_
      rintro e w1 ⟨rfl, rfl⟩
      go_wp2_with fail
      refine (mul_any a (ginv a) _ ha (ginv_lt ha)).mono ?_
      rintro e w1 ⟨rfl, rfl⟩
      rw [gmul_inv ha H0.out]
      go_wp2_with fail
      refine (known_any _).mono ?_
      rintro e w1 ⟨rfl, rfl⟩
      go_wp2_with fail
      go_ret
      exact ⟨rfl, rfl⟩
    · have hnb : ((b : Int) == 0) = false := by simp; omega
      have HM := hide (gmul_ne ha hb H0.out h1)
      clear h1
      have hnm : (((gmul a b : Nat) : Int) != 0) = true := by have := HM.out; simp; omega
      go_enter Try.func5, Try.ntmps5
      go_wp2_with fail
      refine (inv_some a _ ha H0.out).mono ?_
      rintro e w1 ⟨rfl, rfl⟩
      go_wp2_with fail
      refine (mul_any a (ginv a) _ ha (ginv_lt ha)).mono ?_
      rintro e w1 ⟨rfl, rfl⟩
      rw [gmul_inv ha H0.out]
      go_wp2_with fail
      refine (mul_any a b _ ha hb).mono ?_
      rintro e w1 ⟨rfl, rfl⟩
      go_wp2_with fail
      refine (known_any _).mono ?_
      rintro e w1 ⟨rfl, rfl⟩
      go_wp2_with fail
      go_ret
      exact ⟨rfl, rfl⟩
set_option maxHeartbeats 1600000 in
theorem gFPowers_near (a : Nat) (n m : Int) (w : World) (ha : a < 256) (h0 : a ≠ 0) (n1 : -1099511627776 ≤ n) (n2 : n ≤ 1099511627776) (m1 : -1099511627776 ≤ m) (m2 : m ≤ 1099511627776) :
    Calls Try.prog 6 #[.int .u8 (a : Int), .int .i64 n, .int .i64 m] w fun e w' => e = .returned (.bool true) ∧ w = w' := by
  have hne : ((a : Int) == 0) = false := by simp; omega
  have HA : Hid (gmul (powS a n) (powS a m) = powS a (n + m)) := hide (powS_add ha h0)
  have HP : Hid (powS a 255 = 1) := hide (powS_255 h0)
  clear h0
  have hnn : (((powS a n : Nat) : Int) != ((powS a n : Nat) : Int)) = false := by simp
  go_enter Try.func6, Try.ntmps6
  go_wp2_with fail
  refine (pow_any a n _ ha (by omega) (by omega)).mono ?_
  rintro e w1 ⟨rfl, rfl⟩
  go_wp2_with fail
  refine (rpow_any a n _ ha).mono ?_
  rintro e w1 ⟨rfl, rfl⟩
  go_wp2_with fail
  refine (pow_any a n _ ha (by omega) (by omega)).mono ?_
  rintro e w1 ⟨rfl, rfl⟩
  go_wp2_with fail
  refine (pow_any a m _ ha (by omega) (by omega)).mono ?_
  rintro e w1 ⟨rfl, rfl⟩
  go_wp2_with fail
  refine (mul_any (powS a n) (powS a m) _ (powS_lt n ha) (powS_lt m ha)).mono ?_
  rintro e w1 ⟨rfl, rfl⟩
  rw [HA.out]
  go_wp2_with fail
  refine (pow_any a (n + m) _ ha (by omega) (by omega)).mono ?_
  rintro e w1 ⟨rfl, rfl⟩
  go_wp2_with fail
  refine (pow_any a 255 _ ha (by decide) (by decide)).mono ?_
  rintro e w1 ⟨rfl, rfl⟩
  rw [HP.out]
  go_wp2_with fail
  refine (known_any _).mono ?_
  rintro e w1 ⟨rfl, rfl⟩
  go_wp2_with fail
  go_ret
  exact ⟨rfl, rfl⟩
set_option maxHeartbeats 1600000 in
theorem gFPowers_zero (n m : Int) (w : World) (n1 : -9223372036854775808 ≤ n) (n2 : n ≤ 9223372036854775807) :
    Calls Try.prog 6 #[.int .u8 0, .int .i64 n, .int .i64 m] w fun e w' => e = .returned (.bool true) ∧ w = w' := by
  have hnn : (((powS 0 n : Nat) : Int) != ((powS 0 n : Nat) : Int)) = false := by simp
  have HN := hide (And.intro n1 n2)
  clear n1 n2
  go_enter Try.func6, Try.ntmps6
  go_wp2_with fail
  refine (pow_any 0 n _ (by decide) HN.out.1 HN.out.2).mono ?_
  rintro e w1 ⟨rfl, rfl⟩
  go_wp2_with fail
  refine (rpow_any 0 n _ (by decide)).mono ?_
  rintro e w1 ⟨rfl, rfl⟩
  go_wp2_with fail
  refine (known_any _).mono ?_
  rintro e w1 ⟨rfl, rfl⟩
  go_wp2_with fail
  go_ret
  exact ⟨rfl, rfl⟩
set_option maxHeartbeats 1600000 in
theorem gFPowers_far (a : Nat) (n m : Int) (w : World) (ha : a < 256) (h0 : a ≠ 0) (n1 : -9223372036854775808 ≤ n) (n2 : n ≤ 9223372036854775807)
    (h : n < -1099511627776 ∨ (¬ n < -1099511627776 ∧ 1099511627776 < n) ∨ (¬ n < -1099511627776 ∧ ¬ 1099511627776 < n ∧ m < -1099511627776) ∨ (¬ n < -1099511627776 ∧ ¬ 1099511627776 < n ∧ ¬ m < -1099511627776 ∧ 1099511627776 < m)) :
    Calls Try.prog 6 #[.int .u8 (a : Int), .int .i64 n, .int .i64 m] w fun e w' => e = .returned (.bool true) ∧ w = w' := by
  have hne : ((a : Int) == 0) = false := by simp; omega
  have hnn : (((powS a n : Nat) : Int) != ((powS a n : Nat) : Int)) = false := by simp
  have HN := hide (And.intro n1 n2)
  clear n1 n2 h0
  rcases h with h | ⟨h, h'⟩ | ⟨h, h', h''⟩ | ⟨h, h', h'', h3⟩
  all_goals
    go_enter Try.func6, Try.ntmps6
    go_wp2_with fail
    refine (pow_any a n _ ha HN.out.1 HN.out.2).mono ?_
    rintro e w1 ⟨rfl, rfl⟩
    go_wp2_with fail
    refine (rpow_any a n _ ha).mono ?_
    rintro e w1 ⟨rfl, rfl⟩
    go_wp2_with fail
    refine (known_any _).mono ?_
    rintro e w1 ⟨rfl, rfl⟩
    go_wp2_with fail
    go_ret
    exact ⟨rfl, rfl⟩
theorem gFPowers_walk (a0 : Int) (a1 : Int) (a2 : Int) (w0 : (Lit.int .u8 a0).wf = true) (w1 : (Lit.int .i64 a1).wf = true) (_w2 : (Lit.int .i64 a2).wf = true) (w : World) :
    Calls Try.prog 6 #[.int .u8 a0, .int .i64 a1, .int .i64 a2] w fun e w' => e = .returned (.bool true) ∧ Below w.heap.size w w' := by
  obtain ⟨a, rfl, ha⟩ := byte_nat w0
  have b1 := bounds_i64 w1
  refine Calls.mono (R := fun e w' => e = .returned (.bool true) ∧ w = w') ?_ fun _ _ h => same_world h
  by_cases h0 : a = 0
  · subst h0
    exact gFPowers_zero a1 a2 w (by omega) (by omega)
  · by_cases h1 : a1 < -1099511627776
    · exact gFPowers_far a a1 a2 w ha h0 (by omega) (by omega) (.inl h1)
    · by_cases h2 : 1099511627776 < a1
      · exact gFPowers_far a a1 a2 w ha h0 (by omega) (by omega) (.inr (.inl ⟨h1, h2⟩))
      · by_cases h3 : a2 < -1099511627776
        · exact gFPowers_far a a1 a2 w ha h0 (by omega) (by omega) (.inr (.inr (.inl ⟨h1, h2, h3⟩)))
        · by_cases h4 : 1099511627776 < a2
          · exact gFPowers_far a a1 a2 w ha h0 (by omega) (by omega) (.inr (.inr (.inr ⟨h1, h2, h3, h4⟩)))
          · exact gFPowers_near a a1 a2 w ha h0 (by omega) (by omega) (by omega) (by omega)
end Go.Proofs.Ytgmjicfmbljjkaa
