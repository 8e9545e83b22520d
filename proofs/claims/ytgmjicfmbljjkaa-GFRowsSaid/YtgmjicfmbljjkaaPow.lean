/- The contracts of gf.Inv, gf.Pow, of the document's own powers, and of what the law knows. No condition but the widths. -/
import Derived.Test.YtgmjicfmbljjkaaRMul
namespace Go.Proofs.Ytgmjicfmbljjkaa
open Go.RowKit
theorem and_one64 (x : Nat) (hx : x < 18446744073709551616) : bits .and .u64 (x : Int) 1 = ((x % 2 : Nat) : Int) := by
  rw [u64_and _ _ (by omega) (by omega) (by decide) (by decide)]
  have : (1 : Int).toNat = 1 := rfl
  rw [this, nat_mask1, Int.toNat_natCast]
theorem square_even {p x n : Nat} (hx : x < 256) (h : n % 2 = 0) : gmul p (gpow (gmul x x) (n / 2)) = gmul p (gpow x n) := by
  rw [gpow_sq hx]
  congr 2
  omega
theorem square_odd {p x n : Nat} (hp : p < 256) (hx : x < 256) (h : n % 2 = 1) : gmul (gmul p x) (gpow (gmul x x) (n / 2)) = gmul p (gpow x n) := by
  have e : n = 1 + 2 * (n / 2) := by omega
  rw [gpow_sq hx, ← gmul_assoc hp hx (gpow_lt hx _)]
  congr 1
  have h1 : gpow x n = gpow x (1 + 2 * (n / 2)) := by rw [← e]
  rw [h1, gpow_add hx, gpow_one hx]
set_option maxHeartbeats 800000 in
theorem power_any (a n : Nat) (w : World) (ha : a < 256) (hn : n < 18446744073709551616) :
    Calls Try.prog 21 #[.int .u8 (a : Int), .int .u64 (n : Int)] w fun e w' => e = .returned (.int .u8 (gpow a n : Nat)) ∧ w = w' := by
  obtain ⟨r, hr⟩ : ∃ r, r = gpow a n := ⟨_, rfl⟩
  rw [← hr]
  have HR := hide hr
  clear hr
  have HN := hide hn
  clear hn
  go_enter Try.func21, Try.ntmps21
  go_wp2
  go_loop [0, 1, 5] (fun x y p => ∃ u v q : Nat, u < 256 ∧ v ≤ n ∧ q < 256 ∧ Hid (gmul q (gpow u v) = r) ∧ x = .int .u8 (u : Int) ∧ y = .int .u64 (v : Int) ∧ p = .int .u8 (q : Int)) (fun _ y _ => (intOf y).toNat)
  case atStart => exact ⟨a, n, 1, ha, Nat.le_refl _, by decide, hide (by rw [HR.out, one_gmul (gpow_lt ha _)]), rfl, rfl, rfl⟩
  case round =>
    obtain ⟨u, v, q, hu, hv, hq, hs, rfl, rfl, rfl⟩ := hrel
    have o1 := and_one64 v (by have := HN.out; omega)
    by_cases h0 : v = 0
    · subst h0
      go_wp2
      go_ret
      refine ⟨ret_int ?_, rfl⟩
      rw [← hs.out]
      show (q : Int) = ((gmul q 1 : Nat) : Int)
      rw [gmul_one hq]
    · have hne : ((v : Int) != 0) = true := by simp; omega
      by_cases hd : v % 2 = 0
      · rw [hd] at o1
        have HS := hide (square_even (p := q) hu hd)
        clear hd
        go_wp2_with fail
        refine (mul_any u u _ hu hu).mono ?_
        rintro e w1 ⟨rfl, rfl⟩
        go_wp2_with fail
        go_round
        case rel => exact ⟨gmul u u, v / 2, q, gmul_lt _ hu, by omega, hq, hide (by rw [HS.out]; exact hs.out), rfl, by go_num, rfl⟩
        case measure => simp [intOf]; omega
      · have hd1 : v % 2 = 1 := by omega
        rw [hd1] at o1
        have HS := hide (square_odd (p := q) hq hu hd1)
        clear hd hd1
        go_wp2_with fail
        refine (mul_any q u _ hq hu).mono ?_
        rintro e w1 ⟨rfl, rfl⟩
        go_wp2_with fail
        refine (mul_any u u _ hu hu).mono ?_
        rintro e w1 ⟨rfl, rfl⟩
        go_wp2_with fail
        go_round
        case rel => exact ⟨gmul u u, v / 2, gmul q u, gmul_lt _ hu, by omega, gmul_lt _ hq, hide (by rw [HS.out]; exact hs.out), rfl, by go_num, rfl⟩
        case measure => simp [intOf]; omega
theorem inv_none (w : World) :
    Calls Try.prog 11 #[.int .u8 0] w fun e w' => e = .returned (.tuple #[.int .u8 0, .int .i64 1]) ∧ w = w' := by
  go_enter Try.func11, Try.ntmps11
  go_wp2
  go_ret2
  exact ⟨rfl, rfl⟩
theorem inv_some (a : Nat) (w : World) (ha : a < 256) (h0 : a ≠ 0) :
    Calls Try.prog 11 #[.int .u8 (a : Int)] w fun e w' => e = .returned (.tuple #[.int .u8 (ginv a : Nat), .int .i64 0]) ∧ w = w' := by
  have hne : ((a : Int) == 0) = false := by simp; omega
  obtain ⟨r, hr⟩ : ∃ r, r = ginv a := ⟨_, rfl⟩
  rw [← hr]
  have HR := hide hr
  clear hr
  go_enter Try.func11, Try.ntmps11
  go_wp2_with fail
  refine (power_any a 254 _ ha (by omega)).mono ?_
  rintro e w1 ⟨rfl, rfl⟩
  go_wp2_with fail
  go_ret2
  refine ⟨?_, rfl⟩
  rw [HR.out]
  rfl
theorem pow_up (a : Nat) (n : Int) (w : World) (ha : a < 256) (h0 : 0 ≤ n) (h1 : n < 9223372036854775808) :
    Calls Try.prog 12 #[.int .u8 (a : Int), .int .i64 n] w fun e w' => e = .returned (.int .u8 (powS a n : Nat)) ∧ w = w' := by
  rw [← powS_up ha h0]
  obtain ⟨k, rfl⟩ : ∃ k : Nat, n = (k : Int) := ⟨n.toNat, by omega⟩
  have e : ((k : Nat) : Int).toNat = k := by simp
  rw [e]
  clear e
  go_enter Try.func12, Try.ntmps12
  go_wp2_with fail
  refine (power_any a k _ ha (by omega)).mono ?_
  rintro e w1 ⟨rfl, rfl⟩
  go_wp2_with fail
  go_ret
  exact ⟨rfl, rfl⟩
theorem minus_back {k : Nat} (h : k ≤ 9223372036854775808) (h0 : 0 < k) : IntKind.u64.wrap (-IntKind.u64.wrap (-(k : Int))) = (k : Int) := by
  rw [IntKind.wrap_u64, IntKind.wrap_u64]
  omega
set_option maxHeartbeats 800000 in
theorem pow_down (a : Nat) (n : Int) (w : World) (ha : a < 256) (h0 : n < 0) (h1 : -9223372036854775808 ≤ n) :
    Calls Try.prog 12 #[.int .u8 (a : Int), .int .i64 n] w fun e w' => e = .returned (.int .u8 (powS a n : Nat)) ∧ w = w' := by
  obtain ⟨k, rfl⟩ : ∃ k : Nat, n = -(k : Int) := ⟨(-n).toNat, by omega⟩
  have hk : k ≤ 9223372036854775808 := by omega
  have hk0 : 0 < k := by omega
  have hge : ¬ (0 ≤ -(k : Int)) := by omega
  have hmb := minus_back hk hk0
  by_cases hz : a = 0
  · subst hz
    rw [powS_none h0]
    go_enter Try.func12, Try.ntmps12
    go_wp2_with fail
    refine (inv_none _).mono ?_
    rintro e w1 ⟨rfl, rfl⟩
    go_wp2_with fail
    refine (power_any 0 k _ (by decide) (by omega)).mono ?_
    rintro e w1 ⟨rfl, rfl⟩
    go_wp2_with fail
    go_ret
    exact ⟨ret_int (by rw [gpow_zero k (by omega)]), rfl⟩
  · rw [← powS_down ha hz h0]
    have e : (-(-(k : Int))).toNat = k := by simp
    rw [e]
    clear e
    go_enter Try.func12, Try.ntmps12
    go_wp2_with fail
    refine (inv_some a _ ha hz).mono ?_
    rintro e w1 ⟨rfl, rfl⟩
    go_wp2_with fail
    refine (power_any (ginv a) k _ (ginv_lt ha) (by omega)).mono ?_
    rintro e w1 ⟨rfl, rfl⟩
    go_wp2_with fail
    go_ret
    exact ⟨rfl, rfl⟩
theorem pow_any (a : Nat) (n : Int) (w : World) (ha : a < 256) (h0 : -9223372036854775808 ≤ n) (h1 : n ≤ 9223372036854775807) :
    Calls Try.prog 12 #[.int .u8 (a : Int), .int .i64 n] w fun e w' => e = .returned (.int .u8 (powS a n : Nat)) ∧ w = w' := by
  by_cases h : 0 ≤ n
  · exact pow_up a n w ha h (by omega)
  · exact pow_down a n w ha (by omega) h0
end Go.Proofs.Ytgmjicfmbljjkaa
