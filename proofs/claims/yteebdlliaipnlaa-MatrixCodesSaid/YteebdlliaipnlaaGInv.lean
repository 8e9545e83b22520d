/- The contracts of gf's powers and of gf.Inv. No condition but the widths. -/
import Derived.Test.YteebdlliaipnlaaGMul
namespace Go.Proofs.Yteebdlliaipnlaa
open Go.RowKit
theorem and_one64 (x : Nat) (hx : x < 18446744073709551616) : bits .and .u64 (x : Int) 1 = ((x % 2 : Nat) : Int) := by
  rw [u64_and _ _ (by omega) (by omega) (by decide) (by decide)]
  have : (1 : Int).toNat = 1 := rfl
  rw [this, nat_mask1, Int.toNat_natCast]
theorem square_even {p x n : Nat} (hx : x < 256) (h : n % 2 = 0) : gmul p (gpow (gmul x x) (n / 2)) = gmul p (gpow x n) := by
  rw [gpow_sq hx]
  congr 2
  omega
theorem square_odd {p x n : Nat} (hp : p < 256) (hx : x < 256) (h : n % 2 = 1) : gmul (gmul p x) (gpow (gmul x x) (n / 2)) = gmul p (gpow x n) := by
  have e : n = 1 + 2 * (n / 2) := by omega
  rw [gpow_sq hx, ← gmul_assoc hp hx (gpow_lt hx _)]
  congr 1
  have h1 : gpow x n = gpow x (1 + 2 * (n / 2)) := by rw [← e]
  rw [h1, gpow_add hx, gpow_one hx]
set_option maxHeartbeats 800000 in
theorem power_any (a n : Nat) (w : World) (ha : a < 256) (hn : n < 18446744073709551616) :
    Calls Try.prog 46 #[.int .u8 (a : Int), .int .u64 (n : Int)] w fun e w' => e = .returned (.int .u8 (gpow a n : Nat)) ∧ w = w' := by
  obtain ⟨r, hr⟩ : ∃ r, r = gpow a n := ⟨_, rfl⟩
  rw [← hr]
  have HR := hide hr
  clear hr
  have HN := hide hn
  clear hn
  go_enter Try.func46, Try.ntmps46
  go_wp2
  go_loop [0, 1, 5] (fun x y p => ∃ u v q : Nat, u < 256 ∧ v ≤ n ∧ q < 256 ∧ Hid (gmul q (gpow u v) = r) ∧ x = .int .u8 (u : Int) ∧ y = .int .u64 (v : Int) ∧ p = .int .u8 (q : Int)) (fun _ y _ => (intOf y).toNat)
  case atStart => exact ⟨a, n, 1, ha, Nat.le_refl _, by decide, hide (by rw [HR.out, one_gmul (gpow_lt ha _)]), rfl, rfl, rfl⟩
  case round =>
    obtain ⟨u, v, q, hu, hv, hq, hs, rfl, rfl, rfl⟩ := hrel
    have o1 := and_one64 v (by have := HN.out; omega)
    by_cases h0 : v = 0
    · subst h0
      go_wp2
      go_ret
      refine ⟨ret_int ?_, rfl⟩
      rw [← hs.out]
      show (q : Int) = ((gmul q 1 : Nat) : Int)
      rw [gmul_one hq]
    · have hne : ((v : Int) != 0) = true := by simp; omega
      by_cases hd : v % 2 = 0
      · rw [hd] at o1
        have HS := hide (square_even (p := q) hu hd)
        clear hd
        go_wp2_with fail
        refine (mul_any u u _ hu hu).mono ?_
        rintro e w1 ⟨rfl, rfl⟩
        go_wp2_with fail
        go_round
        case rel => exact ⟨gmul u u, v / 2, q, gmul_lt _ hu, by omega, hq, hide (by rw [HS.out]; exact hs.out), rfl, by go_num, rfl⟩
        case measure => simp [intOf]; omega
      · have hd1 : v % 2 = 1 := by omega
        rw [hd1] at o1
        have HS := hide (square_odd (p := q) hq hu hd1)
        clear hd hd1
        go_wp2_with fail
        refine (mul_any q u _ hq hu).mono ?_
        rintro e w1 ⟨rfl, rfl⟩
        go_wp2_with fail
        refine (mul_any u u _ hu hu).mono ?_
        rintro e w1 ⟨rfl, rfl⟩
        go_wp2_with fail
        go_round
        case rel => exact ⟨gmul u u, v / 2, gmul q u, gmul_lt _ hu, by omega, gmul_lt _ hq, hide (by rw [HS.out]; exact hs.out), rfl, by go_num, rfl⟩
        case measure => simp [intOf]; omega
theorem inv_none (w : World) :
    Calls Try.prog 42 #[.int .u8 0] w fun e w' => e = .returned (.tuple #[.int .u8 0, .int .i64 1]) ∧ w = w' := by
  go_enter Try.func42, Try.ntmps42
  go_wp2
  go_ret2
  exact ⟨rfl, rfl⟩
theorem inv_some (a : Nat) (w : World) (ha : a < 256) (h0 : a ≠ 0) :
    Calls Try.prog 42 #[.int .u8 (a : Int)] w fun e w' => e = .returned (.tuple #[.int .u8 (ginv a : Nat), .int .i64 0]) ∧ w = w' := by
  have hne : ((a : Int) == 0) = false := by simp; omega
  obtain ⟨r, hr⟩ : ∃ r, r = ginv a := ⟨_, rfl⟩
  rw [← hr]
  have HR := hide hr
  clear hr
  go_enter Try.func42, Try.ntmps42
  go_wp2_with fail
  refine (power_any a 254 _ ha (by omega)).mono ?_
  rintro e w1 ⟨rfl, rfl⟩
  go_wp2_with fail
  go_ret2
  refine ⟨?_, rfl⟩
  rw [HR.out]
  rfl
end Go.Proofs.Yteebdlliaipnlaa
