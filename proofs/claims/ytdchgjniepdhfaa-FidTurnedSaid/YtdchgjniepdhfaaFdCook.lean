/- The contracts of fid.Cookie and of the document's own. No conditions but the widths. -/
import Derived.Test.YtdchgjniepdhfaaFdL
import Derived.Test.YtdchgjniepdhfaaBitTurn
namespace Go.Proofs.Ytdchgjniepdhfaa
open Go.RowKit
theorem xor_walk {x k : Nat} (hx : x < 4294967296) (hk : k < 4294967296) : bits .xor .u32 (x : Int) (k : Int) = ((x ^^^ k : Nat) : Int) := u32_xor_nat x k hx hk
/-- A volume's lowest digits. -/
def lowV (v : Int) : Nat := (v % 4294967296).toNat
theorem lowV_lt (v : Int) : lowV v < 4294967296 := by unfold lowV; omega
theorem lowV_eq (v : Int) : ((lowV v : Nat) : Int) = v % 4294967296 := by unfold lowV; omega
def cookL (v : Int) (k s : Nat) : Nat := ckL 4 (s ^^^ lowV v) k
theorem ck_mul (x : Nat) : IntKind.u32.wrap ((x : Int) * 2654435769) = ((x * 2654435769 % 4294967296 : Nat) : Int) := by
  rw [IntKind.wrap_u32]
  omega
set_option maxHeartbeats 800000 in
theorem cookie_any (v : Int) (k s : Nat) (w : World) (hs : s < 4294967296) (hk : k < 18446744073709551616) :
    Calls Try.prog 12 #[.int .i64 v, .int .u64 (k : Int), .int .u32 (s : Int)] w fun e w' => e = .returned (.int .u32 (cookL v k s : Nat)) ∧ w = w' := by
  have hl := lowV_lt v
  have hx0 : s ^^^ lowV v < 4294967296 := Nat.xor_lt_two_pow (n := 32) hs hl
  have h1 : v % 4294967296 = ((lowV v : Nat) : Int) := (lowV_eq v).symm
  have h2 := xor_walk hs hl
  obtain ⟨x0, hx⟩ : ∃ x0, x0 = s ^^^ lowV v := ⟨_, rfl⟩
  have HC := hide (show cookL v k s = ckL 4 x0 k by rw [hx]; rfl)
  obtain ⟨c, hc⟩ : ∃ c, c = cookL v k s := ⟨_, rfl⟩
  rw [← hc] at HC ⊢
  rw [← hx] at hx0 h2
  have HC' := hide HC.out
  clear hc hx
  go_enter Try.func12, Try.ntmps12
  go_wp2_with fail
  clear h1 h2
  go_loop [1, 7, 12] (fun y x i => ∃ (a b j : Nat), a < 18446744073709551616 ∧ b < 4294967296 ∧ j ≤ 4 ∧ y = .int .u64 (a : Int) ∧ x = .int .u32 (b : Int) ∧ i = .int .i64 (j : Int) ∧ Hid (c = ckL (4 - j) b a)) (fun _ _ i => 4 - (intOf i).toNat)
  case atStart => exact ⟨k, x0, 0, hk, hx0, by omega, rfl, rfl, rfl, HC'⟩
  case round =>
    obtain ⟨a, b, j, ha, hb, hj, rfl, rfl, rfl, hC⟩ := hrel
    by_cases hlt : j < 4
    · have h3 := rot_lt b 5 hb
      have ha2 : (a % 4294967296) < 4294967296 := Nat.mod_lt _ (by omega)
      have h4 := xor_walk h3 ha2
      have h5 := ck_mul (rot b 5 ^^^ a % 4294967296)
      have h6 : c = ckL (4 - (j + 1)) (ckR b a) (a / 65536) := by
        rw [hC.out]
        have : 4 - j = (4 - (j + 1)) + 1 := by omega
        rw [this]
        rfl
      have hR := ckR_lt b a
      have h8 : (rot b 5 ^^^ a % 4294967296) * 2654435769 % 4294967296 = ckR b a := rfl
      rw [h8] at h5
      obtain ⟨z, hz⟩ : ∃ z, z = ckR b a := ⟨_, rfl⟩
      rw [← hz] at h5 h6 hR
      have H6 := hide h6
      obtain ⟨q, hq⟩ : ∃ q, q = rot b 5 ^^^ a % 4294967296 := ⟨_, rfl⟩
      rw [← hq] at h5 h4
      obtain ⟨r, hr⟩ : ∃ r, r = rot b 5 := ⟨_, rfl⟩
      rw [← hr] at h4 h3
      have HR := hide hr
      obtain ⟨m, hm⟩ : ∃ m, m = a % 4294967296 := ⟨_, rfl⟩
      have h7 : (a : Int) % 4294967296 = (m : Int) := by omega
      rw [← hm] at h4
      clear h6 hz h8 hq hr hm ha2
      go_wp2_with fail
      refine (turn_any b 5 _ hb).mono ?_
      rintro e w1 ⟨rfl, rfl⟩
      rw [show turnBy 5 = 5 from rfl, ← HR.out]
      go_wp2_with fail
      go_round
      case rel =>
        exact ⟨a / 65536, z, j + 1, by omega, hR, by omega, by go_num, rfl, by go_num, H6⟩
      case measure => simp [intOf]; omega
    · obtain rfl : j = 4 := by omega
      have h9 : c = b := hC.out
      go_wp2_with fail
      go_ret
      exact ⟨rfl, rfl⟩
set_option maxHeartbeats 800000 in
theorem rcookie_any (v : Int) (k s : Nat) (w : World) (hs : s < 4294967296) (hk : k < 18446744073709551616) :
    Calls Try.prog 13 #[.int .i64 v, .int .u64 (k : Int), .int .u32 (s : Int)] w fun e w' => e = .returned (.int .u32 (cookL v k s : Nat)) ∧ w = w' := by
  have hl := lowV_lt v
  have hx0 : s ^^^ lowV v < 4294967296 := Nat.xor_lt_two_pow (n := 32) hs hl
  have h1 : v % 4294967296 = ((lowV v : Nat) : Int) := (lowV_eq v).symm
  have h2 := xor_walk hs hl
  obtain ⟨x0, hx⟩ : ∃ x0, x0 = s ^^^ lowV v := ⟨_, rfl⟩
  have HC := hide (show cookL v k s = ckL 4 x0 k by rw [hx]; rfl)
  obtain ⟨c, hc⟩ : ∃ c, c = cookL v k s := ⟨_, rfl⟩
  rw [← hc] at HC ⊢
  rw [← hx] at hx0 h2
  have HC' := hide HC.out
  clear hc hx
  go_enter Try.func13, Try.ntmps13
  go_wp2_with fail
  clear h1 h2
  go_loop [1, 7, 8] (fun y x i => ∃ (a b j : Nat), a < 18446744073709551616 ∧ b < 4294967296 ∧ j ≤ 4 ∧ y = .int .u64 (a : Int) ∧ x = .int .u32 (b : Int) ∧ i = .int .i64 (j : Int) ∧ Hid (c = ckL (4 - j) b a)) (fun _ _ i => 4 - (intOf i).toNat)
  case atStart => exact ⟨k, x0, 0, hk, hx0, by omega, rfl, rfl, rfl, HC'⟩
  case round =>
    obtain ⟨a, b, j, ha, hb, hj, rfl, rfl, rfl, hC⟩ := hrel
    by_cases hlt : j < 4
    · have h3 := rot_lt b 5 hb
      have ha2 : (a % 4294967296) < 4294967296 := Nat.mod_lt _ (by omega)
      have h4 := xor_walk h3 ha2
      have h5 := ck_mul (rot b 5 ^^^ a % 4294967296)
      have h6 : c = ckL (4 - (j + 1)) (ckR b a) (a / 65536) := by
        rw [hC.out]
        have : 4 - j = (4 - (j + 1)) + 1 := by omega
        rw [this]
        rfl
      have hR := ckR_lt b a
      have h8 : (rot b 5 ^^^ a % 4294967296) * 2654435769 % 4294967296 = ckR b a := rfl
      rw [h8] at h5
      obtain ⟨z, hz⟩ : ∃ z, z = ckR b a := ⟨_, rfl⟩
      rw [← hz] at h5 h6 hR
      have H6 := hide h6
      obtain ⟨q, hq⟩ : ∃ q, q = rot b 5 ^^^ a % 4294967296 := ⟨_, rfl⟩
      rw [← hq] at h5 h4
      obtain ⟨r, hr⟩ : ∃ r, r = rot b 5 := ⟨_, rfl⟩
      rw [← hr] at h4 h3
      have HR := hide hr
      obtain ⟨m, hm⟩ : ∃ m, m = a % 4294967296 := ⟨_, rfl⟩
      have h7 : (a : Int) % 4294967296 = (m : Int) := by omega
      rw [← hm] at h4
      clear h6 hz h8 hq hr hm ha2
      go_wp2_with fail
      refine (rturn_any b 5 _ hb).mono ?_
      rintro e w1 ⟨rfl, rfl⟩
      rw [show turnBy 5 = 5 from rfl, ← HR.out]
      go_wp2_with fail
      go_round
      case rel =>
        exact ⟨a / 65536, z, j + 1, by omega, hR, by omega, by go_num, rfl, by go_num, H6⟩
      case measure => simp [intOf]; omega
    · obtain rfl : j = 4 := by omega
      have h9 : c = b := hC.out
      go_wp2_with fail
      go_ret
      exact ⟨rfl, rfl⟩
end Go.Proofs.Ytdchgjniepdhfaa
