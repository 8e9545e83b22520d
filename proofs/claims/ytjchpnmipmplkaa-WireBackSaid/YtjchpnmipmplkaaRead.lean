/- The contracts of bits.ReadUvarint and of the document's own: the number at the beginning of bytes, or why there is none. Conditions: the widths, and that the row is no longer than a slice may be. -/
import Derived.Test.YtjchpnmipmplkaaApp
import Derived.Test.YtjchpnmipmplkaaUvarint
namespace Go.Proofs.Ytjchpnmipmplkaa
open Go.RowKit
def rvl : Nat → Nat → List Nat → Nat × Nat × Nat
  | _, _, [] => (0, 0, 2)
  | k, v, c :: cs =>
    if k = 9 ∧ 1 < c then (0, 0, 3)
    else if 128 ≤ c then rvl (k + 1) (v + c % 128 * 2 ^ (7 * k)) cs
    else if c = 0 ∧ 0 < k then (0, 0, 3)
    else (v + c % 128 * 2 ^ (7 * k), k + 1, 0)
theorem rvl_nil (k v : Nat) : rvl k v [] = (0, 0, 2) := rfl
theorem rvl_last {k v c : Nat} {cs : List Nat} (h9 : k = 9) (h1 : 1 < c) : rvl k v (c :: cs) = (0, 0, 3) := by rw [rvl, if_pos ⟨h9, h1⟩]
theorem rvl_more {k v c : Nat} {cs : List Nat} (h9 : k < 9) (h1 : 128 ≤ c) : rvl k v (c :: cs) = rvl (k + 1) (v + c % 128 * 2 ^ (7 * k)) cs := by rw [rvl, if_neg (by omega), if_pos h1]
theorem rvl_zero {k v c : Nat} {cs : List Nat} (h0 : c = 0) (h1 : 0 < k) : rvl k v (c :: cs) = (0, 0, 3) := by rw [rvl, if_neg (by omega), if_neg (by omega), if_pos ⟨h0, h1⟩]
theorem rvl_end {k v c : Nat} {cs : List Nat} (h9 : ¬ (k = 9 ∧ 1 < c)) (h1 : c < 128) (h0 : ¬ (c = 0 ∧ 0 < k)) : rvl k v (c :: cs) = (v + c % 128 * 2 ^ (7 * k), k + 1, 0) := by rw [rvl, if_neg h9, if_neg (by omega), if_neg h0]
theorem drop_get {xs : List Nat} {k : Nat} (h : k < xs.length) : xs.drop k = xs.getD k 0 :: xs.drop (k + 1) := by
  rw [List.drop_eq_getElem_cons h]
  simp [h]
theorem andNot128 (c : Nat) (h : c < 256) : bits .andNot .u8 (c : Int) 128 = ((c % 128 : Nat) : Int) := by
  rw [u8_andNot _ _ (by omega) (by omega) (by decide) (by decide)]
  have h2 : (128 : Int).toNat = 128 := rfl
  rw [h2, Int.toNat_natCast]
  have : ∀ z, z < 256 → z &&& (255 - 128) = z % 128 := by decide +kernel
  rw [this c h]
theorem step_lt {v c k : Nat} (hv : v < 2 ^ (7 * k)) : v + c % 128 * 2 ^ (7 * k) < 2 ^ (7 * (k + 1)) := by
  have e : 2 ^ (7 * (k + 1)) = 128 * 2 ^ (7 * k) := by rw [show 7 * (k + 1) = 7 * k + 7 from by omega, Nat.pow_add, Nat.mul_comm]
  rw [e]
  have : c % 128 * 2 ^ (7 * k) ≤ 127 * 2 ^ (7 * k) := Nat.mul_le_mul_right _ (by omega)
  omega
theorem sh_lt {c k : Nat} (hk : k ≤ 9) (h9 : k = 9 → c ≤ 1) : c % 128 * 2 ^ (7 * k) < 18446744073709551616 := by
  by_cases h : k = 9
  · subst h
    have := h9 rfl
    have : c % 128 * 2 ^ (7 * 9) ≤ 1 * 2 ^ (7 * 9) := Nat.mul_le_mul_right _ (by omega)
    have e : 1 * 2 ^ (7 * 9) = 9223372036854775808 := by decide
    omega
  · have h1 : c % 128 * 2 ^ (7 * k) < 128 * 2 ^ (7 * k) := Nat.mul_lt_mul_of_pos_right (by omega) (Nat.two_pow_pos _)
    have h2 : 2 ^ (7 * k) ≤ 2 ^ 56 := Nat.pow_le_pow_right (by decide) (by omega)
    have e : (2 : Nat) ^ 56 = 72057594037927936 := by decide
    omega
theorem v_lt {v k : Nat} (hk : k ≤ 9) (hv : v < 2 ^ (7 * k)) : v < 9223372036854775808 := by
  have h2 : 2 ^ (7 * k) ≤ 2 ^ 63 := Nat.pow_le_pow_right (by decide) (by omega)
  have e : (2 : Nat) ^ 63 = 9223372036854775808 := by decide
  omega
theorem or_read {v c k : Nat} (hk : k ≤ 9) (h9 : k = 9 → c ≤ 1) (hv : v < 2 ^ (7 * k)) :
    bits .or .u64 (v : Int) ((c % 128 * 2 ^ (7 * k) : Nat) : Int) = ((v + c % 128 * 2 ^ (7 * k) : Nat) : Int) := by
  rw [u64_or_nat _ _ (by have := v_lt hk hv; omega) (sh_lt hk h9), Nat.or_comm, nat_join (7 * k) _ _ (Nat.mul_mod_left _ _) hv, Nat.add_comm]
theorem or_walk {v c k : Nat} (hk : k ≤ 9) (h9 : k = 9 → c ≤ 1) (hv : v < 2 ^ (7 * k)) :
    bits .or .u64 (v : Int) (IntKind.u64.wrap ((c : Int) % 128 * 2 ^ (7 * k))) = ((v + c % 128 * 2 ^ (7 * k) : Nat) : Int) := by
  rw [← or_read hk h9 hv]
  have e : ((c : Int) % 128 * 2 ^ (7 * k)) = ((c % 128 * 2 ^ (7 * k) : Nat) : Int) := by simp
  rw [e, IntKind.wrap_u64]
  have := sh_lt (c := c) hk h9
  congr 1
  omega
theorem or_zero (v : Nat) (hv : v < 9223372036854775808) : bits .or .u64 (v : Int) (IntKind.u64.wrap 0) = (v : Int) := by
  have e : IntKind.u64.wrap 0 = ((0 : Nat) : Int) := by decide
  rw [e, u64_or_nat _ _ (by omega) (by omega), Nat.or_zero]
theorem ret3 {a b c a' b' c' : Int} (h1 : a = a') (h2 : b = b') (h3 : c = c') : Ending.returned (.tuple #[.int .u64 a, .int .i64 b, .int .i64 c]) = .returned (.tuple #[.int .u64 a', .int .i64 b', .int .i64 c']) := by rw [h1, h2, h3]
set_option maxHeartbeats 1600000 in
set_option maxRecDepth 100000 in
theorem read_any (A : Option Addr) (n c : Nat) (xs : List Nat) (w : World) (hA : Rd w A xs) (hn : n = xs.length) (hb : ∀ x ∈ xs, x < 256) (ln : n ≤ 9223372036854775807) :
    Calls Try.prog 48 #[.slice A n c] w fun e w' => e = .returned (.tuple #[.int .u64 ((rvl 0 0 xs).1 : Nat), .int .i64 ((rvl 0 0 xs).2.1 : Nat), .int .i64 ((rvl 0 0 xs).2.2 : Nat)]) ∧ w = w' := by
  have HA := hide hA
  have HN := hide hn
  have HB := hide hb
  clear hA hn hb
  obtain ⟨r, hr⟩ : ∃ r, r = rvl 0 0 xs := ⟨_, rfl⟩
  rw [← hr]
  have HR := hide hr
  clear hr
  go_enter Try.func48, Try.ntmps48
  go_wp2
  go_loop [5, 11] (fun s i => ∃ k v : Nat, k ≤ n ∧ k ≤ 9 ∧ i = .int .i64 (k : Int) ∧ s = .int .u64 (v : Int) ∧ Hid (v < 2 ^ (7 * k)) ∧ Hid (r = rvl k v (xs.drop k))) (fun _ i => n - (intOf i).toNat)
  case atStart => exact ⟨0, 0, by omega, by omega, rfl, rfl, by unfold Hid; decide, HR.out⟩
  case round =>
    obtain ⟨k, v, hk, hk9, rfl, rfl, hv, hrv⟩ := hrel
    by_cases hlt : k < n
    · obtain ⟨b, off, rfl, hcell⟩ := HA.out (by intro e; rw [HN.out, e] at hlt; simp at hlt)
      obtain ⟨x, cx, lx, ex⟩ := rd_at hcell HB.out k (by rw [← HN.out]; exact hlt)
      have hd := drop_get (xs := xs) (k := k) (by rw [← HN.out]; exact hlt)
      rw [← ex] at hd
      have hrv := hrv.out
      rw [hd] at hrv
      clear hcell hd ex
      have han := andNot128 x lx
      have hv63 := v_lt hk9 hv.out
      by_cases h1 : k = 9 ∧ 1 < x
      · obtain ⟨h9, h1⟩ := h1
        rw [rvl_last h9 h1] at hrv
        subst hrv
        subst h9
        by_cases h2 : 128 ≤ x
        · go_wp2
          go_ret3
          exact ⟨rfl, rfl⟩
        · go_wp2
          go_ret3
          exact ⟨rfl, rfl⟩
      · have HOR := hide (or_walk (c := x) hk9 (by omega) hv.out)
        by_cases h2 : 128 ≤ x
        · have h8 : k < 9 := by omega
          rw [rvl_more h8 h2] at hrv
          have HV := hide (step_lt (c := x) hv.out)
          have HRV := hide hrv
          clear hrv h1
          go_wp2
          go_round
          case rel => exact ⟨k + 1, _, by omega, by omega, by go_num, by rw [HOR.out], HV, HRV⟩
          case measure => simp [intOf]; omega
        · by_cases h0 : x = 0 ∧ 0 < k
          · obtain ⟨h0, h00⟩ := h0
            rw [rvl_zero h0 h00] at hrv
            subst hrv
            subst h0
            clear h1
            by_cases h9 : k = 9
            · subst h9
              go_wp2
              go_ret3
              exact ⟨rfl, rfl⟩
            · go_wp2
              go_ret3
              exact ⟨rfl, rfl⟩
          · rw [rvl_end h1 (by omega) h0] at hrv
            subst hrv
            by_cases h9 : k = 9
            · have hx : x = 1 := by omega
              subst hx
              subst h9
              clear h0 h1
              go_wp2
              go_ret3
              exact ⟨ret3 HOR.out (by omega) rfl, rfl⟩
            · by_cases hk0 : k = 0
              · have hk1 : k ≤ 0 := by omega
                clear h0 h1 hk0
                by_cases hx : x = 0
                · have hx1 : x ≤ 0 := by omega
                  clear hx
                  go_wp2
                  go_ret3
                  exact ⟨ret3 (or_zero v hv63) (by omega) rfl, rfl⟩
                · go_wp2
                  go_ret3
                  exact ⟨ret3 HOR.out (by omega) rfl, rfl⟩
              · have hx : ¬ x = 0 := by omega
                clear h0 h1
                go_wp2
                go_ret3
                exact ⟨ret3 HOR.out (by omega) rfl, rfl⟩
    · have hd : xs.drop k = [] := List.drop_of_length_le (by rw [← HN.out]; omega)
      have hrv := hrv.out
      rw [hd, rvl_nil] at hrv
      subst hrv
      clear hd
      go_wp2
      go_ret3
      exact ⟨rfl, rfl⟩
set_option maxHeartbeats 1600000 in
set_option maxRecDepth 100000 in
theorem rread_any (A : Option Addr) (n c : Nat) (xs : List Nat) (w : World) (hA : Rd w A xs) (hn : n = xs.length) (hb : ∀ x ∈ xs, x < 256) (ln : n ≤ 9223372036854775807) :
    Calls Try.prog 42 #[.slice A n c] w fun e w' => e = .returned (.tuple #[.int .u64 ((rvl 0 0 xs).1 : Nat), .int .i64 ((rvl 0 0 xs).2.1 : Nat), .int .i64 ((rvl 0 0 xs).2.2 : Nat)]) ∧ w = w' := by
  have HA := hide hA
  have HN := hide hn
  have HB := hide hb
  clear hA hn hb
  obtain ⟨r, hr⟩ : ∃ r, r = rvl 0 0 xs := ⟨_, rfl⟩
  rw [← hr]
  have HR := hide hr
  clear hr
  go_enter Try.func42, Try.ntmps42
  go_wp2
  go_loop [5, 6] (fun s i => ∃ k v : Nat, k ≤ n ∧ k ≤ 9 ∧ i = .int .i64 (k : Int) ∧ s = .int .u64 (v : Int) ∧ Hid (v < 2 ^ (7 * k)) ∧ Hid (r = rvl k v (xs.drop k))) (fun _ i => n - (intOf i).toNat)
  case atStart => exact ⟨0, 0, by omega, by omega, rfl, rfl, by unfold Hid; decide, HR.out⟩
  case round =>
    obtain ⟨k, v, hk, hk9, rfl, rfl, hv, hrv⟩ := hrel
    by_cases hlt : k < n
    · obtain ⟨b, off, rfl, hcell⟩ := HA.out (by intro e; rw [HN.out, e] at hlt; simp at hlt)
      obtain ⟨x, cx, lx, ex⟩ := rd_at hcell HB.out k (by rw [← HN.out]; exact hlt)
      have hd := drop_get (xs := xs) (k := k) (by rw [← HN.out]; exact hlt)
      rw [← ex] at hd
      have hrv := hrv.out
      rw [hd] at hrv
      clear hcell hd ex
      have hv63 := v_lt hk9 hv.out
      by_cases h1 : k = 9 ∧ 1 < x
      · obtain ⟨h9, h1⟩ := h1
        rw [rvl_last h9 h1] at hrv
        subst hrv
        subst h9
        by_cases h2 : 128 ≤ x
        · go_wp2
          go_ret3
          exact ⟨rfl, rfl⟩
        · go_wp2
          go_ret3
          exact ⟨rfl, rfl⟩
      · have HOR := hide (or_walk (c := x) hk9 (by omega) hv.out)
        by_cases h2 : 128 ≤ x
        · have h8 : k < 9 := by omega
          rw [rvl_more h8 h2] at hrv
          have HV := hide (step_lt (c := x) hv.out)
          have HRV := hide hrv
          clear hrv h1
          go_wp2
          go_round
          case rel => exact ⟨k + 1, _, by omega, by omega, by go_num, by rw [HOR.out], HV, HRV⟩
          case measure => simp [intOf]; omega
        · by_cases h0 : x = 0 ∧ 0 < k
          · obtain ⟨h0, h00⟩ := h0
            rw [rvl_zero h0 h00] at hrv
            subst hrv
            subst h0
            clear h1
            by_cases h9 : k = 9
            · subst h9
              go_wp2
              go_ret3
              exact ⟨rfl, rfl⟩
            · go_wp2
              go_ret3
              exact ⟨rfl, rfl⟩
          · rw [rvl_end h1 (by omega) h0] at hrv
            subst hrv
            by_cases h9 : k = 9
            · have hx : x = 1 := by omega
              subst hx
              subst h9
              clear h0 h1
              go_wp2
              go_ret3
              exact ⟨ret3 HOR.out (by omega) rfl, rfl⟩
            · by_cases hk0 : k = 0
              · have hk1 : k ≤ 0 := by omega
                clear h0 h1 hk0
                by_cases hx : x = 0
                · have hx1 : x ≤ 0 := by omega
                  clear hx
                  go_wp2
                  go_ret3
                  exact ⟨ret3 (or_zero v hv63) (by omega) rfl, rfl⟩
                · go_wp2
                  go_ret3
                  exact ⟨ret3 HOR.out (by omega) rfl, rfl⟩
              · have hx : ¬ x = 0 := by omega
                clear h0 h1
                go_wp2
                go_ret3
                exact ⟨ret3 HOR.out (by omega) rfl, rfl⟩
    · have hd : xs.drop k = [] := List.drop_of_length_le (by rw [← HN.out]; omega)
      have hrv := hrv.out
      rw [hd, rvl_nil] at hrv
      subst hrv
      clear hd
      go_wp2
      go_ret3
      exact ⟨rfl, rfl⟩
end Go.Proofs.Ytjchpnmipmplkaa
