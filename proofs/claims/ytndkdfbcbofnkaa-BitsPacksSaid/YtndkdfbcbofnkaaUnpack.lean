/- The contract of bits.Unpack: any bytes are so many truths, or refused. Conditions: there are at most 3000 bytes. -/
import Derived.Test.YtndkdfbcbofnkaaBools
namespace Go.Proofs.Ytndkdfbcbofnkaa
open Go.RowKit
def bitAt (xs : List Nat) (i : Nat) : Bool := (xs.getD (i / 8) 0).testBit (i % 8)
def bitsOf (xs : List Nat) (n : Nat) : List Bool := (List.range n).map (bitAt xs)
def left (xs : List Nat) (n : Nat) : Prop := ∃ i, n ≤ i ∧ i < 8 * xs.length ∧ bitAt xs i = true
theorem bitsOf_len (xs : List Nat) (n : Nat) : (bitsOf xs n).length = n := by simp [bitsOf]
theorem bitsOf_get (xs : List Nat) (n k : Nat) (h : k < n) : (bitsOf xs n).getD k false = bitAt xs k := by simp [bitsOf, h]
theorem bit_and (x r : Nat) (hx : x < 256) (t : Bool) (ht : x.testBit r = t) : bits .and .u8 ((x : Int) / 2 ^ r) 1 = if t then 1 else 0 := by
  have e : ((x : Int) / 2 ^ r) = ((x / 2 ^ r : Nat) : Int) := by simp
  have hl : x / 2 ^ r < 256 := Nat.lt_of_le_of_lt (Nat.div_le_self _ _) hx
  rw [Nat.testBit_eq_decide_div_mod_eq] at ht
  rw [e]
  obtain ⟨q, hq⟩ : ∃ q, q = x / 2 ^ r := ⟨_, rfl⟩
  rw [← hq] at hl ht ⊢
  rw [u8_and _ _ (by omega) (by omega) (by decide) (by decide)]
  have e1 : (1 : Int).toNat = 1 := rfl
  rw [e1, nat_mask1, Int.toNat_natCast]
  subst ht
  by_cases h : q % 2 = 1
  · simp [h]
  · have : q % 2 = 0 := by omega
    simp [this]
theorem byte_left : ∀ x, x < 256 → ∀ r, r < 8 → ((x / 2 ^ r ≠ 0) ↔ ∃ t, r ≤ t ∧ t < 8 ∧ x.testBit t = true) := by
  intro x hx r hr
  constructor
  · intro h
    have hne : ∃ t, (x / 2 ^ r).testBit t = true := Nat.exists_testBit_of_ne_zero h
    obtain ⟨t, ht⟩ := hne
    rw [Nat.testBit_div_two_pow] at ht
    refine ⟨t + r, by omega, ?_, ht⟩
    rcases Nat.lt_or_ge (t + r) 8 with h8 | h8
    · exact h8
    · have : x.testBit (t + r) = false := Nat.testBit_lt_two_pow (Nat.lt_of_lt_of_le hx (by
        have : 2 ^ 8 ≤ 2 ^ (t + r) := Nat.pow_le_pow_right (by decide) h8
        simpa using this))
      rw [this] at ht
      cases ht
  · rintro ⟨t, h1, _, h3⟩ h0
    have h4 : (x / 2 ^ r).testBit (t - r) = true := by
      rw [Nat.testBit_div_two_pow]
      rwa [show t - r + r = t from by omega]
    rw [h0] at h4
    simp at h4
/-- Of bytes that are just as many as are needed a digit is left over just if the last byte says so. -/
theorem left_last (xs : List Nat) (n : Nat) (hb : ∀ x ∈ xs, x < 256) (hl : xs.length = need n) (hr : n % 8 ≠ 0) : left xs n ↔ xs.getD (need n - 1) 0 / 2 ^ (n % 8) ≠ 0 := by
  have hn : need n = n / 8 + 1 := by unfold need; rw [if_neg hr]
  have hx : xs.getD (need n - 1) 0 < 256 := by
    have hi : need n - 1 < xs.length := by omega
    have e : xs.getD (need n - 1) 0 = xs[need n - 1] := by simp [hi]
    rw [e]; exact hb _ (List.getElem_mem hi)
  rw [byte_left _ hx _ (by omega)]
  constructor
  · rintro ⟨i, h1, h2, h3⟩
    have e : i / 8 = need n - 1 := by omega
    unfold bitAt at h3
    rw [e] at h3
    exact ⟨i % 8, by omega, by omega, h3⟩
  · rintro ⟨t, h1, h2, h3⟩
    refine ⟨8 * (need n - 1) + t, by omega, by omega, ?_⟩
    unfold bitAt
    have e1 : (8 * (need n - 1) + t) / 8 = need n - 1 := by omega
    have e2 : (8 * (need n - 1) + t) % 8 = t := by omega
    rw [e1, e2]
    exact h3
theorem left_none (xs : List Nat) (n : Nat) (hl : xs.length = need n) (hr : n % 8 = 0) : ¬ left xs n := by
  have hn : need n = n / 8 := by unfold need; rw [if_pos hr]; rfl
  rintro ⟨i, h1, h2, _⟩
  omega
theorem fill_set (l : List Bool) (n k : Nat) (hl : l.length = n) (hk : k < n) :
    (l.take k ++ List.replicate (n - k) false).set k (l.getD k false) = l.take (k + 1) ++ List.replicate (n - (k + 1)) false := by
  have h1 : (l.take k).length = k := by rw [List.length_take]; omega
  have h2 : List.replicate (n - k) false = false :: List.replicate (n - (k + 1)) false := by
    rw [show n - k = (n - (k + 1)) + 1 from by omega, List.replicate_succ]
  rw [List.set_append_right _ _ (by omega), h1, Nat.sub_self, h2, List.set_cons_zero, List.take_succ_eq_append_getElem (by omega), List.append_assoc]
  have e : l.getD k false = l[k] := by simp [show k < l.length by omega]
  rw [e]
  rfl
theorem fill_len (l : List Bool) (n k : Nat) (hl : l.length = n) (hk : k ≤ n) : (l.take k ++ List.replicate (n - k) false).length = n := by
  simp; omega
/-- What Unpack says: the error, and the truths. -/
def Unp (xs : List Nat) (n : Int) (e : Nat) (l : List Bool) : Prop :=
  (n < 0 ∧ e = 1 ∧ l = []) ∨ (0 ≤ n ∧ xs.length < need n.toNat ∧ e = 2 ∧ l = []) ∨ (0 ≤ n ∧ need n.toNat < xs.length ∧ e = 3 ∧ l = []) ∨
  (0 ≤ n ∧ xs.length = need n.toNat ∧ left xs n.toNat ∧ e = 3 ∧ l = []) ∨ (0 ≤ n ∧ xs.length = need n.toNat ∧ ¬ left xs n.toNat ∧ e = 0 ∧ l = bitsOf xs n.toNat)
set_option maxHeartbeats 400000 in
theorem unpack_neg (A : Option Addr) (len c : Nat) (n : Int) (w : World) (hn : n < 0) :
    Calls Try.prog 37 #[.slice A len c, .int .i64 n] w fun e w' => e = .returned (.tuple #[.slice none 0 0, .int .i64 1]) ∧ w = w' := by
  go_enter Try.func37, Try.ntmps37
  go_wp2_with fail
  go_ret2
  exact ⟨rfl, rfl⟩
set_option maxHeartbeats 400000 in
theorem unpack_short (A : Option Addr) (len c n : Nat) (w : World) (hn : n < 9223372036854775808) (h : len < need n) (_hl : len ≤ 3000) :
    Calls Try.prog 37 #[.slice A len c, .int .i64 (n : Int)] w fun e w' => e = .returned (.tuple #[.slice none 0 0, .int .i64 2]) ∧ w = w' := by
  have HN := hide hn
  obtain ⟨m, hm⟩ : ∃ m, m = need n := ⟨_, rfl⟩
  rw [← hm] at h
  have HM := hide hm
  clear hn hm
  go_enter Try.func37, Try.ntmps37
  go_wp2_with fail
  refine (bytesOf_any n _ HN.out).mono ?_
  rintro e w1 ⟨rfl, rfl⟩
  rw [← HM.out]
  go_wp2_with fail
  go_ret2
  exact ⟨rfl, rfl⟩
set_option maxHeartbeats 400000 in
theorem unpack_long (A : Option Addr) (len c n : Nat) (w : World) (hn : n < 9223372036854775808) (h : need n < len) (_hl : len ≤ 3000) :
    Calls Try.prog 37 #[.slice A len c, .int .i64 (n : Int)] w fun e w' => e = .returned (.tuple #[.slice none 0 0, .int .i64 3]) ∧ w = w' := by
  have HN := hide hn
  obtain ⟨m, hm⟩ : ∃ m, m = need n := ⟨_, rfl⟩
  rw [← hm] at h
  have HM := hide hm
  clear hn hm
  go_enter Try.func37, Try.ntmps37
  go_wp2_with fail
  refine (bytesOf_any n _ HN.out).mono ?_
  rintro e w1 ⟨rfl, rfl⟩
  rw [← HM.out]
  go_wp2_with fail
  go_ret2
  exact ⟨rfl, rfl⟩
set_option maxHeartbeats 800000 in
theorem unpack_left (A : Option Addr) (c n : Nat) (xs : List Nat) (w : World) (hA : Rd w A xs) (hb : ∀ x ∈ xs, x < 256) (hn : n < 9223372036854775808) (h : xs.length = need n) (hl : xs.length ≤ 3000) (hleft : left xs n) :
    Calls Try.prog 37 #[.slice A (need n) c, .int .i64 (n : Int)] w fun e w' => e = .returned (.tuple #[.slice none 0 0, .int .i64 3]) ∧ w = w' := by
  have hr : n % 8 ≠ 0 := fun e => left_none xs n h e hleft
  have hq := (left_last xs n hb h hr).1 hleft
  have hn1 : need n = n / 8 + 1 := by unfold need; rw [if_neg hr]
  have ha := and7 n hn
  have HN := hide hn
  obtain ⟨b, off, rfl, hcell⟩ := hA (by intro e; rw [e] at h; simp at h; omega)
  obtain ⟨x, cx, lx, ex⟩ := rd_at hcell hb (need n - 1) (by omega)
  rw [← ex] at hq
  obtain ⟨m, hm⟩ : ∃ m, m = need n := ⟨_, rfl⟩
  rw [← hm] at h cx hn1 ⊢
  have hm1 : 1 ≤ m := by omega
  rw [h] at hl
  have HM := hide hm
  obtain ⟨r, hre⟩ : ∃ r, r = n % 8 := ⟨_, rfl⟩
  rw [← hre] at hr hq ha
  have hr8 : r < 8 := by omega
  have hr0 : ((r : Int) != 0) = true := by simp; omega
  have hq0 : (((x : Int) / 2 ^ r) != 0) = true := by
    have e : ((x : Int) / 2 ^ r) = ((x / 2 ^ r : Nat) : Int) := by simp
    rw [e]
    obtain ⟨q, hq1⟩ : ∃ q, q = x / 2 ^ r := ⟨_, rfl⟩
    rw [← hq1] at hq ⊢
    simp; omega
  clear hn hm hcell ex h hleft hr hre hn1 hq hA hb
  go_enter Try.func37, Try.ntmps37
  go_wp2_with fail
  refine (bytesOf_any n _ HN.out).mono ?_
  rintro e w1 ⟨rfl, rfl⟩
  rw [← HM.out]
  go_wp2_with fail
  go_ret2
  exact ⟨rfl, rfl⟩
end Go.Proofs.Ytndkdfbcbofnkaa
