/- The walks of the laws BitsReads and BitsVarints: they return true for any bytes, and for every number with any bytes behind it, and write nothing that was there. No conditions but the widths. -/
import Derived.Test.YtndkdfbcbofnkaaKnown
import Derived.Test.YtndkdfbcbofnkaaRoomy
import Derived.Test.YtndkdfbcbofnkaaRead
namespace Go.Proofs.Ytndkdfbcbofnkaa
open Go.RowKit
theorem rvl_le : ∀ (xs : List Nat) (k v : Nat), k ≤ 9 → v < 2 ^ (7 * k) → (rvl k v xs).1 < 18446744073709551616 ∧ (rvl k v xs).2.1 ≤ 10 ∧ (rvl k v xs).2.2 ≤ 3 := by
  intro xs
  induction xs with
  | nil => intro k v _ _; rw [rvl_nil]; decide
  | cons c cs ih =>
    intro k v hk hv
    by_cases h1 : k = 9 ∧ 1 < c
    · rw [rvl_last h1.1 h1.2]; decide
    · by_cases h2 : 128 ≤ c
      · rw [rvl_more (by omega) h2]
        exact ih (k + 1) _ (by omega) (step_lt hv)
      · by_cases h0 : c = 0 ∧ 0 < k
        · rw [rvl_zero h0.1 h0.2]; decide
        · rw [rvl_end h1 (by omega) h0]
          have h3 := sh_lt (c := c) hk (by omega)
          have h4 := v_lt hk hv
          refine ⟨?_, ?_, ?_⟩
          · show v + c % 128 * 2 ^ (7 * k) < _
            by_cases h9 : k = 9
            · subst h9
              have hc : c % 128 ≤ 1 := by omega
              have h5 : c % 128 * 2 ^ (7 * 9) ≤ 1 * 2 ^ (7 * 9) := Nat.mul_le_mul_right _ hc
              have e : 1 * 2 ^ (7 * 9) = 9223372036854775808 := by decide
              omega
            · have h5 := step_lt (c := c) hv
              have h6 : 2 ^ (7 * (k + 1)) ≤ 2 ^ 63 := Nat.pow_le_pow_right (by decide) (by omega)
              have e : (2 : Nat) ^ 63 = 9223372036854775808 := by decide
              omega
          · show k + 1 ≤ 10; omega
          · show 0 ≤ 3; decide
theorem rvl_uvl (more : List Nat) : ∀ (v k a : Nat), k ≤ 9 → v * 2 ^ (7 * k) < 18446744073709551616 → (k = 0 ∨ v ≠ 0) → rvl k a (uvl v ++ more) = (a + v * 2 ^ (7 * k), k + (uvl v).length, 0) := by
  intro v
  induction v using Nat.strongRecOn with
  | _ v ih =>
    intro k a hk hv h0
    have h9 : k = 9 → v < 2 := by
      intro e
      subst e
      have e2 : (2 : Nat) ^ (7 * 9) = 9223372036854775808 := by decide
      rw [e2] at hv
      omega
    by_cases hl : v < 128
    · rw [uvl_low hl, List.cons_append, List.nil_append, rvl_end (by omega) hl (by omega), Nat.mod_eq_of_lt hl]
      rfl
    · rw [uvl_high hl, List.cons_append, rvl_more (by omega) (by omega)]
      have e1 : (v % 128 + 128) % 128 = v % 128 := by omega
      have e2 : 2 ^ (7 * (k + 1)) = 128 * 2 ^ (7 * k) := by rw [show 7 * (k + 1) = 7 * k + 7 from by omega, Nat.pow_add, Nat.mul_comm]
      have e3 : v / 128 * 2 ^ (7 * (k + 1)) + v % 128 * 2 ^ (7 * k) = v * 2 ^ (7 * k) := by
        rw [e2, ← Nat.mul_assoc, ← Nat.add_mul]
        congr 1
        omega
      rw [e1, ih (v / 128) (by omega) (k + 1) _ (by omega) (by omega) (by omega)]
      simp only [List.length_cons, Prod.mk.injEq, and_true]
      omega
set_option maxHeartbeats 1600000 in
theorem bitsReads_core (len cap : Nat) (M : Option Addr) (xs : List Nat) (w : World) (hl : xs.length = len) (hby : ∀ x ∈ xs, x < 256) (hM : IsB w (.slice M len cap) xs) (h3 : len ≤ 3000) :
    Calls Try.prog 4 #[.slice M len cap] w fun e w' => e = .returned (.bool true) ∧ Below w.heap.size w w' := by
  have HL := hide hl
  have HB := hide hby
  have HM := hide hM
  clear hl hby hM
  have hr := rvl_le xs 0 0 (by decide) (by decide)
  obtain ⟨p, q, r, hp⟩ : ∃ p q r, rvl 0 0 xs = (p, q, r) := ⟨_, _, _, rfl⟩
  rw [hp] at hr
  obtain ⟨r1, r2, r3⟩ := hr
  replace r2 : q ≤ 10 := r2
  replace r3 : r ≤ 3 := r3
  clear r1
  have HP := hide hp
  clear hp
  go_enter Try.func4, Try.ntmps4
  go_wp2_with fail
  refine (roomy_any M len cap xs w HM.out HL.out h3).mono ?_
  rintro e w1 ⟨A, c, rfl, i1, l1, m1, k1⟩
  have i2 := i1.take len (by omega)
  rw [List.take_left' HL.out] at i2
  go_wp2_with fail
  refine (read_any A len c xs w1 i2.rd HL.out.symm HB.out (by omega)).mono ?_
  rintro e w2 ⟨rfl, rfl⟩
  rw [HP.out]
  go_wp2_with fail
  refine (rread_any M len cap xs w1 (HM.out.keep k1).rd HL.out.symm HB.out (by omega)).mono ?_
  rintro e w2 ⟨rfl, rfl⟩
  rw [HP.out]
  go_wp2_with fail
  refine (stands_any A c M len cap xs w1 i1 (HM.out.keep k1) HL.out h3 l1 m1).mono ?_
  rintro e w2 ⟨rfl, d, rfl⟩
  go_wp2_with fail
  refine (known_any _).mono ?_
  rintro e w3 ⟨rfl, k3⟩
  go_wp2_with fail
  go_ret
  exact ⟨rfl, below_step (below_draw k1 d) k3⟩
set_option maxHeartbeats 400000 in
theorem bitsReads_long (len cap : Nat) (M : Option Addr) (w : World) (h3 : ¬ len ≤ 3000) (_h : len ≤ 9223372036854775807) :
    Calls Try.prog 4 #[.slice M len cap] w fun e w' => e = .returned (.bool true) ∧ Below w.heap.size w w' := by
  go_enter Try.func4, Try.ntmps4
  go_wp2_with fail
  go_ret
  exact ⟨rfl, Below.refl _ _⟩
theorem bitsReads_walk (a0 : Option Addr) (len0 cap0 : Nat) (z0 : List Int) (w : World) (w0 : IsRow .u8 w a0 len0 cap0 z0) :
    Calls Try.prog 4 #[.slice a0 len0 cap0] w fun e w' => e = .returned (.bool true) ∧ Below w.heap.size w w' := by
  obtain ⟨xs, hl, hby, hM, hm⟩ := w0.isB
  by_cases h3 : len0 ≤ 3000
  · exact bitsReads_core len0 cap0 a0 xs w hl hby hM h3
  · exact bitsReads_long len0 cap0 a0 w h3 hm
set_option maxHeartbeats 1600000 in
theorem bitsVarints_core (v len cap : Nat) (M : Option Addr) (more : List Nat) (w : World) (hv : v < 18446744073709551616) (hl : more.length = len) (hby : ∀ x ∈ more, x < 256) (hM : IsB w (.slice M len cap) more) (h3 : len ≤ 3000) :
    Calls Try.prog 3 #[.int .u64 (v : Int), .slice M len cap] w fun e w' => e = .returned (.bool true) ∧ Below w.heap.size w w' := by
  have HV := hide hv
  have HL := hide hl
  have HB := hide hby
  have HM := hide hM
  obtain ⟨n, hn⟩ : ∃ n, n = (uvl v).length := ⟨_, rfl⟩
  have hn10 : n ≤ 10 := by rw [hn]; exact uvl_len64 v hv
  have hn1 : 1 ≤ n := by
    rw [hn]
    by_cases h : v < 128
    · rw [uvl_low h]; simp
    · rw [uvl_high h]; simp
  have HN := hide hn
  have HR := hide (rvl_uvl more v 0 0 (by decide) (by simpa using hv) (.inl rfl))
  clear hv hl hby hM hn
  go_enter Try.func3, Try.ntmps3
  go_wp2_with fail
  refine (uvarint_any v w HV.out).mono ?_
  rintro e w1 ⟨s1, rfl, o1, k1⟩
  obtain ⟨A1, c1, rfl, i1, l1, m1⟩ := o1.isB.form HN.out.symm
  go_wp2_with fail
  refine (ruvarint_any v _ HV.out).mono ?_
  rintro e w2 ⟨s2, rfl, o2, k2⟩
  obtain ⟨A2, c2, rfl, i2, l2, m2⟩ := o2.isB.form HN.out.symm
  have i1 := i1.keep k2
  have o1 := o1.keep k2
  have K2 := below_step k1 k2
  go_wp2_with fail
  refine (same_any A1 A2 n n c1 c2 (uvl v) (uvl v) _ i1.rd i2.rd HN.out HN.out (by omega) (by omega)).mono ?_
  rintro e w3 ⟨rfl, d, rfl⟩
  have o1 := o1.drewN d
  have iM := (HM.out.keep K2).drewN d
  have K3 := below_draw K2 d
  obtain ⟨W, hW⟩ : ∃ W, W = w2.drewN d := ⟨_, rfl⟩
  rw [← hW] at K3 o1 iM ⊢
  clear hW i1 i2 o2 k1 k2 K2
  go_wp2_with (at_builtin; refine halt ?_)
  refine ⟨?_⟩
  refine wpList_append_bytes rfl (.tmp 28) (.tmp 29) rfl w.heap.size _ _ rfl o1 _ more rfl iM (by rw [← HN.out, HL.out]; omega) K3.size ?_
  intro s4 w4 o4 k4
  have K4 := K3.trans k4
  obtain ⟨A4, c4, rfl, i4, l4, m4⟩ := o4.isB.form (n := n + len) (by rw [List.length_append, ← HN.out, HL.out])
  clear o4 k4 K3 o1 iM
  go_wp2_with fail
  refine (read_any A4 (n + len) c4 _ _ i4.rd (by rw [List.length_append, ← HN.out, HL.out]) (byte_app (uvl_byte v) HB.out) (by omega)).mono ?_
  rintro e w5 ⟨rfl, rfl⟩
  rw [HR.out]
  simp only [Nat.zero_add, Nat.mul_zero, Nat.pow_zero, Nat.mul_one]
  rw [← HN.out]
  go_wp2_with fail
  refine (known_any _).mono ?_
  rintro e w6 ⟨rfl, k6⟩
  go_wp2_with fail
  go_ret
  exact ⟨rfl, below_step K4 k6⟩
set_option maxHeartbeats 400000 in
theorem bitsVarints_long (v : Int) (len cap : Nat) (M : Option Addr) (w : World) (h3 : ¬ len ≤ 3000) (_h : len ≤ 9223372036854775807) :
    Calls Try.prog 3 #[.int .u64 v, .slice M len cap] w fun e w' => e = .returned (.bool true) ∧ Below w.heap.size w w' := by
  go_enter Try.func3, Try.ntmps3
  go_wp2_with fail
  go_ret
  exact ⟨rfl, Below.refl _ _⟩
theorem bitsVarints_walk (a0 : Int) (a1 : Option Addr) (len1 cap1 : Nat) (z1 : List Int) (w : World) (w0 : (Lit.int .u64 a0).wf = true) (w1 : IsRow .u8 w a1 len1 cap1 z1) :
    Calls Try.prog 3 #[.int .u64 a0, .slice a1 len1 cap1] w fun e w' => e = .returned (.bool true) ∧ Below w.heap.size w w' := by
  obtain ⟨xs, hl, hby, hM, hm⟩ := w1.isB
  have b0 := bounds_u64 w0
  by_cases h3 : len1 ≤ 3000
  · obtain ⟨a, rfl⟩ := Int.eq_ofNat_of_zero_le b0.1
    exact bitsVarints_core a len1 cap1 a1 xs w (by omega) hl hby hM h3
  · exact bitsVarints_long a0 len1 cap1 a1 w h3 hm
end Go.Proofs.Ytndkdfbcbofnkaa
