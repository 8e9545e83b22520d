/- The walk of the law BitsFixed: it returns true for every two numbers and all bytes behind them, and writes nothing that was there. No conditions but the widths. -/
import Derived.Test.YtndkdfbcbofnkaaKnown
import Derived.Test.YtndkdfbcbofnkaaFixed
namespace Go.Proofs.Ytndkdfbcbofnkaa
open Go.RowKit
theorem below_step {w a b : World} (h : Below w.heap.size w a) (k : Below a.heap.size a b) : Below w.heap.size w b := h.trans (k.mono h.size)
theorem below_draw {w a : World} (h : Below w.heap.size w a) (d : Nat) : Below w.heap.size w (a.drewN d) := below_drewN h d
theorem IsB.drewN {w : World} {v : Value} {xs : List Nat} (h : IsB w v xs) (d : Nat) : IsB (w.drewN d) v xs := h
theorem IsB.rd {w : World} {A : Option Addr} {n c : Nat} {xs : List Nat} (h : IsB w (.slice A n c) xs) : Rd w A xs := by
  obtain ⟨A', c', e, r, _⟩ := h
  cases e
  exact r
theorem IsB.form {w : World} {v : Value} {xs : List Nat} {n : Nat} (h : IsB w v xs) (hn : xs.length = n) : ∃ A c, v = .slice A n c ∧ IsB w (.slice A n c) xs ∧ n ≤ c ∧ c ≤ 9223372036854775807 := by
  subst hn
  obtain ⟨A, c, e, r, h1, h2, h3⟩ := h
  exact ⟨A, c, e, ⟨A, c, rfl, r, h1, h2, h3⟩, h2, h3⟩
theorem byte_app {xs ys : List Nat} (h1 : ∀ x ∈ xs, x < 256) (h2 : ∀ x ∈ ys, x < 256) : ∀ x ∈ xs ++ ys, x < 256 := by
  intro x hx
  rcases List.mem_append.1 hx with h | h
  · exact h1 x h
  · exact h2 x h
set_option maxHeartbeats 1600000 in
theorem bitsFixed_core (a b len cap : Nat) (M : Option Addr) (more : List Nat) (w : World) (ha : a < 4294967296) (hb : b < 18446744073709551616)
    (hl : more.length = len) (hby : ∀ x ∈ more, x < 256) (hM : IsB w (.slice M len cap) more) (h3 : len ≤ 3000) :
    Calls Try.prog 6 #[.int .u32 (a : Int), .int .u64 (b : Int), .slice M len cap] w fun e w' => e = .returned (.bool true) ∧ Below w.heap.size w w' := by
  have HA := hide ha
  have HB := hide hb
  have HL := hide hl
  have HBY := hide hby
  have HM := hide hM
  clear ha hb hl hby hM
  go_enter Try.func6, Try.ntmps6
  go_wp2_with fail
  refine (put32_any _ a rfl _ HA.out).mono ?_
  rintro e w1 ⟨s1, rfl, o1, k1⟩
  go_wp2_with fail
  refine (put64_any b _ HB.out).mono ?_
  rintro e w2 ⟨s2, rfl, o2, k2⟩
  have K2 := below_step k1 k2
  go_wp2_with fail
  refine (rput32_any _ a rfl _ HA.out).mono ?_
  rintro e w3 ⟨s3, rfl, o3, k3⟩
  have K3 := below_step K2 k3
  obtain ⟨A1, c1, rfl, i1, l1, m1⟩ := o1.isB.form (be32_len a)
  obtain ⟨A2, c2, rfl, i2, l2, m2⟩ := o2.isB.form (be64_len b)
  obtain ⟨A3, c3, rfl, i3, l3, m3⟩ := o3.isB.form (be32_len a)
  have i1 := (i1.keep k2).keep k3
  have i2 := i2.keep k3
  clear o1 o2 o3 k1 k2 k3 K2
  go_wp2_with fail
  refine (same_any A1 A3 4 4 c1 c3 _ _ _ i1.rd i3.rd rfl rfl (by decide) (by decide)).mono ?_
  rintro e w4 ⟨rfl, d4, rfl⟩
  go_wp2_with fail
  refine (rput64_any b _ HB.out).mono ?_
  rintro e w5 ⟨s5, rfl, o5, k5⟩
  have K5 := below_step (below_draw K3 d4) k5
  obtain ⟨A5, c5, rfl, i5, l5, m5⟩ := o5.isB.form (be64_len b)
  have i1 := (i1.drewN d4).keep k5
  have i2 := (i2.drewN d4).keep k5
  clear o5 k5 K3 i3
  go_wp2_with fail
  refine (same_any A2 A5 8 8 c2 c5 _ _ _ i2.rd i5.rd rfl rfl (by decide) (by decide)).mono ?_
  rintro e w6 ⟨rfl, d6, rfl⟩
  have K6 := below_draw K5 d6
  have i1 := i1.drewN d6
  have i2 := i2.drewN d6
  clear i5 K5
  obtain ⟨W, hW⟩ : ∃ W, W = w5.drewN d6 := ⟨_, rfl⟩
  rw [← hW] at K6 i1 i2 ⊢
  clear hW
  have iM := HM.out.keep K6
  go_wp2_with (at_builtin; refine halt ?_)
  refine ⟨?_⟩
  have nb : Below W.heap.size W (W.alloc (.cells #[] 5)) := (Below.refl _ _).alloc (Nat.le_refl _) _
  refine wpList_append_bytes rfl (.tmp 37) (.tmp 38) rfl W.heap.size _ [] rfl (own_lit W #[] [] rfl (by decide)) _ (be32 a) rfl (i1.keep nb) (by rw [be32_len]; decide) nb.size ?_
  intro s7 w7 o7 k7
  have nb7 := nb.trans k7
  go_wp2_with (at_builtin; refine halt ?_)
  refine ⟨?_⟩
  refine wpList_append_bytes rfl (.tmp 39) (.tmp 40) rfl W.heap.size _ _ rfl o7 _ more rfl (iM.keep nb7) (by rw [List.nil_append, be32_len, HL.out]; omega) nb7.size ?_
  intro s8 w8 o8 k8
  have nb8 := nb7.trans k8
  obtain ⟨A8, c8, rfl, i8, l8, m8⟩ := o8.isB.form (n := 4 + len) (by rw [List.length_append, List.nil_append, be32_len, HL.out])
  have K8 := below_step K6 nb8
  have i1 := i1.keep nb8
  have i2 := i2.keep nb8
  have iM := iM.keep nb8
  clear nb nb7 k7 k8 nb8 o7 o8 K6
  go_wp2_with fail
  refine (get32_any A8 (4 + len) c8 _ _ i8.rd (by rw [List.length_append, List.nil_append, be32_len, HL.out]) (byte_app (by rw [List.nil_append]; exact be32_byte a) HBY.out) (by omega) (by omega)).mono ?_
  rintro e w9 ⟨rfl, d9, rfl⟩
  rw [List.nil_append, val32_be a HA.out]
  have K9 := below_draw K8 d9
  have i1 := i1.drewN d9
  have i2 := i2.drewN d9
  have iM := iM.drewN d9
  clear i8 K8
  obtain ⟨V, hV⟩ : ∃ V, V = w8.drewN d9 := ⟨_, rfl⟩
  rw [← hV] at K9 i1 i2 iM ⊢
  clear hV
  have nb : Below V.heap.size V (V.alloc (.cells #[] 5)) := (Below.refl _ _).alloc (Nat.le_refl _) _
  go_wp2_with (at_builtin; refine halt ?_)
  refine ⟨?_⟩
  refine wpList_append_bytes rfl (.tmp 46) (.tmp 47) rfl V.heap.size _ [] rfl (own_lit V #[] [] rfl (by decide)) _ (be64 b) rfl (i2.keep nb) (by rw [be64_len]; decide) nb.size ?_
  intro s10 w10 o10 k10
  have nb10 := nb.trans k10
  go_wp2_with (at_builtin; refine halt ?_)
  refine ⟨?_⟩
  refine wpList_append_bytes rfl (.tmp 48) (.tmp 49) rfl V.heap.size _ _ rfl o10 _ more rfl (iM.keep nb10) (by rw [List.nil_append, be64_len, HL.out]; omega) nb10.size ?_
  intro s11 w11 o11 k11
  have nb11 := nb10.trans k11
  obtain ⟨A11, c11, rfl, i11, l11, m11⟩ := o11.isB.form (n := 8 + len) (by rw [List.length_append, List.nil_append, be64_len, HL.out])
  have K11 := below_step K9 nb11
  have i1 := i1.keep nb11
  have i2 := i2.keep nb11
  clear nb nb10 k10 k11 nb11 o10 o11 K9 iM
  go_wp2_with fail
  refine (get64_any A11 (8 + len) c11 _ _ i11.rd (by rw [List.length_append, List.nil_append, be64_len, HL.out]) (byte_app (by rw [List.nil_append]; exact be64_byte b) HBY.out) (by omega) l11 m11).mono ?_
  rintro e w12 ⟨rfl, rfl⟩
  rw [List.nil_append, val64_be b HB.out]
  clear i11
  go_wp2_with fail
  refine (get32_short A1 3 c1 _ (by decide)).mono ?_
  rintro e w12 ⟨rfl, rfl⟩
  go_wp2_with fail
  refine (get64_short A2 7 c2 _ (by decide)).mono ?_
  rintro e w12 ⟨rfl, rfl⟩
  go_wp2_with fail
  refine (known_any _).mono ?_
  rintro e w13 ⟨rfl, k13⟩
  go_wp2_with fail
  go_ret
  exact ⟨rfl, below_step K11 k13⟩
set_option maxHeartbeats 400000 in
theorem bitsFixed_long (a b : Int) (len cap : Nat) (M : Option Addr) (w : World) (h3 : ¬ len ≤ 3000) (_h : len ≤ 9223372036854775807) :
    Calls Try.prog 6 #[.int .u32 a, .int .u64 b, .slice M len cap] w fun e w' => e = .returned (.bool true) ∧ Below w.heap.size w w' := by
  go_enter Try.func6, Try.ntmps6
  go_wp2_with fail
  go_ret
  exact ⟨rfl, Below.refl _ _⟩
theorem bitsFixed_walk (a0 : Int) (a1 : Int) (a2 : Option Addr) (len2 cap2 : Nat) (z2 : List Int) (w : World) (w0 : (Lit.int .u32 a0).wf = true) (w1 : (Lit.int .u64 a1).wf = true) (w2 : IsRow .u8 w a2 len2 cap2 z2) :
    Calls Try.prog 6 #[.int .u32 a0, .int .u64 a1, .slice a2 len2 cap2] w fun e w' => e = .returned (.bool true) ∧ Below w.heap.size w w' := by
  have b0 := bounds_u32 w0
  have b1 := bounds_u64 w1
  obtain ⟨xs, hl, hby, hM, hm⟩ := w2.isB
  by_cases h3 : len2 ≤ 3000
  · obtain ⟨a, rfl⟩ := Int.eq_ofNat_of_zero_le b0.1
    obtain ⟨b, rfl⟩ := Int.eq_ofNat_of_zero_le b1.1
    exact bitsFixed_core a b len2 cap2 a2 xs w (by omega) (by omega) hl hby hM h3
  · exact bitsFixed_long a0 a1 len2 cap2 a2 w h3 hm
end Go.Proofs.Ytndkdfbcbofnkaa
