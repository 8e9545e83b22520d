/- The walk of the law DiskKeeps. No conditions but the widths. -/
import Derived.Test.YtgbfmhjnalfnbaaOne
import Derived.Test.YtgbfmhjnalfnbaaKnown
namespace Go.Proofs.Ytgbfmhjnalfnbaa
open Go.RowKit Go.Maps
theorem same_take {xs : List Nat} (m : Nat) (h : m ≤ xs.length) : (xs.take m).length = m := by rw [List.length_take]; omega
set_option maxRecDepth 100000 in
set_option maxHeartbeats 3200000 in
theorem diskKeeps_core (s : ByteArray) (A1 A2 : Option Addr) (n1 c1 n2 c2 : Nat) (xs ys : List Nat) (z : Int) (w : World) (hs : 1 ≤ s.size ∧ s.size ≤ 64) (h1 : IsB w (.slice A1 n1 c1) xs) (h2 : IsB w (.slice A2 n2 c2) ys) (l1 : xs.length = n1) (l2 : ys.length = n2)
    (b1 : ∀ x ∈ xs, x < 256) (b2 : ∀ x ∈ ys, x < 256) (hm : n1 + n2 ≤ 8000) :
    Calls Try.prog 4 #[.string s, .slice A1 n1 c1, .slice A2 n2 c2, .int .i64 z] w fun e w' => e = .returned (.bool true) ∧ Below w.heap.size w w' := by
  have H1 := hide h1
  have H2 := hide h2
  have L1 := hide l1
  have L2 := hide l2
  have B1 := hide b1
  have B2 := hide b2
  have HK : Hid (1 ≤ s.data.toList.length ∧ s.data.toList.length ≤ 64) := hs
  obtain ⟨hs1, hs2⟩ := hs
  have HX1 : Hid (appL 1048576 s.data.toList xs [] = ([(s.data.toList, (xs, 0))], 0)) := appL_new HK.out (by omega)
  have HX2 : Hid (appL 1048576 s.data.toList ys [(s.data.toList, (xs, n1))] = ([(s.data.toList, (xs ++ ys, n1))], 0)) := appL_more HK.out (by omega)
  obtain ⟨m, hm1, hm2, hcr⟩ := crashD_one z.toNat s.data.toList xs ys
  rw [l1] at hm1 hcr
  have hm3 : m ≤ n1 + n2 := by rw [List.length_append, l1, l2] at hm2; exact hm2
  have HCR := hide hcr
  clear h1 h2 l1 l2 b1 b2 hcr hm2
  go_enter Try.func4, Try.ntmps4
  go_wp2_with fail
  refine (new_any 1048576 w (by decide)).mono ?_
  rintro e w1 ⟨d, F1, rfl, d1, u1, k1⟩
  have D1 := hide d1
  have K1 := hide k1
  have U1 := hide u1
  clear d1 u1 k1
  go_wp2_with fail
  refine (append_any F1 d 1048576 [] s A1 n1 c1 xs _ D1.out (by omega) (H1.out.keep K1.out) L1.out B1.out (by omega)).mono ?_
  rintro e w2 ⟨rfl, F2, d2, n2'⟩
  rw [HX1.out] at d2 ⊢
  have K2 := hide (K1.out.trans (n2'.below K1.out.size U1.out))
  have U2 := hide (n2'.up K1.out.size U1.out)
  have D2 := hide d2
  clear d2 n2'
  go_wp2_with fail
  refine (sync_some F2 d 1048576 _ s xs 0 _ D2.out (by omega) (getK_one _ _)).mono ?_
  rintro e w3 ⟨rfl, F3, d3, n3⟩
  rw [putK_one, L1.out] at d3
  have K3 := hide (K2.out.trans (n3.below K2.out.size U2.out))
  have U3 := hide (n3.up K2.out.size U2.out)
  have D3 := hide d3
  clear d3 n3
  go_wp2_with fail
  refine (append_any F3 d 1048576 _ s A2 n2 c2 ys _ D3.out (by omega) (H2.out.keep K3.out) L2.out B2.out (by omega)).mono ?_
  rintro e w4 ⟨rfl, F4, d4, n4⟩
  rw [HX2.out] at d4 ⊢
  have K4 := hide (K3.out.trans (n4.below K3.out.size U3.out))
  have U4 := hide (n4.up K3.out.size U3.out)
  have D4 := hide d4
  clear d4 n4
  go_wp2_with fail
  refine (crash_any F4 d 1048576 _ z _ D4.out).mono ?_
  rintro e w5 ⟨rfl, F5, d5, n5⟩
  rw [HCR.out] at d5
  have K5 := hide (K4.out.trans (n5.below K4.out.size U4.out))
  have D5 := hide d5
  clear d5 n5
  go_wp2_with fail
  refine (read_some F5 d 1048576 _ s ((xs ++ ys).take m) m _ D5.out (by omega) (getK_one _ _)).mono ?_
  rintro e w6 ⟨v, rfl, o6, k6⟩
  have LT : Hid (((xs ++ ys).take m).length = m) := by unfold Hid; rw [List.length_take, List.length_append, L1.out, L2.out]; omega
  obtain ⟨A6, c6, rfl, i6, l6, m6⟩ := o6.isB.form (n := m) LT.out
  have I6 := hide i6
  have K6 := hide (K5.out.trans (k6.mono K5.out.size))
  clear o6 i6 k6
  go_wp2_with (at_builtin; refine halt ?_)
  refine ⟨?_⟩
  have nb := below_alloc w6 (.cells #[] 5)
  refine wpList_append_bytes rfl (.tmp 69) (.tmp 70) rfl w6.heap.size _ [] rfl (own_lit w6 #[] [] rfl (by decide)) _ xs rfl (H1.out.keep (below_step K6.out nb)) (by rw [L1.out, List.length_nil]; omega) nb.size ?_
  intro s7 w7 o7 k7
  rw [List.nil_append] at o7
  have K7 := hide (nb.trans k7)
  have O7 := hide o7
  clear nb o7 k7
  go_wp2_with (at_builtin; refine halt ?_)
  refine ⟨?_⟩
  refine wpList_append_bytes rfl (.tmp 71) (.tmp 72) rfl w6.heap.size _ xs rfl O7.out _ ys rfl (H2.out.keep (below_step K6.out K7.out)) (by rw [L1.out, L2.out]; omega) K7.out.size ?_
  intro s8 w8 o8 k8
  obtain ⟨A8, c8, rfl, i8, l8, m8⟩ := o8.isB.form (n := n1 + n2) (by rw [List.length_append, L1.out, L2.out])
  have K8 := hide (K7.out.trans k8)
  have I8 := hide (i8.take m hm3)
  have I68 := hide (I6.out.keep K8.out)
  have hmc : (m : Int) ≤ (c8 : Int) := by omega
  clear o8 k8 i8
  go_wp2_with fail
  refine (same_any A6 A8 m m c6 c8 _ _ _ I68.out.rd I8.out.rd LT.out.symm LT.out.symm (by omega) (by omega)).mono ?_
  rintro e w9 ⟨rfl, d9, rfl⟩
  rw [decide_eq_true rfl]
  have K9 := hide (below_drewN (below_step K6.out K8.out) d9)
  go_wp2_with fail
  refine (known_any _).mono ?_
  rintro e w10 ⟨rfl, k10⟩
  go_wp2_with fail
  go_ret
  exact ⟨rfl, below_step K9.out k10⟩
theorem diskKeeps_out (s : ByteArray) (A1 A2 : Option Addr) (n1 c1 n2 c2 : Nat) (z : Int) (w : World) (hb : n1 ≤ 140737488351232) (hb2 : n2 ≤ 140737488351232) (hs : s.size ≤ 9223372036854775807) (h : 8000 < n1 + n2 ∨ ¬ 8000 < n1 + n2 ∧ (s.size < 1 ∨ ¬ s.size < 1 ∧ 64 < s.size)) :
    Calls Try.prog 4 #[.string s, .slice A1 n1 c1, .slice A2 n2 c2, .int .i64 z] w fun e w' => e = .returned (.bool true) ∧ Below w.heap.size w w' := by
  rcases h with h | ⟨h, h' | ⟨h', h''⟩⟩
  all_goals
    go_enter Try.func4, Try.ntmps4
    go_wp2_with fail
    go_ret
    exact ⟨rfl, Below.refl _ _⟩
theorem diskKeeps_walk (a0 : ByteArray) (a1 : Option Addr) (len1 cap1 : Nat) (z1 : List Int) (a2 : Option Addr) (len2 cap2 : Nat) (z2 : List Int) (a3 : Int) (w : World) (w0 : a0.size ≤ maxLen) (w1 : IsRow .u8 w a1 len1 cap1 z1) (w2 : IsRow .u8 w a2 len2 cap2 z2) (_w3 : (Lit.int .i64 a3).wf = true)
    (b1 : len1 ≤ 140737488351232) (b2 : len2 ≤ 140737488351232) :
    Calls Try.prog 4 #[.string a0, .slice a1 len1 cap1, .slice a2 len2 cap2, .int .i64 a3] w fun e w' => e = .returned (.bool true) ∧ Below w.heap.size w w' := by
  obtain ⟨xs, hl1, hb1, hM1, _⟩ := w1.isB
  obtain ⟨ys, hl2, hb2, hM2, _⟩ := w2.isB
  unfold maxLen at w0
  by_cases h : 8000 < len1 + len2 ∨ ¬ 8000 < len1 + len2 ∧ (a0.size < 1 ∨ ¬ a0.size < 1 ∧ 64 < a0.size)
  · exact diskKeeps_out a0 a1 a2 len1 cap1 len2 cap2 a3 w b1 b2 w0 h
  · exact diskKeeps_core a0 a1 a2 len1 cap1 len2 cap2 xs ys a3 w (by omega) hM1 hM2 hl1 hl2 hb1 hb2 (by omega)
end Go.Proofs.Ytgbfmhjnalfnbaa
