/- The walk of the law NeedleCuts: it returns true for any needle and any place. Condition: no row is longer than the form's reach. -/
import Derived.Test.YtkgkhielfodmmaaNdKnow
import Derived.Test.YtkgkhielfodmmaaNdDecA
namespace Go.Proofs.Ytkgkhielfodmmaa
open Go.RowKit
theorem ndDec_cut0 (w : World) (e : Ending) (w' : World) (h : DecAns w ((0, 0, false, []), 0, 2) e w') : ∃ s, e = .returned (.tuple #[.agg #[.int .u64 0, .int .u32 0, .bool false, s], .int .i64 0, .int .i64 2]) ∧ Own w' w.heap.size s [] ∧ Below w.heap.size w w' := h
set_option maxRecDepth 100000 in
set_option maxHeartbeats 1600000 in
theorem needleCuts_core (key cook : Nat) (d : Bool) (A : Option Addr) (n c : Nat) (data : List Nat) (z : Int) (w : World) (hA : IsB w (.slice A n c) data) (hn : data.length = n) (hb : ∀ x ∈ data, x < 256) (hk : key < 18446744073709551616) (hc : cook < 4294967296) (h5 : n ≤ 5000) (hd : ¬ (d = true ∧ 0 < n)) :
    Calls Try.prog 7 #[.agg #[.int .u64 (key : Int), .int .u32 (cook : Int), .bool d, .slice A n c], .int .i64 z] w fun e w' => e = .returned (.bool true) ∧ Below w.heap.size w w' := by
  obtain ⟨R, hR⟩ : ∃ R, R = needleL key cook d data := ⟨_, rfl⟩
  obtain ⟨m, hm⟩ : ∃ m, m = R.length := ⟨_, rfl⟩
  have hml : m = ndSize n := by rw [hm, hR, needleL_len _ _ _ _ (by omega), hn]
  have hge := (ndSize_ge n (by omega))
  have hm32 : 32 ≤ m ∧ m ≤ 5036 := by have := ndSize_le n; omega
  obtain ⟨k, hkm, hkz⟩ := place z m (by omega)
  have hRb : ∀ x ∈ R, x < 256 := by rw [hR]; exact needleL_byte _ _ _ _ hb
  have hcut : ndDec (R.take k) = ((0, 0, false, []), 0, 2) := by rw [hR]; exact dec_cut key cook d data hk hc (by omega) (by rw [hn]; exact hd) k (by rw [← hR, ← hm]; exact hkm)
  have HE := hide (And.intro hR (And.intro hm (And.intro hRb hcut)))
  have kw := below_alloc w (.cells #[.int .u64 (key : Int), .int .u32 (cook : Int), .bool d, .slice A n c] 26)
  have HA := hide (hA.keep kw)
  have HN := hide hn
  have HB := hide hb
  have KW := hide kw
  have hlz : ¬ ((m : Int) < 32) := by omega
  obtain ⟨h32, hmle⟩ := hm32
  obtain ⟨r, hr⟩ : ∃ r, r = z.tmod (m : Int) := ⟨_, rfl⟩
  have htm : (z.tmod (m : Int)) = r := hr.symm
  rw [← hr] at hkz
  have hgo : ¬ (r < 0) ∧ r = (k : Int) ∨ r < 0 ∧ r + (m : Int) = (k : Int) := by omega
  have hm0 : ((m : Int) == 0) = false := by simp only [beq_eq_false_iff_ne, ne_eq]; omega
  clear hA hn hb hR hm hml hge hRb hcut kw hr hkz
  rcases hgo with ⟨hneg, hrk⟩ | ⟨hneg, hrk⟩
  · subst hrk
    go_enter Try.func7, Try.ntmps7
    go_wp2_with fail
    refine (ndenc_ok key cook d A n c data _ HA.out HN.out HB.out hk hc (by omega) hd).mono ?_
    rw [← HE.out.1]
    rintro e w1 ⟨s1, rfl, o1, k1⟩
    obtain ⟨A1, c1, rfl, i1, l1, m1⟩ := o1.isB.form (n := m) HE.out.2.1.symm
    have I1 := hide (i1.take k (by omega))
    have K1 := hide (below_step KW.out k1)
    have hkc : (k : Int) ≤ (c1 : Int) := by omega
    clear o1 k1 i1
    go_wp2_with fail
    refine (nddec_any A1 k c1 (R.take k) w1 I1.out (fun x hx => HE.out.2.2.1 x (List.mem_of_mem_take hx)) (by omega)).mono ?_
    intro e w2 hda
    rw [HE.out.2.2.2] at hda
    obtain ⟨s2, rfl, o2, k2⟩ := ndDec_cut0 _ _ _ hda
    obtain ⟨A2, c2, rfl, i2, _, _⟩ := o2.isB.form (n := 0) rfl
    have K2 := hide (below_step K1.out k2)
    have kn := below_alloc w2 (.cells #[.int .u64 0, .int .u32 0, .bool false, .slice A2 0 c2] 26)
    have I2 := hide (i2.keep kn)
    have K3 := hide (below_step K2.out kn)
    clear hda o2 k2 i2 kn
    go_wp2_with fail
    refine (needles_same 0 0 false A2 none 0 c2 0 [] _ I2.out (isB_nilw _)).mono ?_
    rintro e w4 ⟨rfl, k4⟩
    have K4 := hide (below_step K3.out k4)
    clear k4
    go_wp2_with fail
    refine (known_any _).mono ?_
    rintro e w5 ⟨rfl, k5⟩
    go_wp2_with fail
    go_ret
    exact ⟨rfl, below_step K4.out k5⟩
  · go_enter Try.func7, Try.ntmps7
    go_wp2_with fail
    refine (ndenc_ok key cook d A n c data _ HA.out HN.out HB.out hk hc (by omega) hd).mono ?_
    rw [← HE.out.1]
    rintro e w1 ⟨s1, rfl, o1, k1⟩
    obtain ⟨A1, c1, rfl, i1, l1, m1⟩ := o1.isB.form (n := m) HE.out.2.1.symm
    have I1 := hide (i1.take k (by omega))
    have K1 := hide (below_step KW.out k1)
    have hkc : (k : Int) ≤ (c1 : Int) := by omega
    clear o1 k1 i1
    go_wp2_with fail
    refine (nddec_any A1 k c1 (R.take k) w1 I1.out (fun x hx => HE.out.2.2.1 x (List.mem_of_mem_take hx)) (by omega)).mono ?_
    intro e w2 hda
    rw [HE.out.2.2.2] at hda
    obtain ⟨s2, rfl, o2, k2⟩ := ndDec_cut0 _ _ _ hda
    obtain ⟨A2, c2, rfl, i2, _, _⟩ := o2.isB.form (n := 0) rfl
    have K2 := hide (below_step K1.out k2)
    have kn := below_alloc w2 (.cells #[.int .u64 0, .int .u32 0, .bool false, .slice A2 0 c2] 26)
    have I2 := hide (i2.keep kn)
    have K3 := hide (below_step K2.out kn)
    clear hda o2 k2 i2 kn
    go_wp2_with fail
    refine (needles_same 0 0 false A2 none 0 c2 0 [] _ I2.out (isB_nilw _)).mono ?_
    rintro e w4 ⟨rfl, k4⟩
    have K4 := hide (below_step K3.out k4)
    clear k4
    go_wp2_with fail
    refine (known_any _).mono ?_
    rintro e w5 ⟨rfl, k5⟩
    go_wp2_with fail
    go_ret
    exact ⟨rfl, below_step K4.out k5⟩
set_option maxRecDepth 100000 in
set_option maxHeartbeats 1600000 in
theorem needleCuts_no (key cook : Nat) (d : Bool) (A : Option Addr) (n c : Nat) (z : Int) (w : World) (h5 : n ≤ 5000) (hd : d = true ∧ 0 < n) :
    Calls Try.prog 7 #[.agg #[.int .u64 (key : Int), .int .u32 (cook : Int), .bool d, .slice A n c], .int .i64 z] w fun e w' => e = .returned (.bool true) ∧ Below w.heap.size w w' := by
  have kw := below_alloc w (.cells #[.int .u64 (key : Int), .int .u32 (cook : Int), .bool d, .slice A n c] 26)
  have KW := hide kw
  have HD := hide hd
  clear kw hd
  go_enter Try.func7, Try.ntmps7
  go_wp2_with fail
  refine (ndenc_bad 1 key cook d A n c _ (by omega) (.inl ⟨rfl, HD.out⟩)).mono ?_
  rintro e w1 ⟨rfl, k1⟩
  have K1 := hide (below_step KW.out k1)
  clear k1
  go_wp2_with fail
  refine (known_any _).mono ?_
  rintro e w5 ⟨rfl, k5⟩
  go_wp2_with fail
  go_ret
  exact ⟨rfl, below_step K1.out k5⟩
set_option maxHeartbeats 800000 in
theorem needleCuts_long (key cook : Nat) (d : Bool) (A : Option Addr) (n c : Nat) (z : Int) (w : World) (h5 : ¬ n ≤ 5000) (_h : n ≤ 140737488351232) :
    Calls Try.prog 7 #[.agg #[.int .u64 (key : Int), .int .u32 (cook : Int), .bool d, .slice A n c], .int .i64 z] w fun e w' => e = .returned (.bool true) ∧ Below w.heap.size w w' := by
  go_enter Try.func7, Try.ntmps7
  go_wp2_with fail
  go_ret
  exact ⟨rfl, below_alloc _ _⟩
theorem needleCuts_walk (key cook : Nat) (d : Bool) (A : Option Addr) (n c : Nat) (data : List Nat) (z : Int) (W : World) (hk : key < 18446744073709551616) (hc : cook < 4294967296) (hA : IsB W (.slice A n c) data) (hn : data.length = n) (hb : ∀ x ∈ data, x < 256) (hl : n ≤ 140737488351232) (_w1 : (Lit.int .i64 z).wf = true) :
    Calls Try.prog 7 #[.agg #[.int .u64 (key : Int), .int .u32 (cook : Int), .bool d, .slice A n c], .int .i64 z] W fun e w' => e = .returned (.bool true) ∧ Below W.heap.size W w' := by
  by_cases h5 : n ≤ 5000
  · by_cases hd : d = true ∧ 0 < n
    · exact needleCuts_no key cook d A n c z W h5 hd
    · exact needleCuts_core key cook d A n c data z W hA hn hb hk hc h5 hd
  · exact needleCuts_long key cook d A n c z W h5 hl
end Go.Proofs.Ytkgkhielfodmmaa
