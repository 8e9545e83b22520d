/- The walk of the law DiskRenames. No conditions but the widths. -/
import Derived.Test.YtgbfmhjnalfnbaaOne
import Derived.Test.YtgbfmhjnalfnbaaKnown
import Derived.Test.YtgbfmhjnalfnbaaDCut
namespace Go.Proofs.Ytgbfmhjnalfnbaa
open Go.RowKit Go.Maps
theorem appL_xy {room l : Nat} {xs ys : List Nat} (h : xs.length + ys.length ≤ room) : appL room [121] ys [([120], (xs, l))] = ([([120], (xs, l)), ([121], (ys, 0))], 0) := by
  unfold appL
  rw [if_neg (by simp), if_neg]
  · rfl
  · rw [usedL_one]
    rintro (⟨_, h'⟩ | h')
    · simp at h'
    · omega
set_option maxRecDepth 100000 in
set_option maxHeartbeats 3200000 in
theorem diskRenames_core (A1 A2 A3 : Option Addr) (n1 c1 n2 c2 n3 c3 : Nat) (xs zs ys : List Nat) (z : Int) (w : World) (h1 : IsB w (.slice A1 n1 c1) xs) (h2 : IsB w (.slice A2 n2 c2) zs) (h3 : IsB w (.slice A3 n3 c3) ys) (l1 : xs.length = n1) (l2 : zs.length = n2) (l3 : ys.length = n3)
    (b1 : ∀ x ∈ xs, x < 256) (b2 : ∀ x ∈ zs, x < 256) (b3 : ∀ x ∈ ys, x < 256) (hm : n1 + n2 + n3 ≤ 8000) :
    Calls Try.prog 8 #[.slice A1 n1 c1, .slice A2 n2 c2, .slice A3 n3 c3, .int .i64 z] w fun e w' => e = .returned (.bool true) ∧ Below w.heap.size w w' := by
  have H1 := hide h1
  have H2 := hide h2
  have H3 := hide h3
  have L1 := hide l1
  have L2 := hide l2
  have L3 := hide l3
  have B1 := hide b1
  have B2 := hide b2
  have B3 := hide b3
  have LA : Hid ((xs ++ ys).length = n1 + n3) := by unfold Hid; rw [List.length_append, l1, l3]
  have HX1 : Hid (appL 1048576 [120] xs [] = ([([120], (xs, 0))], 0)) := appL_new (by decide) (by omega)
  have HX2 : Hid (appL 1048576 [120] ys [([120], (xs, n1))] = ([([120], (xs ++ ys, n1))], 0)) := appL_more (by decide) (by omega)
  have HX3 : Hid (appL 1048576 [121] zs [([120], (xs ++ ys, n1))] = ([([120], (xs ++ ys, n1)), ([121], (zs, 0))], 0)) := appL_xy (by rw [LA.out]; omega)
  obtain ⟨m, hm1, hm2, hcr⟩ := crashD_one z.toNat [121] xs ys
  rw [l1] at hm1 hcr
  have hm3 : m ≤ n1 + n3 := by rw [LA.out] at hm2; exact hm2
  have HCR := hide hcr
  clear h1 h2 h3 l1 l2 l3 b1 b2 b3 hcr hm2
  go_enter Try.func8, Try.ntmps8
  go_wp2_with fail
  refine (new_any 1048576 w (by decide)).mono ?_
  rintro e w1 ⟨d, F1, rfl, d1, u1, k1⟩
  have D1 := hide d1
  have K1 := hide k1
  have U1 := hide u1
  clear d1 u1 k1
  go_wp2_with fail
  refine (append_any F1 d 1048576 [] ⟨#[120]⟩ A1 n1 c1 xs _ D1.out (by decide) (H1.out.keep K1.out) L1.out B1.out (by omega)).mono ?_
  rintro e w2 ⟨rfl, F2, d2, n2'⟩
  rw [show appL 1048576 (⟨#[120]⟩ : ByteArray).data.toList xs [] = _ from HX1.out] at d2 ⊢
  have K2 := hide (K1.out.trans (n2'.below K1.out.size U1.out))
  have U2 := hide (n2'.up K1.out.size U1.out)
  have D2 := hide d2
  clear d2 n2'
  go_wp2_with fail
  refine (sync_some F2 d 1048576 _ ⟨#[120]⟩ xs 0 _ D2.out (by decide) rfl).mono ?_
  rintro e w3 ⟨rfl, F3, d3, n3'⟩
  have d3' : DiskAt w3 F3 d 1048576 [([120], (xs, xs.length))] := d3
  rw [L1.out] at d3'
  have K3 := hide (K2.out.trans (n3'.below K2.out.size U2.out))
  have U3 := hide (n3'.up K2.out.size U2.out)
  have D3 := hide d3'
  clear d3 d3' n3'
  go_wp2_with fail
  refine (append_any F3 d 1048576 _ ⟨#[120]⟩ A3 n3 c3 ys _ D3.out (by decide) (H3.out.keep K3.out) L3.out B3.out (by omega)).mono ?_
  rintro e w4 ⟨rfl, F4, d4, n4'⟩
  rw [show appL 1048576 (⟨#[120]⟩ : ByteArray).data.toList ys [([120], (xs, n1))] = _ from HX2.out] at d4 ⊢
  have K4 := hide (K3.out.trans (n4'.below K3.out.size U3.out))
  have U4 := hide (n4'.up K3.out.size U3.out)
  have D4 := hide d4
  clear d4 n4'
  go_wp2_with fail
  refine (append_any F4 d 1048576 _ ⟨#[121]⟩ A2 n2 c2 zs _ D4.out (by decide) (H2.out.keep K4.out) L2.out B2.out (by omega)).mono ?_
  rintro e w5 ⟨rfl, F5, d5, n5'⟩
  rw [show appL 1048576 (⟨#[121]⟩ : ByteArray).data.toList zs [([120], (xs ++ ys, n1))] = _ from HX3.out] at d5 ⊢
  have K5 := hide (K4.out.trans (n5'.below K4.out.size U4.out))
  have U5 := hide (n5'.up K4.out.size U4.out)
  have D5 := hide d5
  clear d5 n5'
  go_wp2_with fail
  refine (rename_ok F5 d 1048576 _ ⟨#[120]⟩ ⟨#[121]⟩ (xs ++ ys) n1 _ D5.out (by decide) (by decide) rfl).mono ?_
  rintro e w6 ⟨rfl, F6, d6, n6'⟩
  have K6 := hide (K5.out.trans (n6'.below K5.out.size U5.out))
  have U6 := hide (n6'.up K5.out.size U5.out)
  have D6 := hide (show DiskAt w6 F6 d 1048576 [([121], (xs ++ ys, n1))] from d6)
  clear d6 n6'
  go_wp2_with fail
  refine (read_none F6 d 1048576 _ ⟨#[120]⟩ _ D6.out (by decide) rfl).mono ?_
  rintro e w7 ⟨rfl, k7⟩
  have D7 := hide (D6.out.below k7)
  have K7 := hide (K6.out.trans (k7.mono K6.out.size))
  clear k7
  go_wp2_with fail
  refine (read_some F6 d 1048576 _ ⟨#[121]⟩ (xs ++ ys) n1 _ D7.out (by decide) rfl).mono ?_
  rintro e w8 ⟨v, rfl, o8, k8⟩
  obtain ⟨A8, c8, rfl, i8, l8, m8⟩ := o8.isB.form (n := n1 + n3) LA.out
  have I8 := hide i8
  have D8 := hide (D7.out.below k8)
  have K8 := hide (K7.out.trans (k8.mono K7.out.size))
  clear o8 i8 k8
  go_wp2_with (at_builtin; refine halt ?_)
  refine ⟨?_⟩
  have nb := below_alloc w8 (.cells #[] 5)
  refine wpList_append_bytes rfl (.tmp 73) (.tmp 74) rfl w8.heap.size _ [] rfl (own_lit w8 #[] [] rfl (by decide)) _ xs rfl (H1.out.keep (below_step K8.out nb)) (by rw [L1.out, List.length_nil]; omega) nb.size ?_
  intro s9 w9 o9 k9
  rw [List.nil_append] at o9
  have K9 := hide (nb.trans k9)
  have O9 := hide o9
  clear nb o9 k9
  go_wp2_with (at_builtin; refine halt ?_)
  refine ⟨?_⟩
  refine wpList_append_bytes rfl (.tmp 75) (.tmp 76) rfl w8.heap.size _ xs rfl O9.out _ ys rfl (H3.out.keep (below_step K8.out K9.out)) (by rw [L1.out, L3.out]; omega) K9.out.size ?_
  intro s10 w10 o10 k10
  obtain ⟨A10, c10, rfl, i10, l10, m10⟩ := o10.isB.form (n := n1 + n3) LA.out
  have K10 := hide (K9.out.trans k10)
  have I10 := hide i10
  have O10 := hide o10
  have I8 := hide (I8.out.keep K10.out)
  have D10 := hide (D8.out.below K10.out)
  clear o10 k10 i10
  go_wp2_with fail
  refine (same_any A8 A10 (n1 + n3) (n1 + n3) c8 c10 _ _ _ I8.out.rd I10.out.rd LA.out.symm LA.out.symm (by omega) (by omega)).mono ?_
  rintro e w11 ⟨rfl, d11, rfl⟩
  rw [decide_eq_true rfl]
  have K11 := hide (below_drewN (below_step K8.out K10.out) d11)
  have D11 := hide (show DiskAt (w10.drewN d11) F6 d 1048576 [([121], (xs ++ ys, n1))] from D10.out.turn (S := fun _ => False) ((Turn.refl _ _).drewN d11) (fun _ _ => id))
  have O11 := hide (show Own (w10.drewN d11) w8.heap.size (.slice A10 (n1 + n3) c10) (xs ++ ys) from O10.out)
  have LOW : Hid (∀ i, F6 i → i < w8.heap.size) := D8.out.low
  obtain ⟨W11, hW11⟩ : ∃ W, W = w10.drewN d11 := ⟨_, rfl⟩
  rw [← hW11] at K11 D11 O11 ⊢
  clear hW11 I8 I10 D10 O10 K10
  go_wp2_with fail
  refine (list_any F6 d 1048576 _ _ D11.out).mono ?_
  rintro e w12 ⟨v12, rfl, o12, k12⟩
  obtain ⟨A12, c12, e12, hc12, hc12', _⟩ := o12.form
  have e12' : v12 = .slice A12 1 c12 := e12
  subst e12'
  have D12 := hide (D11.out.below k12)
  have O12 := hide (O11.out.turn (S := fun _ => False) (Turn.of_below _ k12) (fun _ _ => id))
  have K12 := hide (K11.out.trans (k12.mono K11.out.size))
  clear o12 k12 e12 hc12 hc12'
  go_wp2_with fail
  refine (crash_any F6 d 1048576 _ z _ D12.out).mono ?_
  rintro e w13 ⟨rfl, F13, d13, n13⟩
  rw [HCR.out] at d13
  have O13 := hide (O12.out.turn n13.turn (fun g hg hf => by
    have h1 := (O12.out.lt g hg).1
    have h2 := LOW.out g hf
    omega)).isB
  have K13 := hide (K12.out.trans (n13.below K12.out.size U6.out))
  have D13 := hide d13
  clear d13 n13 O12 O11
  go_wp2_with fail
  refine (read_some F13 d 1048576 _ ⟨#[121]⟩ ((xs ++ ys).take m) m _ D13.out (by decide) rfl).mono ?_
  rintro e w14 ⟨v, rfl, o14, k14⟩
  have LT : Hid (((xs ++ ys).take m).length = m) := by unfold Hid; rw [List.length_take, LA.out]; omega
  obtain ⟨A14, c14, rfl, i14, l14, m14⟩ := o14.isB.form (n := m) LT.out
  have I14 := hide i14
  have I10 := hide ((O13.out.keep k14).take m hm3)
  have K14 := hide (K13.out.trans (k14.mono K13.out.size))
  have hmc : (m : Int) ≤ (c10 : Int) := by omega
  clear o14 i14 k14 O13
  go_wp2_with fail
  refine (same_any A14 A10 m m c14 c10 _ _ _ I14.out.rd I10.out.rd LT.out.symm LT.out.symm (by omega) (by omega)).mono ?_
  rintro e w15 ⟨rfl, d15, rfl⟩
  rw [decide_eq_true rfl]
  have K15 := hide (below_drewN K14.out d15)
  go_wp2_with fail
  refine (known_any _).mono ?_
  rintro e w16 ⟨rfl, k16⟩
  go_wp2_with fail
  go_ret
  exact ⟨rfl, below_step K15.out k16⟩
theorem diskRenames_out (A1 A2 A3 : Option Addr) (n1 c1 n2 c2 n3 c3 : Nat) (z : Int) (w : World) (h1 : n1 ≤ 140737488351232) (h2 : n2 ≤ 140737488351232) (h3 : n3 ≤ 140737488351232) (h : 8000 < n1 + n2 + n3) :
    Calls Try.prog 8 #[.slice A1 n1 c1, .slice A2 n2 c2, .slice A3 n3 c3, .int .i64 z] w fun e w' => e = .returned (.bool true) ∧ Below w.heap.size w w' := by
  have hz : (8000 : Int) < (n1 : Int) + (n2 : Int) + (n3 : Int) := by omega
  go_enter Try.func8, Try.ntmps8
  go_wp2_with fail
  go_ret
  exact ⟨rfl, Below.refl _ _⟩
theorem diskRenames_walk (a0 : Option Addr) (len0 cap0 : Nat) (z0 : List Int) (a1 : Option Addr) (len1 cap1 : Nat) (z1 : List Int) (a2 : Option Addr) (len2 cap2 : Nat) (z2 : List Int) (a3 : Int) (w : World) (w0 : IsRow .u8 w a0 len0 cap0 z0) (w1 : IsRow .u8 w a1 len1 cap1 z1) (w2 : IsRow .u8 w a2 len2 cap2 z2) (_w3 : (Lit.int .i64 a3).wf = true)
    (b0 : len0 ≤ 140737488351232) (b1 : len1 ≤ 140737488351232) (b2 : len2 ≤ 140737488351232) :
    Calls Try.prog 8 #[.slice a0 len0 cap0, .slice a1 len1 cap1, .slice a2 len2 cap2, .int .i64 a3] w fun e w' => e = .returned (.bool true) ∧ Below w.heap.size w w' := by
  obtain ⟨xs, hl0, hb0, hM0, _⟩ := w0.isB
  obtain ⟨ys, hl1, hb1, hM1, _⟩ := w1.isB
  obtain ⟨zs, hl2, hb2, hM2, _⟩ := w2.isB
  by_cases h : 8000 < len0 + len1 + len2
  · exact diskRenames_out a0 a1 a2 len0 cap0 len1 cap1 len2 cap2 a3 w b0 b1 b2 h
  · exact diskRenames_core a0 a1 a2 len0 cap0 len1 cap1 len2 cap2 xs ys zs a3 w hM0 hM1 hM2 hl0 hl1 hl2 hb0 hb1 hb2 (by omega)
end Go.Proofs.Ytgbfmhjnalfnbaa
