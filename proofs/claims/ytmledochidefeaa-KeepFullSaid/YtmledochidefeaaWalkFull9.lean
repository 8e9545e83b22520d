/- The walk of the law KeepFull. No conditions but the widths. -/
import Derived.Test.YtmledochidefeaaKnown9
namespace Go.Proofs.Ytmledochidefeaa
open Go.RowKit Go.Maps
theorem keepFull_out (z : Int) (A1 A2 : Option Addr) (n1 c1 n2 c2 : Nat) (w : World) (hb : n1 ≤ 140737488351232) (hb2 : n2 ≤ 140737488351232) (h : z < 0 ∨ ¬ z < 0 ∧ (4000 < z ∨ ¬ 4000 < z ∧ 8000 < n1 + n2)) :
    Calls Try.prog 5 #[.int .i64 z, .slice A1 n1 c1, .slice A2 n2 c2] w fun e w' => e = .returned (.bool true) ∧ Below w.heap.size w w' := by
  rcases h with h | ⟨h, h' | ⟨h', h''⟩⟩
  all_goals
    go_enter Try.func5, Try.ntmps5
    go_wp2_with fail
    go_ret
    exact ⟨rfl, Below.refl _ _⟩
/-- What stands behind both saves. -/
inductive Case (room : Nat) (xs ys : List Nat) : DiskL × Nat → DiskL × Nat → List Nat × Nat → Prop where
  | second (a : DiskL × Nat) : Case room xs ys a ([([102], (frameL ys, 8 + ys.length))], 0) (ys, 0)
  | first : Case room xs ys ([([102], (frameL xs, 8 + xs.length))], 0) ([([102], (frameL xs, 8 + xs.length))], 6) (xs, 0)
  | none : Case room xs ys ([], 6) ([], 6) ([], 7)
theorem cases_full (room : Nat) (xs ys : List Nat) (hx : xs.length ≤ 8000) (hy : ys.length ≤ 8000) : Case room xs ys (saveL room [102] xs []) (saveL room [102] ys (saveL room [102] xs []).1) (loadL [102] (saveL room [102] ys (saveL room [102] xs []).1).1) := by
  by_cases h1 : 8 + xs.length ≤ room
  · rw [save_new (k := [102]) (by decide) (by omega) h1]
    by_cases h2 : (frameL xs).length + (8 + ys.length) ≤ room
    · rw [save_over (k := [102]) (by decide) (by omega) _ _ h2, load_one _ (by omega)]
      exact .second _
    · rw [save_stay (k := [102]) (by decide) (by omega) _ _ (by omega), load_one _ (by omega)]
      exact .first
  · rw [save_new_full (k := [102]) (by decide) (by omega) (by omega)]
    by_cases h2 : 8 + ys.length ≤ room
    · rw [save_new (k := [102]) (by decide) (by omega) h2, load_one _ (by omega)]
      exact .second _
    · rw [save_new_full (k := [102]) (by decide) (by omega) (by omega), load_nil]
      exact .none
set_option maxRecDepth 100000 in
set_option maxHeartbeats 3200000 in
theorem keepFull_core (room : Nat) (A1 A2 : Option Addr) (n1 c1 n2 c2 : Nat) (xs ys : List Nat) (w : World) (hr : room ≤ 4000) (h1 : IsB w (.slice A1 n1 c1) xs) (h2 : IsB w (.slice A2 n2 c2) ys) (l1 : xs.length = n1) (l2 : ys.length = n2)
    (b1 : ∀ x ∈ xs, x < 256) (b2 : ∀ x ∈ ys, x < 256) (hm : n1 + n2 ≤ 8000) :
    Calls Try.prog 5 #[.int .i64 (room : Int), .slice A1 n1 c1, .slice A2 n2 c2] w fun e w' => e = .returned (.bool true) ∧ Below w.heap.size w w' := by
  have H1 := hide h1
  have H2 := hide h2
  have L1 := hide l1
  have L2 := hide l2
  have B1 := hide b1
  have B2 := hide b2
  have CS := cases_full room xs ys (by omega) (by omega)
  obtain ⟨sa, hsa⟩ : ∃ sa, sa = saveL room [102] xs [] := ⟨_, rfl⟩
  rw [← hsa] at CS
  obtain ⟨sb, hsb⟩ : ∃ sb, sb = saveL room [102] ys sa.1 := ⟨_, rfl⟩
  rw [← hsb] at CS
  obtain ⟨lo, hlo⟩ : ∃ lo, lo = loadL [102] sb.1 := ⟨_, rfl⟩
  rw [← hlo] at CS
  have SA := hide hsa.symm
  have SB := hide hsb.symm
  have LO := hide hlo.symm
  have kc1 : n1 ≤ 8000 := by omega
  have kc2 : n2 ≤ 8000 := by omega
  clear h1 h2 l1 l2 b1 b2 hsa hsb hlo
  go_enter Try.func5, Try.ntmps5
  go_wp2_with fail
  refine (new_any room w (by omega)).mono ?_
  rintro e w1 ⟨d, F1, rfl, d1, u1, k1⟩
  have D1 := hide d1
  have K1 := hide k1
  have U1 := hide u1
  clear d1 u1 k1
  go_wp2_with fail
  refine (save_any F1 d room [] ⟨#[102]⟩ A1 n1 c1 xs w1 D1.out (by decide) (H1.out.keep K1.out) L1.out B1.out (by omega)).mono ?_
  rintro e w2 ⟨rfl, F2, d2, n2'⟩
  rw [show saveL room (⟨#[102]⟩ : ByteArray).data.toList xs [] = sa from SA.out] at d2 ⊢
  have K2 := hide (K1.out.trans (n2'.below K1.out.size U1.out))
  have U2 := hide (n2'.up K1.out.size U1.out)
  have D2 := hide d2
  clear d2 n2'
  go_wp2_with fail
  refine (save_any F2 d room sa.1 ⟨#[102]⟩ A2 n2 c2 ys w2 D2.out (by decide) (H2.out.keep K2.out) L2.out B2.out (by omega)).mono ?_
  rintro e w3 ⟨rfl, F3, d3, n3⟩
  rw [show saveL room (⟨#[102]⟩ : ByteArray).data.toList ys sa.1 = sb from SB.out] at d3 ⊢
  have K3 := hide (K2.out.trans (n3.below K2.out.size U2.out))
  have D3 := hide d3
  clear d3 n3
  go_wp2_with fail
  refine (load_any F3 d room sb.1 ⟨#[102]⟩ w3 D3.out (by decide)).mono ?_
  rintro e w4 ⟨v, rfl, o4, k4⟩
  rw [show loadL (⟨#[102]⟩ : ByteArray).data.toList sb.1 = lo from LO.out] at o4 ⊢
  have K4 := hide (K3.out.trans (k4.mono K3.out.size))
  have O4 := hide o4
  clear o4 k4
  rcases CS with ⟨a⟩ | ⟨⟩ | ⟨⟩
  · obtain ⟨A5, c5, rfl, i5, l5, m5⟩ := O4.out.isB.form (n := n2) L2.out
    have I5 := hide i5
    clear i5
    obtain ⟨q, hq⟩ : ∃ q, q = sa.2 := ⟨_, rfl⟩
    rw [← hq]
    clear hq
    go_wp2_with fail
    refine (same_any A5 A2 n2 n2 c5 c2 ys ys w4 I5.out.rd (H2.out.keep K4.out).rd L2.out.symm L2.out.symm (by omega) (by omega)).mono ?_
    rintro e w5 ⟨rfl, d5, rfl⟩
    rw [decide_eq_true rfl]
    have K5 := hide (below_drewN K4.out d5)
    go_wp2_with fail
    refine (known_any _).mono ?_
    rintro e w6 ⟨rfl, k6⟩
    go_wp2_with fail
    go_ret
    exact ⟨rfl, below_step K5.out k6⟩
  · obtain ⟨A5, c5, rfl, i5, l5, m5⟩ := O4.out.isB.form (n := n1) L1.out
    have I5 := hide i5
    clear i5
    go_wp2_with fail
    refine (same_any A5 A1 n1 n1 c5 c1 xs xs w4 I5.out.rd (H1.out.keep K4.out).rd L1.out.symm L1.out.symm (by omega) (by omega)).mono ?_
    rintro e w5 ⟨rfl, d5, rfl⟩
    rw [decide_eq_true rfl]
    have K5 := hide (below_drewN K4.out d5)
    go_wp2_with fail
    refine (known_any _).mono ?_
    rintro e w6 ⟨rfl, k6⟩
    go_wp2_with fail
    go_ret
    exact ⟨rfl, below_step K5.out k6⟩
  · go_wp2_with fail
    refine (known_any _).mono ?_
    rintro e w6 ⟨rfl, k6⟩
    go_wp2_with fail
    go_ret
    exact ⟨rfl, below_step K4.out k6⟩
theorem keepFull_walk (a0 : Int) (a1 : Option Addr) (len1 cap1 : Nat) (z1 : List Int) (a2 : Option Addr) (len2 cap2 : Nat) (z2 : List Int) (w : World) (_w0 : (Lit.int .i64 a0).wf = true) (w1 : IsRow .u8 w a1 len1 cap1 z1) (w2 : IsRow .u8 w a2 len2 cap2 z2)
    (b1 : len1 ≤ 140737488351232) (b2 : len2 ≤ 140737488351232) :
    Calls Try.prog 5 #[.int .i64 a0, .slice a1 len1 cap1, .slice a2 len2 cap2] w fun e w' => e = .returned (.bool true) ∧ Below w.heap.size w w' := by
  obtain ⟨xs, hl1, hb1, hM1, _⟩ := w1.isB
  obtain ⟨ys, hl2, hb2, hM2, _⟩ := w2.isB
  by_cases h : a0 < 0 ∨ ¬ a0 < 0 ∧ (4000 < a0 ∨ ¬ 4000 < a0 ∧ 8000 < len1 + len2)
  · exact keepFull_out a0 a1 a2 len1 cap1 len2 cap2 w b1 b2 h
  · obtain ⟨r, rfl⟩ : ∃ r : Nat, a0 = (r : Int) := ⟨a0.toNat, by omega⟩
    exact keepFull_core r a1 a2 len1 cap1 len2 cap2 xs ys w (by omega) hM1 hM2 hl1 hl2 hb1 hb2 (by omega)
end Go.Proofs.Ytmledochidefeaa
