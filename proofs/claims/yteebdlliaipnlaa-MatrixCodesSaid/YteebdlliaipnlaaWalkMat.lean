/- The walks of the laws MatrixProducts, MatrixOnes and MatrixJoins: each returns true for any matrices and writes nothing that was there. No condition but the widths. -/
import Derived.Test.YteebdlliaipnlaaMLaw
namespace Go.Proofs.Yteebdlliaipnlaa
open Go.RowKit
set_option maxHeartbeats 1600000 in
theorem matrixProducts_walk (A B : Option Addr) (n n2 c c2 : Nat) (xss yss : ML) (w : World) (hA : IsM w A xss) (hB : IsM w B yss) (hn : xss.length = n) (hn2 : yss.length = n2) (h63 : n ≤ 9223372036854775807) (h632 : n2 ≤ 9223372036854775807)
    (bA : ∀ r ∈ xss, ∀ x ∈ r, x < 256) (bB : ∀ r ∈ yss, ∀ x ∈ r, x < 256) :
    Calls Try.prog 3 #[.slice A n c, .slice B n2 c2] w fun e w' => e = .returned (.bool true) ∧ Below w.heap.size w w' := by
  have G1 := hide (great_any A n c xss w hA hn h63)
  have G2 := hide (great_any B n2 c2 yss w hB hn2 h632)
  have M1 := hide (mul_all A B n n2 c c2 xss yss w hA hB hn hn2 h63 h632 bA bB)
  have M2 := hide (fun w' (k : Below w.heap.size w w') => rmul_all A B n n2 c c2 xss yss w' (hA.below k) (hB.below k) hn hn2 h63 h632 bA bB)
  obtain ⟨L, hL⟩ : ∃ L, L = mulR xss yss := ⟨_, rfl⟩
  obtain ⟨E, hE⟩ : ∃ E, E = mulE xss yss := ⟨_, rfl⟩
  rw [← hL, ← hE] at M1 M2
  have hee : (E == E) = true := by simp
  clear hA hB bA bB hn hn2 hL hE
  go_enter Try.func3, Try.ntmps3
  go_wp2_with fail
  refine G1.out.mono ?_
  rintro e w1 ⟨v, rfl, ⟨t, rfl⟩, rfl⟩
  rcases t with _ | _
  · go_wp2_with fail
    refine G2.out.mono ?_
    rintro e w1 ⟨v, rfl, ⟨t, rfl⟩, rfl⟩
    rcases t with _ | _
    · go_wp2_with fail
      refine M1.out.mono ?_
      rintro e w2 ⟨v, rfl, o2, k2⟩
      have K2 := hide k2
      obtain ⟨A2, c3, rfl, i2, l2⟩ := o2.form rfl
      have I2 := hide i2
      clear k2 o2 i2
      go_wp2_with fail
      refine (M2.out _ K2.out).mono ?_
      rintro e w3 ⟨v, rfl, o3, k3⟩
      obtain ⟨A3, c4, rfl, i3, l3⟩ := o3.form rfl
      have I3 := hide i3
      have I2' := hide (I2.out.below k3)
      have K3 := hide (below_step K2.out k3)
      clear k3 o3 i3
      go_wp2_with fail
      refine (rows_same A2 A3 _ c3 c4 L w3 I2'.out I3.out rfl l3).mono ?_
      rintro e w4 ⟨rfl, d, rfl⟩
      go_wp2_with fail
      refine (known_any _).mono ?_
      rintro e w5 ⟨rfl, k5⟩
      have K5 := hide (below_step (below_draw K3.out d) k5)
      clear k5
      go_wp2_with fail
      go_ret
      exact ⟨rfl, K5.out⟩
    · go_wp2_with fail
      go_ret
      exact ⟨rfl, Below.refl _ _⟩
  · go_wp2_with fail
    go_ret
    exact ⟨rfl, Below.refl _ _⟩
set_option maxHeartbeats 1600000 in
theorem matrixOnes_walk (A : Option Addr) (n c : Nat) (q : Int) (xss : ML) (w : World) (hA : IsM w A xss) (hn : xss.length = n) (h63 : n ≤ 9223372036854775807)
    (bA : ∀ r ∈ xss, ∀ x ∈ r, x < 256) :
    Calls Try.prog 5 #[.slice A n c, .int .i64 q] w fun e w' => e = .returned (.bool true) ∧ Below w.heap.size w w' := by
  have G1 := hide (great_any A n c xss w hA hn h63)
  have M1 := hide (one_all q w)
  have M2 := hide (fun w' => rone_all q w')
  obtain ⟨L, hL⟩ : ∃ L, L = oneR q := ⟨_, rfl⟩
  obtain ⟨E, hE⟩ : ∃ E, E = oneE q := ⟨_, rfl⟩
  rw [← hL, ← hE] at M1 M2
  have hee : (E == E) = true := by simp
  have hen : (E != E) = false := by simp
  have HI := hide (fun w' (k : Below w.heap.size w w') => ris_any A n c xss w' (hA.below k) hn h63)
  have HA := hide hA
  have BA := hide bA
  have HN := hide hn
  clear hA bA hn hL hE
  go_enter Try.func5, Try.ntmps5
  go_wp2_with fail
  refine G1.out.mono ?_
  rintro e w1 ⟨v, rfl, ⟨t, rfl⟩, rfl⟩
  rcases t with _ | _
  · go_wp2_with fail
    refine M1.out.mono ?_
    rintro e w2 ⟨v, rfl, o2, k2⟩
    have K2 := hide k2
    obtain ⟨A2, c3, rfl, i2, l2⟩ := o2.form rfl
    have I2 := hide i2
    clear k2 o2 i2
    go_wp2_with fail
    refine (M2.out _).mono ?_
    rintro e w3 ⟨v, rfl, o3, k3⟩
    obtain ⟨A3, c4, rfl, i3, l3⟩ := o3.form rfl
    have I3 := hide i3
    have I2' := hide (I2.out.below k3)
    have K3 := hide (below_step K2.out k3)
    clear k3 o3 i3
    go_wp2_with fail
    refine (rows_same A2 A3 _ c3 c4 L w3 I2'.out I3.out rfl l3).mono ?_
    rintro e w4 ⟨rfl, d, rfl⟩
    have K4 := hide (below_draw K3.out d)
    clear I2 I3 I2' K2
    rcases hm : isMt xss with _ | _
    · rw [hm] at HI
      go_wp2_with fail
      refine (HI.out _ K4.out).mono ?_
      rintro e w5 ⟨rfl, d5, rfl⟩
      go_wp2_with fail
      refine (known_any _).mono ?_
      rintro e w6 ⟨rfl, k6⟩
      have K6 := hide (below_step (below_draw K3.out (d + d5)) k6)
      clear k6
      go_wp2_with fail
      go_ret
      exact ⟨rfl, K6.out⟩
    · rw [hm] at HI
      obtain ⟨n', m, h1, h2, h3, h4, hs⟩ := isMt_shape hm BA.out
      obtain rfl : n' = n := by rw [← hs.high, HN.out]
      have HS := hide hs
      clear hs hm
      go_wp2_with fail
      refine (HI.out _ K4.out).mono ?_
      rintro e w5 ⟨rfl, d5, rfl⟩
      have K5 := hide (below_draw K3.out (d + d5))
      go_wp2_with fail
      refine (one_any n' _ h1 h2).mono ?_
      rintro e w6 ⟨g6, rfl, o6, k6⟩
      have K6 := hide (below_step K5.out k6)
      have I6 := hide o6.isM.1
      clear k6 o6
      go_wp2_with fail
      refine (mul_mat (some ⟨g6, 0, none⟩) A n' n' m n' c (oneL n') xss w6 I6.out (HA.out.below K6.out) (laid_shape _ _ _) HS.out h1 h2 h1 h2 h3 h4).mono ?_
      rintro e w7 ⟨g7, rfl, o7, k7⟩
      rw [one_mulL HS.out] at o7
      have K7 := hide (below_step K6.out k7)
      have I7 := hide o7.isM.1
      clear k7 o7
      go_wp2_with fail
      refine (rows_same A (some ⟨g7, 0, none⟩) n' c n' xss w7 (HA.out.below K7.out) I7.out HS.out.high h63).mono ?_
      rintro e w8 ⟨rfl, d8, rfl⟩
      go_wp2_with fail
      refine (known_any _).mono ?_
      rintro e w9 ⟨rfl, k9⟩
      have K9 := hide (below_step (below_draw K7.out d8) k9)
      clear k9
      go_wp2_with fail
      go_ret
      exact ⟨rfl, K9.out⟩
  · go_wp2_with fail
    go_ret
    exact ⟨rfl, Below.refl _ _⟩
theorem mulE_cases (A B : ML) : (mulE A B = 0 ∧ ¬ mulBad A B) ∨ (mulE A B = 1 ∧ mulBad A B) := by
  unfold mulE
  by_cases h : mulBad A B
  · exact .inr ⟨if_pos h, h⟩
  · exact .inl ⟨if_neg h, h⟩
theorem mulR_of {A B : ML} {n p m : Nat} (h : ¬ mulBad A B) (h1 : A.length = n) (h2 : B.length = p) (h3 : (B.getD 0 []).length = m) : mulR A B = mulL A B n p m := by
  unfold mulR
  rw [if_neg h, h1, h2, h3]
set_option maxHeartbeats 3200000 in
theorem matrixJoins_walk (A B C : Option Addr) (n n2 n3 c c2 c3 : Nat) (xss yss zss : ML) (w : World) (hA : IsM w A xss) (hB : IsM w B yss) (hC : IsM w C zss) (hn : xss.length = n) (hn2 : yss.length = n2) (hn3 : zss.length = n3)
    (h63 : n ≤ 9223372036854775807) (h632 : n2 ≤ 9223372036854775807) (h633 : n3 ≤ 9223372036854775807)
    (bA : ∀ r ∈ xss, ∀ x ∈ r, x < 256) (bB : ∀ r ∈ yss, ∀ x ∈ r, x < 256) (bC : ∀ r ∈ zss, ∀ x ∈ r, x < 256) :
    Calls Try.prog 7 #[.slice A n c, .slice B n2 c2, .slice C n3 c3] w fun e w' => e = .returned (.bool true) ∧ Below w.heap.size w w' := by
  have G1 := hide (great_any A n c xss w hA hn h63)
  have G2 := hide (great_any B n2 c2 yss w hB hn2 h632)
  have G3 := hide (great_any C n3 c3 zss w hC hn3 h633)
  have M1 := hide (mul_all A B n n2 c c2 xss yss w hA hB hn hn2 h63 h632 bA bB)
  have M2 := hide (fun w' (k : Below w.heap.size w w') => mul_all B C n2 n3 c2 c3 yss zss w' (hB.below k) (hC.below k) hn2 hn3 h632 h633 bB bC)
  have HA := hide hA
  have HC := hide hC
  have hc1 := hide (mulE_cases xss yss)
  have hc2 := hide (mulE_cases yss zss)
  obtain ⟨E1, hE1⟩ : ∃ E, E = mulE xss yss := ⟨_, rfl⟩
  obtain ⟨E2, hE2⟩ : ∃ E, E = mulE yss zss := ⟨_, rfl⟩
  rw [← hE1] at M1 hc1
  rw [← hE2] at M2 hc2
  have BX := hide (And.intro bA (And.intro bB bC))
  have HN := hide (And.intro hn (And.intro hn2 hn3))
  clear hA hB hC bA bB bC hn hn2 hn3 hE1 hE2
  go_enter Try.func7, Try.ntmps7
  go_wp2_with fail
  refine G1.out.mono ?_
  rintro e w1 ⟨v, rfl, ⟨t, rfl⟩, rfl⟩
  rcases t with _ | _
  · go_wp2_with fail
    refine G2.out.mono ?_
    rintro e w1 ⟨v, rfl, ⟨t, rfl⟩, rfl⟩
    rcases t with _ | _
    · go_wp2_with fail
      refine G3.out.mono ?_
      rintro e w1 ⟨v, rfl, ⟨t, rfl⟩, rfl⟩
      rcases t with _ | _
      · go_wp2_with fail
        refine M1.out.mono ?_
        rintro e w2 ⟨v2, rfl, o2, k2⟩
        have K2 := hide k2
        obtain ⟨A2, d2, rfl, i2, l2⟩ := o2.form rfl
        have I2 := hide i2
        clear k2 o2 i2
        go_wp2_with fail
        refine (M2.out _ K2.out).mono ?_
        rintro e w3 ⟨v, rfl, o3, k3⟩
        obtain ⟨A3, d3, rfl, i3, l3⟩ := o3.form rfl
        have I3 := hide i3
        have I2' := hide (I2.out.below k3)
        have K3 := hide (below_step K2.out k3)
        clear k3 o3 i3
        rcases hc1.out with ⟨rfl, f1⟩ | ⟨rfl, -⟩
        · rcases hc2.out with ⟨rfl, f2⟩ | ⟨rfl, -⟩
          · obtain ⟨a1, a2, b1, b2, c1, c2', sA, sB⟩ := mul_fit f1 BX.out.1 BX.out.2.1
            obtain ⟨-, -, e1, e2, g1, g2, sB', sC⟩ := mul_fit f2 BX.out.2.1 BX.out.2.2
            have hm : (yss.getD 0 []).length = zss.length := sB'.len_at 0 (by omega)
            rw [hm] at sB c1 c2'
            obtain ⟨hn, hn2, hn3⟩ := HN.out
            obtain ⟨m, hmm⟩ : ∃ m, m = (zss.getD 0 []).length := ⟨_, rfl⟩
            rw [← hmm] at g1 g2 sC
            rw [hn] at a1 a2 sA
            rw [hn2] at b1 b2 sA sB
            rw [hn3] at e1 e2 sB sC
            have q1 := mulR_of f1 hn hn2 (hm.trans hn3)
            have q2 := mulR_of f2 hn2 hn3 hmm.symm
            have j1 : (mulR xss yss).length = n := by rw [q1]; unfold mulL; rw [laid_len]
            have j2 : (mulR yss zss).length = n2 := by rw [q2]; unfold mulL; rw [laid_len]
            rw [j1] at l2 ⊢
            rw [j2] at l3 ⊢
            rw [q1] at I2'
            rw [q2] at I3
            have P1 := hide (fun w' (k : Below w3.heap.size w3 w') => mul_mat A2 C n n3 m d2 c3 (mulL xss yss n n2 n3) zss w' (I2'.out.below k) (HC.out.below (below_step K3.out k)) (laid_shape _ _ _) sC a1 a2 e1 e2 g1 g2)
            have P2 := hide (fun w' (k : Below w3.heap.size w3 w') => mul_mat A A3 n n2 m c d3 xss (mulL yss zss n2 n3 m) w' (HA.out.below (below_step K3.out k)) (I3.out.below k) sA (laid_shape _ _ _) a1 a2 b1 b2 g1 g2)
            have SZ := hide (show (mulL xss (mulL yss zss n2 n3 m) n n2 m).length = n by unfold mulL; rw [laid_len])
            have PJ := hide (mul_joins xss yss zss n n2 n3 m)
            clear f1 f2 sA sB sB' sC hm hmm q1 q2 j1 j2 hn hn2 hn3 a1 a2 b1 b2 c1 c2' e1 e2 g1 g2
            go_wp2_with fail
            refine (P1.out _ (Below.refl _ _)).mono ?_
            rintro e w4 ⟨g4, rfl, o4, k4⟩
            rw [PJ.out] at o4
            have K4 := hide k4
            have I4 := hide o4.isM.1
            clear k4 o4
            go_wp2_with fail
            refine (P2.out _ K4.out).mono ?_
            rintro e w5 ⟨g5, rfl, o5, k5⟩
            have K5 := hide (below_step K4.out k5)
            have I5 := hide o5.isM.1
            have I4' := hide (I4.out.below k5)
            clear k5 o5
            go_wp2_with fail
            refine (rows_same (some ⟨g4, 0, none⟩) (some ⟨g5, 0, none⟩) n n n _ w5 I4'.out I5.out SZ.out h63).mono ?_
            rintro e w8 ⟨rfl, d8, rfl⟩
            go_wp2_with fail
            refine (known_any _).mono ?_
            rintro e w9 ⟨rfl, k9⟩
            have K9 := hide (below_step (below_draw (below_step K3.out K5.out) d8) k9)
            clear k9
            go_wp2_with fail
            go_ret
            exact ⟨rfl, K9.out⟩
          · go_wp2_with fail
            refine (known_any _).mono ?_
            rintro e w9 ⟨rfl, k9⟩
            have K9 := hide (below_step K3.out k9)
            clear k9
            go_wp2_with fail
            go_ret
            exact ⟨rfl, K9.out⟩
        · go_wp2_with fail
          refine (known_any _).mono ?_
          rintro e w9 ⟨rfl, k9⟩
          have K9 := hide (below_step K3.out k9)
          clear k9
          go_wp2_with fail
          go_ret
          exact ⟨rfl, K9.out⟩
      · go_wp2_with fail
        go_ret
        exact ⟨rfl, Below.refl _ _⟩
    · go_wp2_with fail
      go_ret
      exact ⟨rfl, Below.refl _ _⟩
  · go_wp2_with fail
    go_ret
    exact ⟨rfl, Below.refl _ _⟩
end Go.Proofs.Yteebdlliaipnlaa
