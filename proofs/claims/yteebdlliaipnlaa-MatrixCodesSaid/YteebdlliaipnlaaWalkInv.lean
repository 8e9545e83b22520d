/- The walk of the law MatrixInverts: it returns true for any matrix and writes nothing that was there. No condition but the widths. -/
import Derived.Test.YteebdlliaipnlaaWalkMat
import Derived.Test.YteebdlliaipnlaaMRInv2
namespace Go.Proofs.Yteebdlliaipnlaa
open Go.RowKit
theorem inv_all (A : Option Addr) (n c : Nat) (xss : ML) (w : World) (hA : IsM w A xss) (hn : xss.length = n) (h63 : n ≤ 9223372036854775807) (bA : ∀ r ∈ xss, ∀ x ∈ r, x < 256) :
    Calls Try.prog 13 #[.slice A n c] w fun e w' => ∃ v L k, e = .returned (.tuple #[v, .int .i64 k]) ∧ OwnMt w' w.heap.size v L ∧ invAns xss L k ∧ Below w.heap.size w w' := by
  by_cases h : isMt xss = true ∧ (xss.getD 0 []).length = xss.length
  · have d := of_decide_eq_true h.1
    have hs : Shape xss n n := ⟨hn, fun r hr => by rw [d.2.2.2.2 r hr, h.2, hn], bA⟩
    exact inv_mat A n c xss w hA hs (by rw [← hn]; exact d.1) (by rw [← hn]; exact d.2.1)
  · refine (inv_bad A n c xss w hA hn h63 h).mono ?_
    rintro e w' ⟨rfl, hb⟩
    exact ⟨_, [], 1, rfl, OwnMt.nil _ _, .inl ⟨rfl, rfl, h⟩, hb⟩
theorem rinv_all (A : Option Addr) (n c : Nat) (xss : ML) (w : World) (hA : IsM w A xss) (hn : xss.length = n) (h63 : n ≤ 9223372036854775807) (bA : ∀ r ∈ xss, ∀ x ∈ r, x < 256) :
    Calls Try.prog 14 #[.slice A n c] w fun e w' => ∃ A2 L c2 k, e = .returned (.tuple #[.slice A2 L.length c2, .int .i64 k]) ∧ IsM w' A2 L ∧ L.length ≤ 64 ∧ invAns xss L k ∧ Below w.heap.size w w' := by
  by_cases h : isMt xss = true ∧ (xss.getD 0 []).length = xss.length
  · have d := of_decide_eq_true h.1
    have hs : Shape xss n n := ⟨hn, fun r hr => by rw [d.2.2.2.2 r hr, h.2, hn], bA⟩
    exact rinv_mat A n c xss w hA hs (by rw [← hn]; exact d.1) (by rw [← hn]; exact d.2.1)
  · refine (rinv_bad A n c xss w hA hn h63 h).mono ?_
    rintro e w' ⟨rfl, hb⟩
    exact ⟨none, [], 0, 1, rfl, ⟨[], (fun h => absurd rfl h), ⟨rfl, fun i hi => absurd hi (by simp)⟩⟩, by simp, .inl ⟨rfl, rfl, h⟩, hb⟩
theorem inv_zero {A L : ML} (h : invAns A L 0) : isMt A = true ∧ (A.getD 0 []).length = A.length ∧ Shape L A.length A.length ∧ (∀ i, i < A.length → ∀ j, j < A.length → mm A.length (en L) (en A) i j = dl i j) ∧ (∀ i, i < A.length → ∀ j, j < A.length → mm A.length (en A) (en L) i j = dl i j) := by
  rcases h with ⟨h, _⟩ | ⟨h1, h2, ⟨h, _⟩ | ⟨_, h3⟩⟩
  · cases h
  · cases h
  · exact ⟨h1, h2, h3⟩
set_option maxHeartbeats 3200000 in
theorem matrixInverts_walk (A : Option Addr) (n c : Nat) (xss : ML) (w : World) (hA : IsM w A xss) (hn : xss.length = n) (h63 : n ≤ 9223372036854775807) (bA : ∀ r ∈ xss, ∀ x ∈ r, x < 256) :
    Calls Try.prog 4 #[.slice A n c] w fun e w' => e = .returned (.bool true) ∧ Below w.heap.size w w' := by
  have G1 := hide (great_any A n c xss w hA hn h63)
  have M1 := hide (inv_all A n c xss w hA hn h63 bA)
  have M2 := hide (fun w' (k : Below w.heap.size w w') => rinv_all A n c xss w' (hA.below k) hn h63 bA)
  have HA := hide hA
  have BA := hide bA
  have HN := hide hn
  clear hA bA hn
  by_cases h16 : 16 < n
  · have h16' : 16 < (n : Int) := by omega
    go_enter Try.func4, Try.ntmps4
    go_wp2_with fail
    refine G1.out.mono ?_
    rintro e w1 ⟨v, rfl, ⟨t, rfl⟩, rfl⟩
    rcases t with _ | _
    · go_wp2_with fail
      go_ret
      exact ⟨rfl, Below.refl _ _⟩
    · go_wp2_with fail
      go_ret
      exact ⟨rfl, Below.refl _ _⟩
  · have h16' : ¬ 16 < (n : Int) := by omega
    go_enter Try.func4, Try.ntmps4
    go_wp2_with fail
    refine G1.out.mono ?_
    rintro e w1 ⟨v, rfl, ⟨t, rfl⟩, rfl⟩
    rcases t with _ | _
    · go_wp2_with fail
      refine M1.out.mono ?_
      rintro e w2 ⟨v, L, E, rfl, o2, a2, k2⟩
      have K2 := hide k2
      obtain ⟨A2, c2, rfl, i2, l2⟩ := o2.form rfl
      have I2 := hide i2
      have AN := hide a2
      clear k2 o2 i2 a2
      go_wp2_with fail
      refine (M2.out _ K2.out).mono ?_
      rintro e w3 ⟨A3, L', c3, E', rfl, i3, l3, a3, k3⟩
      obtain ⟨rfl, rfl⟩ := inv_once AN.out a3
      have I3 := hide i3
      have I2' := hide (I2.out.below k3)
      have K3 := hide (below_step K2.out k3)
      clear k3 i3 a3 I2
      have hen : (E != E) = false := by simp
      go_wp2_with fail
      refine (rows_same A2 A3 _ c2 c3 L w3 I2'.out I3.out rfl l2).mono ?_
      rintro e w4 ⟨rfl, d, rfl⟩
      have K4 := hide (below_draw K3.out d)
      by_cases hE : E = 0
      · subst hE
        obtain ⟨hm, hl, sL, j1, j2⟩ := inv_zero AN.out
        have dd := of_decide_eq_true hm
        have sA : Shape xss n n := ⟨HN.out, fun r hr => by rw [dd.2.2.2.2 r hr, hl, HN.out], BA.out⟩
        rw [HN.out] at sL j1 j2 dd
        have q1 := mulL_one_of j2
        have q2 := mulL_one_of j1
        have hLn : L.length = n := sL.high
        rw [hLn] at l2 l3 ⊢
        have O1 := hide (fun w' => one_any n w' dd.1 dd.2.1)
        have P1 := hide (fun w' (k : Below w3.heap.size w3 w') => mul_mat A A2 n n n c c2 xss L w' (HA.out.below (below_step K3.out k)) (I2'.out.below k) sA sL dd.1 dd.2.1 dd.1 dd.2.1 dd.1 dd.2.1)
        have P2 := hide (fun w' (k : Below w3.heap.size w3 w') => mul_mat A2 A n n n c2 c L xss w' (I2'.out.below k) (HA.out.below (below_step K3.out k)) sL sA dd.1 dd.2.1 dd.1 dd.2.1 dd.1 dd.2.1)
        rw [q1] at P1
        rw [q2] at P2
        have SZ := hide (show (oneL n).length = n by unfold oneL; rw [laid_len])
        clear q1 q2 j1 j2 sL sA dd hm hl hLn I3
        go_wp2_with fail
        refine (O1.out _).mono ?_
        rintro e w5 ⟨g5, rfl, o5, k5⟩
        have K5 := hide (show Below w3.heap.size w3 w5 from ⟨k5.os, k5.tape, k5.output, k5.size, k5.block⟩)
        have I5 := hide o5.isM.1
        clear k5 o5
        go_wp2_with fail
        refine (P1.out _ K5.out).mono ?_
        rintro e w6 ⟨g6, rfl, o6, k6⟩
        have K6 := hide (below_step K5.out k6)
        have I6 := hide o6.isM.1
        have I5' := hide (I5.out.below k6)
        clear k6 o6
        go_wp2_with fail
        refine (P2.out _ K6.out).mono ?_
        rintro e w7 ⟨g7, rfl, o7, k7⟩
        have K7 := hide (below_step K6.out k7)
        have I7 := hide o7.isM.1
        have I6' := hide (I6.out.below k7)
        have I5'' := hide (I5'.out.below k7)
        clear k7 o7
        go_wp2_with fail
        refine (rows_same (some ⟨g6, 0, none⟩) (some ⟨g5, 0, none⟩) n n n (oneL n) w7 I6'.out I5''.out SZ.out h63).mono ?_
        rintro e w8 ⟨rfl, d8, rfl⟩
        go_wp2_with fail
        refine (rows_same (some ⟨g7, 0, none⟩) (some ⟨g5, 0, none⟩) n n n (oneL n) (w7.drewN d8) (I7.out.drewN d8) (I5''.out.drewN d8) SZ.out h63).mono ?_
        rintro e w9 ⟨rfl, d9, rfl⟩
        go_wp2_with fail
        refine (known_any _).mono ?_
        rintro e w10 ⟨rfl, k10⟩
        have K10 := hide (below_step (below_draw (below_step K3.out K7.out) (d8 + d9)) k10)
        clear k10
        go_wp2_with fail
        go_ret
        exact ⟨rfl, K10.out⟩
      · have hE0 : (E != 0) = true := by simp [hE]
        clear hE
        go_wp2_with fail
        refine (known_any _).mono ?_
        rintro e w9 ⟨rfl, k9⟩
        have K9 := hide (below_step K4.out k9)
        clear k9
        go_wp2_with fail
        go_ret
        exact ⟨rfl, K9.out⟩
    · go_wp2_with fail
      go_ret
      exact ⟨rfl, Below.refl _ _⟩
end Go.Proofs.Yteebdlliaipnlaa
