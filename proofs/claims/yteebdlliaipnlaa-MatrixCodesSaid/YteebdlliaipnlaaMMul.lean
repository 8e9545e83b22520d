/- The contracts of matrix.Mul and of the document's Mul: the product. Conditions: matrices of 1 to 64 rows of 1 to 64 numbers (and what is refused, apart). -/
import Derived.Test.YteebdlliaipnlaaMIs
import Derived.Test.YteebdlliaipnlaaMOne
import Derived.Test.YteebdlliaipnlaaGDot
import Derived.Test.YteebdlliaipnlaaGRDot
import Derived.Deep.RegionHeld3
namespace Go.Proofs.Yteebdlliaipnlaa
open Go.RowKit
/-- The matrix whose rows are another's columns. -/
def turn (f : Mat) : Mat := fun a b => f b a
theorem dot_mm {A : ML} (B : ML) {n p m : Nat} (hA : Shape A n p) (i j : Nat) (hi : i < n) (hj : j < m) :
    dotS (A.getD i []) ((laid m p (turn (en B))).getD j []) p = (mm p (en A) (en B) i j).n := by
  have h2 := (laid_shape m p (turn (en B))).row hj
  rw [dot_gs (hA.row hi).2 h2.2]
  congr 1
  refine gs_congr (fun l hl => ?_)
  show en A i l * en (laid m p (turn (en B))) j l = en A i l * en B l j
  rw [laid_at _ hj hl]
  rfl
theorem Shape.num {xss : ML} {n m : Nat} (h : Shape xss n m) (i j : Nat) (hi : i < n) : (xss.getD i []).getD j 0 = (en xss i j).n := (h.at_ hi j).symm
set_option maxHeartbeats 1600000 in
theorem turned_any (A : Option Addr) (n m c : Nat) (xss : ML) (w : World) (hA : IsM w A xss) (hs : Shape xss n m) (h1 : 1 ≤ n) (h2 : n ≤ 64) (h4 : m ≤ 64) :
    Calls Try.prog 21 #[.slice A n c] w fun e w' => ∃ g R, e = .returned (.slice (some ⟨g, 0, none⟩) m m) ∧ Grid w' w.heap.size g m n R (turn (en xss)) ∧ Below w.heap.size w w' := by
  have HA := hide hA
  have HS := hide hs
  have HN := hide (noughts_any m n w (by omega) (by omega))
  obtain ⟨b, off, A', c', rfl, ck, -, l1, m1⟩ := hA.at_ 0 (by rw [hs.high]; omega)
  rw [hs.len_at 0 (by omega)] at ck l1
  have ck0 : w.cell? ⟨b, off, none⟩ = some (.slice A' m c') := ck
  obtain ⟨B, hB⟩ : ∃ B, B = w.heap.size := ⟨_, rfl⟩
  rw [← hB] at HN ⊢
  have HB := hide hB
  have g1 : 0 < (n : Int) := by omega
  clear hA hs hB ck
  go_enter Try.func21, Try.ntmps21
  go_wp2_with fail
  refine HN.out.mono ?_
  rintro e w1 ⟨g, R, rfl, gr, kb⟩
  have GR := hide gr
  have KB := hide kb
  clear gr kb HN
  go_wp2_with fail
  go_loopw [17] (fun i wr => ∃ k : Nat, k ≤ n ∧ i = .int .i64 (k : Int) ∧ Hid (∃ f, Grid wr B g m n R f ∧ ∀ x y, x < m → y < k → f x y = en xss y x) ∧ Hid (Below B w wr)) (fun i _ => n - (intOf i).toNat)
  case atStart => exact ⟨0, Nat.zero_le _, rfl, hide ⟨_, GR.out, fun x y _ hy => absurd hy (Nat.not_lt_zero y)⟩, KB⟩
  case round =>
    obtain ⟨k, hk, rfl, hf, hbel⟩ := hrel
    by_cases hlt : k < n
    · obtain ⟨b2, off2, A2, c2, e2, cr0, ir, l2, m2⟩ := HA.out.at_ k (by rw [HS.out.high]; exact hlt)
      cases e2
      rw [HS.out.len_at k hlt] at cr0 l2 ir
      have cr := (hbel.out.cell (p := ⟨b, off + k, none⟩) (by rw [HB.out]; exact cell_lt cr0)).trans cr0
      have IR := hide ir
      clear ir cr0
      go_wp2_with fail
      go_loopw [24] (fun i w2 => ∃ j : Nat, j ≤ m ∧ i = .int .i64 (j : Int) ∧ Hid (∃ f, Grid w2 B g m n R f ∧ ∀ x y, x < m → (y < k ∨ (y = k ∧ x < j)) → f x y = en xss y x) ∧ Hid (Below B w w2)) (fun i _ => m - (intOf i).toNat)
      case atStart =>
        refine ⟨0, Nat.zero_le _, rfl, ?_, hbel⟩
        obtain ⟨f, gf, ef⟩ := hf.out
        exact hide ⟨f, gf, fun x y hx hy => ef x y hx (by omega)⟩
      case round =>
        obtain ⟨j, hj, rfl, hf2, hbel2⟩ := hrel
        by_cases hlt2 : j < m
        · have hrow := HS.out.row hlt
          obtain ⟨b3, off3, rfl, cx, hx⟩ := at_place (IR.out.keep (by rw [← HB.out]; exact hbel2.out)).rd hrow.1 hrow.2 j hlt2
          rw [HS.out.num k j hlt] at cx hx
          obtain ⟨f, gf, ef⟩ := hf2.out
          have cc := gf.cell j hlt2
          have c2' := gf.num j k hlt2 hlt
          have c3 := gf.frozen j k hlt2
          have st := gf.set j k hlt2 (en xss k j)
          have BL := hide (gf.below j k hlt2 (.int .u8 ((en xss k j).n : Int)) hbel2.out)
          obtain ⟨z, hz⟩ : ∃ z, z = en xss k j := ⟨_, rfl⟩
          rw [← hz] at cx hx st BL
          have NX : Hid (∃ f, Grid (wr.setCell ⟨R j, k, none⟩ (.int .u8 (z.n : Int))) B g m n R f ∧ ∀ x y, x < m → (y < k ∨ (y = k ∧ x < j + 1)) → f x y = en xss y x) := by
            refine ⟨_, st, fun x y hx hy => ?_⟩
            by_cases e1 : x = j
            · subst e1
              by_cases e2 : y = k
              · subst e2; rw [upd_at, hz]
              · rw [upd_col e2]; exact ef x y hx (by omega)
            · rw [upd_row e1]; exact ef x y hx (by omega)
          clear st gf ef hf2 hbel2 hrow hz hx hf hbel cr
          go_wp2_with fail
          go_roundw
          case rel => exact ⟨j + 1, by omega, by go_num, NX, BL⟩
          case measure => simp [intOf]; omega
        · obtain rfl : j = m := by omega
          go_wp2_with fail
          go_roundw
          case rel =>
            refine ⟨k + 1, by omega, by go_num, ?_, hbel2⟩
            obtain ⟨f, gf, ef⟩ := hf2.out
            exact hide ⟨f, gf, fun x y hx hy => ef x y hx (by omega)⟩
          case measure => simp [intOf]; omega
    · obtain rfl : k = n := by omega
      go_wp2_with fail
      go_ret
      obtain ⟨f, gf, ef⟩ := hf.out
      refine ⟨g, R, rfl, ⟨gf.outer, fun i hi => ?_, gf.apart⟩, hbel.out⟩
      have := gf.row i hi
      rwa [show cellsG f i k = cellsG (turn (en xss)) i k from List.map_congr_left (fun y hy => by rw [ef i y hi (List.mem_range.1 hy)]; rfl)] at this
/-- What is refused. -/
def mulBad (A B : ML) : Prop := isMt A = false ∨ isMt B = false ∨ (A.getD 0 []).length ≠ B.length
theorem mul_bad (A B : Option Addr) (n n2 c c2 : Nat) (xss yss : ML) (w : World) (hA : IsM w A xss) (hB : IsM w B yss) (hn : xss.length = n) (hn2 : yss.length = n2) (h63 : n ≤ 9223372036854775807) (h632 : n2 ≤ 9223372036854775807) (h : mulBad xss yss) :
    Calls Try.prog 9 #[.slice A n c, .slice B n2 c2] w fun e w' => e = .returned (.tuple #[.slice none 0 0, .int .i64 1]) ∧ Below w.heap.size w w' := by
  have HA := hide hA
  have H1 := hide (isMatrix_any A n c xss w hA hn h63)
  have H2 := hide (fun w' (k : Below w.heap.size w w') => isMatrix_any B n2 c2 yss w' (hB.below k) hn2 h632)
  have HN := hide hn
  have HN2 := hide hn2
  clear hA hB hn hn2
  rcases h1 : isMt xss with _ | _
  · rw [h1] at H1
    clear h h1
    go_enter Try.func9, Try.ntmps9
    go_wp2_with fail
    refine H1.out.mono ?_
    rintro e w1 ⟨rfl, k1⟩
    have K1 := hide k1
    clear k1
    go_wp2_with fail
    go_ret2
    exact ⟨rfl, K1.out⟩
  · rw [h1] at H1
    rcases h2 : isMt yss with _ | _
    · rw [h2] at H2
      clear h
      go_enter Try.func9, Try.ntmps9
      go_wp2_with fail
      refine H1.out.mono ?_
      rintro e w1 ⟨rfl, k1⟩
      have K1 := hide k1
      clear k1
      go_wp2_with fail
      refine (H2.out _ K1.out).mono ?_
      rintro e w2 ⟨rfl, k2⟩
      have K2 := hide (below_step K1.out k2)
      clear k2
      go_wp2_with fail
      go_ret2
      exact ⟨rfl, K2.out⟩
    · rw [h2] at H2
      have hne : (xss.getD 0 []).length ≠ n2 := by
        rcases h with h | h | h
        · rw [h1] at h; cases h
        · rw [h2] at h; cases h
        · rw [← HN2.out]; exact h
      have hd := of_decide_eq_true h1
      obtain ⟨b, off, A', c', rfl, ck, -, l1, m1⟩ := HA.out.at_ 0 (by omega)
      have ck0 : w.cell? ⟨b, off, none⟩ = some (.slice A' (xss.getD 0 []).length c') := ck
      obtain ⟨m, hm⟩ : ∃ m, m = (xss.getD 0 []).length := ⟨_, rfl⟩
      rw [← hm] at ck0 l1 hne
      have CK := hide ck0
      have g1 : 0 < (n : Int) := by rw [← HN.out]; omega
      have hne0 : ((m : Int) != (n2 : Int)) = true := by simp; omega
      clear h h1 h2 hd ck ck0 hne hm
      go_enter Try.func9, Try.ntmps9
      go_wp2_with fail
      refine H1.out.mono ?_
      rintro e w1 ⟨rfl, k1⟩
      have K1 := hide k1
      clear k1
      go_wp2_with fail
      refine (H2.out _ K1.out).mono ?_
      rintro e w2 ⟨rfl, k2⟩
      have K2 := hide (below_step K1.out k2)
      have ck2 := (K2.out.cell (cell_lt CK.out)).trans CK.out
      clear k2
      go_wp2_with fail
      go_ret2
      exact ⟨rfl, K2.out⟩
theorem rmul_bad (A B : Option Addr) (n n2 c c2 : Nat) (xss yss : ML) (w : World) (hA : IsM w A xss) (hB : IsM w B yss) (hn : xss.length = n) (hn2 : yss.length = n2) (h63 : n ≤ 9223372036854775807) (h632 : n2 ≤ 9223372036854775807) (h : mulBad xss yss) :
    Calls Try.prog 10 #[.slice A n c, .slice B n2 c2] w fun e w' => e = .returned (.tuple #[.slice none 0 0, .int .i64 1]) ∧ Below w.heap.size w w' := by
  have HA := hide hA
  have H1 := hide (ris_any A n c xss w hA hn h63)
  have H2 := hide (fun d => ris_any B n2 c2 yss (w.drewN d) (hB.drewN d) hn2 h632)
  have HN := hide hn
  have HN2 := hide hn2
  clear hA hB hn hn2
  rcases h1 : isMt xss with _ | _
  · rw [h1] at H1
    clear h h1
    go_enter Try.func10, Try.ntmps10
    go_wp2_with fail
    refine H1.out.mono ?_
    rintro e w1 ⟨rfl, d, rfl⟩
    go_wp2_with fail
    go_ret2
    exact ⟨rfl, below_draw (Below.refl _ _) d⟩
  · rw [h1] at H1
    rcases h2 : isMt yss with _ | _
    · rw [h2] at H2
      clear h
      go_enter Try.func10, Try.ntmps10
      go_wp2_with fail
      refine H1.out.mono ?_
      rintro e w1 ⟨rfl, d, rfl⟩
      go_wp2_with fail
      refine (H2.out d).mono ?_
      rintro e w2 ⟨rfl, d2, rfl⟩
      go_wp2_with fail
      go_ret2
      exact ⟨rfl, below_draw (Below.refl _ _) _⟩
    · rw [h2] at H2
      have hne : (xss.getD 0 []).length ≠ n2 := by
        rcases h with h | h | h
        · rw [h1] at h; cases h
        · rw [h2] at h; cases h
        · rw [← HN2.out]; exact h
      have hd := of_decide_eq_true h1
      obtain ⟨b, off, A', c', rfl, ck, -, l1, m1⟩ := HA.out.at_ 0 (by omega)
      have ck0 : w.cell? ⟨b, off, none⟩ = some (.slice A' (xss.getD 0 []).length c') := ck
      obtain ⟨m, hm⟩ : ∃ m, m = (xss.getD 0 []).length := ⟨_, rfl⟩
      rw [← hm] at ck0 l1 hne
      have g1 : 0 < (n : Int) := by rw [← HN.out]; omega
      have hne0 : ((m : Int) != (n2 : Int)) = true := by simp; omega
      clear h h1 h2 hd ck hne hm
      go_enter Try.func10, Try.ntmps10
      go_wp2_with fail
      refine H1.out.mono ?_
      rintro e w1 ⟨rfl, d, rfl⟩
      go_wp2_with fail
      refine (H2.out d).mono ?_
      rintro e w2 ⟨rfl, d2, rfl⟩
      go_wp2_with fail
      go_ret2
      exact ⟨rfl, below_draw (Below.refl _ _) _⟩
set_option maxHeartbeats 3200000 in
theorem mul_mat (A B : Option Addr) (n p m c c2 : Nat) (xss yss : ML) (w : World) (hA : IsM w A xss) (hB : IsM w B yss) (sA : Shape xss n p) (sB : Shape yss p m)
    (h1 : 1 ≤ n) (h2 : n ≤ 64) (h3 : 1 ≤ p) (h4 : p ≤ 64) (h5 : 1 ≤ m) (h6 : m ≤ 64) :
    Calls Try.prog 9 #[.slice A n c, .slice B p c2] w fun e w' => ∃ g, e = .returned (.tuple #[.slice (some ⟨g, 0, none⟩) n n, .int .i64 0]) ∧ OwnMt w' w.heap.size (.slice (some ⟨g, 0, none⟩) n n) (mulL xss yss n p m) ∧ Below w.heap.size w w' := by
  have H1 := isMatrix_any A n c xss w hA sA.high (by omega)
  rw [sA.isMt h1 h2 h3 h4] at H1
  have H1 := hide H1
  have H2 := hide (fun w' (k : Below w.heap.size w w') => by
    have := isMatrix_any B p c2 yss w' (hB.below k) sB.high (by omega)
    rw [sB.isMt h3 h4 h5 h6] at this
    exact this)
  have H3 := hide (fun w' (k : Below w.heap.size w w') => turned_any B p m c2 yss w' (hB.below k) sB h3 h4 h6)
  have HA := hide hA
  have SA := hide sA
  have SB := hide sB
  obtain ⟨b, off, A', c', rfl, ck, -, l1, m1⟩ := hA.at_ 0 (by rw [sA.high]; omega)
  rw [sA.len_at 0 (by omega)] at ck l1
  have CK : Hid (w.cell? ⟨b, off, none⟩ = some (.slice A' p c')) := hide ck
  have g1 : 0 < (n : Int) := by omega
  have hne0 : ((p : Int) != (p : Int)) = false := by simp
  clear hA hB sA sB ck
  go_enter Try.func9, Try.ntmps9
  go_wp2_with fail
  refine H1.out.mono ?_
  rintro e w1 ⟨rfl, k1⟩
  have K1 := hide k1
  clear k1 H1
  go_wp2_with fail
  refine (H2.out _ K1.out).mono ?_
  rintro e w2 ⟨rfl, k2⟩
  have K2 := hide (below_step K1.out k2)
  have ck2 := (K2.out.cell (cell_lt CK.out)).trans CK.out
  clear k2 H2
  go_wp2_with fail
  refine (H3.out _ K2.out).mono ?_
  rintro e w3 ⟨g, R, rfl, gr, k3⟩
  have GR := hide gr
  have K3 := hide (below_step K2.out k3)
  clear gr k3 H3 ck2
  go_wp2_with fail
  refine (noughts_any n m w3 (by omega) (by omega)).mono ?_
  rintro e w4 ⟨g4, R4, rfl, gr4, k4⟩
  have GR4 := hide (gr4.more (Nat.le_refl _))
  have GRK := hide (fun W (k : Below w3.heap.size w3 W) => GR.out.keep k)
  have K4 := hide k4
  clear gr4 k4 GR
  obtain ⟨B3, hB3⟩ : ∃ B3, B3 = w3.heap.size := ⟨_, rfl⟩
  rw [← hB3] at GR4 K4 GRK
  have HB3 := hide (show w.heap.size ≤ B3 by rw [hB3]; exact K3.out.size)
  clear hB3
  go_wp2_with fail
  go_loopw [38] (fun i wr => ∃ k : Nat, k ≤ n ∧ i = .int .i64 (k : Int) ∧ Hid (∃ f, Grid wr B3 g4 n m R4 f ∧ ∀ x y, x < k → y < m → f x y = mm p (en xss) (en yss) x y) ∧ Hid (Below B3 w3 wr)) (fun i _ => n - (intOf i).toNat)
  case atStart => exact ⟨0, Nat.zero_le _, rfl, hide ⟨_, GR4.out, fun x y hx => absurd hx (Nat.not_lt_zero x)⟩, K4⟩
  case round =>
    obtain ⟨k, hk, rfl, hf, hbel⟩ := hrel
    by_cases hlt : k < n
    · have cr := (let ⟨f, gf, _⟩ := hf.out; gf.cell k hlt)
      go_wp2_with fail
      go_loopw [45] (fun i w2 => ∃ j : Nat, j ≤ m ∧ i = .int .i64 (j : Int) ∧ Hid (∃ f, Grid w2 B3 g4 n m R4 f ∧ ∀ x y, (x < k ∨ (x = k ∧ y < j)) → y < m → f x y = mm p (en xss) (en yss) x y) ∧ Hid (Below B3 w3 w2)) (fun i _ => m - (intOf i).toNat)
      case atStart =>
        refine ⟨0, Nat.zero_le _, rfl, ?_, hbel⟩
        obtain ⟨f, gf, ef⟩ := hf.out
        exact hide ⟨f, gf, fun x y hx hy => ef x y (by omega) hy⟩
      case round =>
        obtain ⟨j, hj, rfl, hf2, hbel2⟩ := hrel
        by_cases hlt2 : j < m
        · have G0 := GRK.out _ hbel2.out
          have cc := G0.cell j hlt2
          have kw := K3.out.trans (hbel2.out.mono HB3.out)
          obtain ⟨b3, off3, A3, c3, e3, ca0, ia, l3, m3⟩ := HA.out.at_ k (by rw [SA.out.high]; exact hlt)
          cases e3
          have hrowA := SA.out.row hlt
          rw [hrowA.1] at ca0 l3 ia
          have ca := (kw.cell (cell_lt ca0)).trans ca0
          have hcol := (G0.own (by omega) (by omega)).row j hlt2
          have hrowT := (laid_shape m p (turn (en yss))).row hlt2
          obtain ⟨A5, c5, cc5, ow5, -⟩ := hcol
          rw [cc] at cc5
          simp only [Option.some.injEq, Value.slice.injEq] at cc5
          obtain ⟨rfl, -, rfl⟩ := cc5
          rw [hrowT.1] at ow5
          have HD := dot_any A3 (some ⟨R j, 0, none⟩) p c3 p (xss.getD k []) ((laid m p (turn (en yss))).getD j []) wr (ia.keep kw).rd ow5.isB.rd hrowA.1 hrowT.1 hrowA.2 hrowT.2 (by omega)
          rw [dot_mm yss SA.out k j hlt hlt2] at HD
          have HD := hide HD
          obtain ⟨f, gf, ef⟩ := hf2.out
          have c2' := gf.num k j hlt hlt2
          have c3' := gf.frozen k j hlt
          have st := gf.set k j hlt (mm p (en xss) (en yss) k j)
          have BL := hide (gf.below k j hlt (.int .u8 ((mm p (en xss) (en yss) k j).n : Int)) hbel2.out)
          obtain ⟨z, hz⟩ : ∃ z, z = mm p (en xss) (en yss) k j := ⟨_, rfl⟩
          rw [← hz] at HD st BL
          have NX : Hid (∃ f, Grid (wr.setCell ⟨R4 k, j, none⟩ (.int .u8 (z.n : Int))) B3 g4 n m R4 f ∧ ∀ x y, (x < k ∨ (x = k ∧ y < j + 1)) → y < m → f x y = mm p (en xss) (en yss) x y) := by
            refine ⟨_, st, fun x y hx hy => ?_⟩
            by_cases e1 : x = k
            · subst e1
              by_cases e2 : y = j
              · subst e2; rw [upd_at, hz]
              · rw [upd_col e2]; exact ef x y (by omega) hy
            · rw [upd_row e1]; exact ef x y (by omega) hy
          clear st gf ef hf2 hbel2 hrowA hrowT hz hf hbel cr G0 kw ca0 ia ow5
          go_wp2_with fail
          refine HD.out.mono ?_
          rintro e w6 ⟨rfl, rfl⟩
          go_wp2_with fail
          go_roundw
          case rel => exact ⟨j + 1, by omega, by go_num, NX, BL⟩
          case measure => simp [intOf]; omega
        · obtain rfl : j = m := by omega
          go_wp2_with fail
          go_roundw
          case rel =>
            refine ⟨k + 1, by omega, by go_num, ?_, hbel2⟩
            obtain ⟨f, gf, ef⟩ := hf2.out
            exact hide ⟨f, gf, fun x y hx hy => ef x y (by omega) hy⟩
          case measure => simp [intOf]; omega
    · obtain rfl : k = n := by omega
      go_wp2_with fail
      go_ret2
      obtain ⟨f, gf, ef⟩ := hf.out
      refine ⟨g4, rfl, ?_, K3.out.trans (hbel.out.mono HB3.out)⟩
      have := (gf.own (by omega) (by omega)).more HB3.out
      rwa [show laid k m f = mulL xss yss k p m from laid_congr (fun i hi j hj => ef i j hi hj)] at this
end Go.Proofs.Yteebdlliaipnlaa
