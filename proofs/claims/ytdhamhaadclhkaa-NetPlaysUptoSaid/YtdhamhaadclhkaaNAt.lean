/- The contracts of the net's At, and of the document's. No condition but the widths. -/
import Derived.Test.YtdhamhaadclhkaaRNet
namespace Go.Proofs.Ytdhamhaadclhkaa
open Go.RowKit
def zeroMsg : Value := .agg #[.int .i64 0, .int .i64 0, .int .i64 0, .slice none 0 0, .slice none 0 0]
abbrev zeroArr : Array Value := #[.int .i64 0, .int .i64 0, .int .i64 0, .slice none 0 0, .slice none 0 0]
theorem Fresh.set {w w' : World} {B g : Nat} {r : Value} {f t k : Int} {zs : List Int} {d : List Nat} (h : Fresh w B r f t k zs d) (hg : w.grownBy w' (some g)) (hl : g < B) : Fresh w' B r f t k zs d := by
  obtain ⟨A, c, D, cp, e, o1, o2⟩ := h
  refine ⟨A, c, D, cp, e, World.ownsRow.kept o1 hg (.inr (fun e => ?_)), World.ownsRow.kept o2 hg (.inr (fun e => ?_))⟩
  · have := (World.ownsRow.lt o1 g e).1
    omega
  · have := (World.ownsRow.lt o2 g e).1
    omega
theorem Fresh.more {w : World} {B B' : Nat} {r : Value} {f t k : Int} {zs : List Int} {d : List Nat} (h : Fresh w B r f t k zs d) (hl : B' ≤ B) : Fresh w B' r f t k zs d := by
  obtain ⟨A, c, D, cp, e, o1, o2⟩ := h
  exact ⟨A, c, D, cp, e, ownsRow_more o1 hl, ownsRow_more o2 hl⟩
theorem Fresh.turn {S : Nat → Prop} {w w' : World} {B : Nat} {r : Value} {f t k : Int} {zs : List Int} {d : List Nat} (h : Fresh w B r f t k zs d) (hT : Turn S w w') (hS : ∀ g, B ≤ g → g < w.heap.size → ¬ S g) : Fresh w' B r f t k zs d := by
  obtain ⟨A, c, D, cp, e, o1, o2⟩ := h
  refine ⟨A, c, D, cp, e, ownsRow_turn o1 hT (fun g e => ?_), ownsRow_turn o2 hT (fun g e => ?_)⟩
  · exact hS g (World.ownsRow.lt o1 g e).1 (World.ownsRow.lt o1 g e).2
  · exact hS g (World.ownsRow.lt o2 g e).1 (World.ownsRow.lt o2 g e).2
theorem Fresh.keep {w w' : World} {B : Nat} {r : Value} {f t k : Int} {zs : List Int} {d : List Nat} (h : Fresh w B r f t k zs d) (hT : Below w.heap.size w w') : Fresh w' B r f t k zs d := h.turn (S := fun _ => False) (Turn.of_below _ hT) (fun _ _ _ => id)
set_option maxHeartbeats 1600000 in
theorem at_none (F : Nat → Prop) (g : Nat) (v : Value) (X : List Itm) (i : Int) (w : World) (h : NShell PN w F g v X) (hi : ¬ (0 ≤ i ∧ i < (X.length : Int))) :
    Calls Try.prog 23 #[.pointer (some ⟨g, 0, none⟩), .int .i64 i] w fun e w' => e = .returned (.tuple #[zeroMsg, .bool false]) ∧ Below w.heap.size w w' := by
  have ka := below_alloc w (.cells zeroArr 45)
  have HF := hide (has_any F g v X i _ (h.below ka))
  rw [decide_eq_false hi] at HF
  have b1 := Blk.new w (B := w.heap.size) 45 zeroArr (Nat.le_refl _)
  obtain ⟨w1, hw1⟩ : ∃ w1, w1 = w.alloc (.cells zeroArr 45) := ⟨_, rfl⟩
  rw [← hw1] at HF b1 ka
  have HW := hide hw1
  have KA := hide ka
  have B1 := hide b1
  obtain ⟨g1, hg1⟩ : ∃ g1, g1 = w.heap.size := ⟨_, rfl⟩
  rw [← hg1] at B1
  have HG := hide hg1
  have z0 : w1.cell? ⟨g1, 0, none⟩ = some (.int .i64 0) := B1.out.cell 0
  have z1 : w1.cell? ⟨g1, 1, none⟩ = some (.int .i64 0) := B1.out.cell 1
  have z2 : w1.cell? ⟨g1, 2, none⟩ = some (.int .i64 0) := B1.out.cell 2
  have z3 : w1.cell? ⟨g1, 3, none⟩ = some (.slice none 0 0) := B1.out.cell 3
  have z4 : w1.cell? ⟨g1, 4, none⟩ = some (.slice none 0 0) := B1.out.cell 4
  have y0 := B1.out.frozen 0
  have y1 := B1.out.frozen 1
  have y2 := B1.out.frozen 2
  have y3 := B1.out.frozen 3
  have y4 := B1.out.frozen 4
  clear h ka b1 hw1 hg1
  go_enter Try.func23, Try.ntmps23
  go_wp2_with fail
  rw [← HW.out, ← HG.out]
  refine HF.out.mono ?_
  rintro e w' ⟨rfl, rfl⟩
  go_wp2_with fail
  obtain ⟨W8, hW8⟩ : ∃ W8, W8 = setMsg w1 g1 0 0 0 (.slice none 0 0) (.slice none 0 0) := ⟨_, rfl⟩
  have b9 := setMsg_blk B1.out rfl 0 0 0 (.slice none 0 0) (.slice none 0 0)
  have gr9 := setMsg_grown w1 g1 0 0 0 (.slice none 0 0) (.slice none 0 0)
  rw [← hW8] at b9 gr9
  have k9 : Below w.heap.size w W8 := KA.out.grown gr9 KA.out.size (by intro k e; have e : g1 = k := (by simpa using e); rw [← e, HG.out]; exact Nat.le_refl _)
  unfold setMsg at hW8
  rw [← hW8]
  obtain ⟨q0, q1, q2, q3, q4⟩ := b9.msgAt
  refine bodyPost_ret (v := .tuple #[zeroMsg, .bool false]) (by simp [results, Try.results23, go_sem, zeroMsg, q0, q1, q2, q3, q4]) rfl ⟨rfl, k9⟩
set_option maxRecDepth 100000 in
set_option maxHeartbeats 3200000 in
theorem at_some (F : Nat → Prop) (g : Nat) (v : Value) (X : List Itm) (i : Nat) (w : World) (h : NShell PN w F g v X) (hi : i < X.length) :
    Calls Try.prog 23 #[.pointer (some ⟨g, 0, none⟩), .int .i64 (i : Int)] w fun e w' => ∃ r, e = .returned (.tuple #[r, .bool true]) ∧ Fresh w' w.heap.size r X[i].f X[i].t X[i].k X[i].zs X[i].d ∧ Below w.heap.size w w' := by
  have ka := below_alloc w (.cells zeroArr 45)
  have h1 := h.below ka
  have HF := hide (has_any F g v X i _ h1)
  rw [decide_eq_true (show 0 ≤ (i : Int) ∧ (i : Int) < (X.length : Int) from ⟨by omega, by omega⟩)] at HF
  have b1 := Blk.new w (B := w.heap.size) 45 zeroArr (Nat.le_refl _)
  obtain ⟨w1, hw1⟩ : ∃ w1, w1 = w.alloc (.cells zeroArr 45) := ⟨_, rfl⟩
  rw [← hw1] at HF b1 ka h1
  have gd := h1.each X[i] (List.getElem_mem hi)
  obtain ⟨A, c, D, cp, hq, hA⟩ := five_form gd
  obtain ⟨A0, c0, rfl, hlc, hc63, -, hcl⟩ := h1.row.form
  obtain ⟨b, rfl, -, hbl, x0, x1, x2, x3, x4, -⟩ := hcl i hi
  have q0 : w1.cell? ⟨g, 0, none⟩ = some (.slice (some ⟨b, 0, none⟩) X.length c0) := h1.cells.cell 0
  obtain ⟨f, t, k, U, V, zs, d, hx⟩ : ∃ f t k U V zs d, X[i] = ⟨f, t, k, U, V, zs, d⟩ := ⟨_, _, _, _, _, _, _, rfl⟩
  rw [hx] at x0 x1 x2 x3 x4 hq gd ⊢
  simp only [Itm.mk.injEq, true_and, and_true] at hq
  obtain ⟨rfl, rfl⟩ := hq
  have HC := hide (fun (wx : World) (kx : Below w1.heap.size w1 wx) => clone5_any f t k A D zs.length c d.length cp zs d wx (gd.ou.isI.keep kx) hA (gd.ov.isB.keep kx) rfl gd.lu gd.lv)
  have HW := hide hw1
  have KA := hide ka
  have B1 := hide b1
  obtain ⟨g1, hg1⟩ : ∃ g1, g1 = w.heap.size := ⟨_, rfl⟩
  rw [← hg1] at B1
  have HG := hide hg1
  obtain ⟨N, hN⟩ : ∃ N, N = X.length := ⟨_, rfl⟩
  rw [← hN] at q0 hi hlc
  have hii : (i : Int) < (N : Int) := by omega
  have hi0 : (0 : Int) ≤ (i : Int) := by omega
  clear h ka b1 hw1 hg1 h1 hcl gd hx hN
  go_enter Try.func23, Try.ntmps23
  go_wp2_with fail
  rw [← HW.out, ← HG.out]
  refine HF.out.mono ?_
  rintro e w' ⟨rfl, rfl⟩
  go_wp2_with fail
  refine (HC.out w1 (Below.refl _ _)).mono ?_
  rintro e w2 ⟨r2, rfl, fr2, k2⟩
  have b2 := B1.out.keep k2
  have HFR := hide fr2
  obtain ⟨A2, c2, D2, cp2, rfl, -, -⟩ := fr2
  have z0 : w2.cell? ⟨g1, 0, none⟩ = some (.int .i64 0) := b2.cell 0
  have z1 : w2.cell? ⟨g1, 1, none⟩ = some (.int .i64 0) := b2.cell 1
  have z2 : w2.cell? ⟨g1, 2, none⟩ = some (.int .i64 0) := b2.cell 2
  have z3 : w2.cell? ⟨g1, 3, none⟩ = some (.slice none 0 0) := b2.cell 3
  have z4 : w2.cell? ⟨g1, 4, none⟩ = some (.slice none 0 0) := b2.cell 4
  have y0 := b2.frozen 0
  have y1 := b2.frozen 1
  have y2 := b2.frozen 2
  have y3 := b2.frozen 3
  have y4 := b2.frozen 4
  have B2 := hide b2
  have K2 := hide k2
  clear b2 k2 x0 x1 x2 x3 x4 q0
  go_wp2_with fail
  obtain ⟨W8, hW8⟩ : ∃ W8, W8 = setMsg w2 g1 f t k (.slice A2 zs.length c2) (.slice D2 d.length cp2) := ⟨_, rfl⟩
  have b9 := setMsg_blk B2.out rfl f t k (.slice A2 zs.length c2) (.slice D2 d.length cp2)
  have gr9 := setMsg_grown w2 g1 f t k (.slice A2 zs.length c2) (.slice D2 d.length cp2)
  rw [← hW8] at b9 gr9
  have kk : Below w.heap.size w w2 := KA.out.trans (K2.out.mono KA.out.size)
  have k9 : Below w.heap.size w W8 := kk.grown gr9 kk.size (by intro k e; have e : g1 = k := (by simpa using e); rw [← e, HG.out]; exact Nat.le_refl _)
  have f9 := (HFR.out.set gr9 B1.out.lt).more KA.out.size
  unfold setMsg at hW8
  rw [← hW8]
  obtain ⟨q0, q1, q2, q3, q4⟩ := b9.msgAt
  refine bodyPost_ret (v := .tuple #[.agg #[.int .i64 f, .int .i64 t, .int .i64 k, .slice A2 zs.length c2, .slice D2 d.length cp2], .bool true]) (by simp [results, Try.results23, go_sem, q0, q1, q2, q3, q4]) rfl ⟨_, rfl, f9, k9⟩
end Go.Proofs.Ytdhamhaadclhkaa
