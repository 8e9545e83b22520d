/- The contract of the net's Take. No condition but the widths. -/
import Derived.Test.YtdhamhaadclhkaaRNTwice
import Derived.Test.YtdhamhaadclhkaaNDel
namespace Go.Proofs.Ytdhamhaadclhkaa
open Go.RowKit
/-- The result is laid into its block. -/
theorem laid_msg {w w2 : World} {B g1 : Nat} {cs : List Value} (k : Below w.heap.size w w2) (hg : w.heap.size ≤ g1) (b : Blk w2 B 45 g1 cs) (hl : cs.length = 5) (f t k' : Int) (U V : Value) :
    Blk (setMsg w2 g1 f t k' U V) B 45 g1 [.int .i64 f, .int .i64 t, .int .i64 k', U, V] ∧ Below w.heap.size w (setMsg w2 g1 f t k' U V) ∧ w2.grownBy (setMsg w2 g1 f t k' U V) (some g1) := by
  have gr := setMsg_grown w2 g1 f t k' U V
  refine ⟨setMsg_blk b hl f t k' U V, k.grown gr k.size (by intro j e; have e : g1 = j := (by simpa using e); rw [← e]; exact hg), gr⟩
set_option maxHeartbeats 1600000 in
theorem take_none (F : Nat → Prop) (g : Nat) (v : Value) (X : List Itm) (i : Int) (w : World) (h : NShell PN w F g v X) (hi : ¬ (0 ≤ i ∧ i < (X.length : Int))) :
    Calls Try.prog 25 #[.pointer (some ⟨g, 0, none⟩), .int .i64 i] w fun e w' => e = .returned (.tuple #[zeroMsg, .bool false]) ∧ Below w.heap.size w w' := by
  have ka := below_alloc w (.cells zeroArr 45)
  have HA := hide (at_none F g v X i _ (h.below ka) hi)
  have m1 := msgAt_new w 45 0 0 0 (.slice none 0 0) (.slice none 0 0)
  have hg := h.cells.lt
  obtain ⟨w1, hw1⟩ : ∃ w1, w1 = w.alloc (.cells zeroArr 45) := ⟨_, rfl⟩
  rw [← hw1] at HA ka m1
  have b1 : Blk w1 0 45 w.heap.size zeroArr.toList := by rw [hw1]; exact Blk.new w _ _ (Nat.zero_le _)
  obtain ⟨g1, hg1⟩ : ∃ g1, g1 = w.heap.size := ⟨_, rfl⟩
  rw [← hg1] at b1
  have HW := hide hw1
  have HG := hide hg1
  have KA := hide ka
  have B1 := hide b1
  unfold zeroMsg at HA
  clear h hi hw1 hg1 ka m1 b1
  go_enter Try.func25, Try.ntmps25
  go_wp2_with fail
  rw [← HW.out, ← HG.out]
  refine HA.out.mono ?_
  rintro e w2 ⟨rfl, k2⟩
  have b2 := B1.out.keep k2
  have K2 := hide (KA.out.trans (k2.mono KA.out.size))
  have hgl : g1 < w2.heap.size := b2.lt
  have z0 : w2.cell? ⟨g1, 0, none⟩ = some (.int .i64 0) := b2.cell 0
  have z1 : w2.cell? ⟨g1, 1, none⟩ = some (.int .i64 0) := b2.cell 1
  have z2 : w2.cell? ⟨g1, 2, none⟩ = some (.int .i64 0) := b2.cell 2
  have z3 : w2.cell? ⟨g1, 3, none⟩ = some (.slice none 0 0) := b2.cell 3
  have z4 : w2.cell? ⟨g1, 4, none⟩ = some (.slice none 0 0) := b2.cell 4
  have y0 := b2.frozen 0
  have y1 := b2.frozen 1
  have y2 := b2.frozen 2
  have y3 := b2.frozen 3
  have y4 := b2.frozen 4
  have B2 := hide b2
  clear k2 b2
  go_wp2_with fail
  obtain ⟨W8, hW8⟩ : ∃ W8, W8 = setMsg w2 g1 0 0 0 (.slice none 0 0) (.slice none 0 0) := ⟨_, rfl⟩
  obtain ⟨b9, k9, gr9⟩ := laid_msg K2.out (Nat.le_of_eq HG.out.symm) B2.out rfl 0 0 0 (.slice none 0 0) (.slice none 0 0)
  rw [← hW8] at b9 gr9 k9
  unfold setMsg at hW8
  rw [← hW8]
  have ka := below_alloc W8 (.cells zeroArr 45)
  obtain ⟨q0, q1, q2, q3, q4⟩ := (b9.keep ka).msgAt
  refine bodyPost_ret (v := .tuple #[zeroMsg, .bool false]) (by simp [results, Try.results25, go_sem, zeroMsg, q0, q1, q2, q3, q4]) rfl ⟨rfl, k9.trans (ka.mono k9.size)⟩
set_option maxRecDepth 100000 in
set_option maxHeartbeats 3200000 in
theorem take_some (F : Nat → Prop) (g : Nat) (v : Value) (X : List Itm) (i : Nat) (w : World) (h : NShell PN w F g v X) (hi : i < X.length) :
    Calls Try.prog 25 #[.pointer (some ⟨g, 0, none⟩), .int .i64 (i : Int)] w fun e w' => ∃ r, e = .returned (.tuple #[r, .bool true]) ∧ Fresh w' w.heap.size r X[i].f X[i].t X[i].k X[i].zs X[i].d ∧ (∃ v', NShell PN w' F g v' (X.take i ++ X.drop (i + 1))) ∧ Turn F w w' := by
  have ka := below_alloc w (.cells zeroArr 45)
  have h1 := h.below ka
  have HA := hide (at_some F g v X i _ h1 hi)
  obtain ⟨w1, hw1⟩ : ∃ w1, w1 = w.alloc (.cells zeroArr 45) := ⟨_, rfl⟩
  rw [← hw1] at HA ka h1
  have b1 : Blk w1 0 45 w.heap.size zeroArr.toList := by rw [hw1]; exact Blk.new w _ _ (Nat.zero_le _)
  obtain ⟨g1, hg1⟩ : ∃ g1, g1 = w.heap.size := ⟨_, rfl⟩
  rw [← hg1] at b1
  obtain ⟨A0, c0, rfl, hlc, hc63, -, hcl⟩ := h1.row.form
  obtain ⟨b, rfl, hbb, hbl, -⟩ := hcl i hi
  have hbF : F b := h1.mine b rfl
  have hbw : b < w.heap.size := h.low b hbF
  obtain ⟨f, t, k, U, V, zs, d, hx⟩ : ∃ f t k U V zs d, X[i] = ⟨f, t, k, U, V, zs, d⟩ := ⟨_, _, _, _, _, _, _, rfl⟩
  rw [hx] at HA ⊢
  simp only at HA ⊢
  obtain ⟨N, hN⟩ : ∃ N, N = X.length := ⟨_, rfl⟩
  have hm := h1.most
  rw [← hN] at hi hlc hm h1
  obtain ⟨j, hj⟩ : ∃ j, j = i + 1 := ⟨_, rfl⟩
  have hji : (i : Int) + 1 = (j : Int) := by omega
  have HJ := hide hj
  have HN := hide hN
  have HW := hide hw1
  have HG := hide hg1
  have KA := hide ka
  have B1 := hide b1
  have H1 := hide h1
  have HH := hide h
  clear h hw1 hg1 ka b1 h1 hcl hx hN hj
  go_enter Try.func25, Try.ntmps25
  go_wp2_with fail
  rw [← HW.out, ← HG.out]
  refine HA.out.mono ?_
  rintro e w2 ⟨r, rfl, fr, k2⟩
  obtain ⟨A, c, D, cp, rfl, o1, o2⟩ := fr
  have ka3 := below_alloc w2 (.cells #[.int .i64 f, .int .i64 t, .int .i64 k, .slice A zs.length c, .slice D d.length cp] 45)
  have h2 := H1.out.below (k2.trans (ka3.mono k2.size))
  have q0 : w2.cell? ⟨g, 0, none⟩ = some (.slice (some ⟨b, 0, none⟩) N c0) := (H1.out.below k2).cells.cell 0
  have hgl : g < w2.heap.size := (H1.out.below k2).cells.lt
  go_wp2_with fail
  have b3 := (B1.out.keep k2).keep ka3
  have b6 := Blk.new (B := 0) w2 45 #[.int .i64 f, .int .i64 t, .int .i64 k, .slice A zs.length c, .slice D d.length cp] (Nat.zero_le _)
  obtain ⟨g6, hg6⟩ : ∃ g6, g6 = w2.heap.size := ⟨_, rfl⟩
  obtain ⟨w3, hw3⟩ : ∃ w3, w3 = w2.alloc (.cells #[.int .i64 f, .int .i64 t, .int .i64 k, .slice A zs.length c, .slice D d.length cp] 45) := ⟨_, rfl⟩
  rw [← hg6] at b6
  rw [← hw3] at h2 b3 b6 ka3
  rw [← hg6, ← hw3]
  have hdel := delete_any F b N c0 i X w3 HN.out h2.row h2.each hi j HJ.out hlc hc63
  refine hdel.mono ?_
  rintro e w4 ⟨rfl, o4, gr4⟩
  obtain ⟨b4, s4, t4⟩ := HH.out.cut (by decide) (by decide) (by decide) (KA.out.trans ((k2.trans (ka3.mono k2.size)).mono KA.out.size)) o4 gr4 rfl mem_cut (cut_le (by rw [← HN.out]; exact hm))
  have e1 : w1.heap.size = w.heap.size + 1 := by rw [HW.out]; simp
  have hw12 : w1.heap.size ≤ w2.heap.size := k2.size
  have hG := HG.out
  have n1 : ¬ g1 = b := by omega
  have n6 : ¬ g6 = b := by omega
  have gw := HH.out.low g HH.out.own
  have n2 : ¬ g = g6 := by omega
  have n3 : ¬ g = g1 := by omega
  have n4 : ¬ g1 = g6 := by omega
  have n5 : ¬ g6 = g1 := by omega
  have b3' := b3.kept gr4 (by intro e; exact n1 (by simpa using e.symm))
  have b6' := b6.kept gr4 (by intro e; exact n6 (by simpa using e.symm))
  have x0 : w4.cell? ⟨g, 0, none⟩ = some (.slice (some ⟨b, 0, none⟩) X.length c0) := b4.cell 0
  have y0 := b4.frozen 0
  have r0 : w4.cell? ⟨g6, 0, none⟩ = some (.int .i64 f) := b6'.cell 0
  have r1 : w4.cell? ⟨g6, 1, none⟩ = some (.int .i64 t) := b6'.cell 1
  have r2 : w4.cell? ⟨g6, 2, none⟩ = some (.int .i64 k) := b6'.cell 2
  have r3 : w4.cell? ⟨g6, 3, none⟩ = some (.slice A zs.length c) := b6'.cell 3
  have r4 : w4.cell? ⟨g6, 4, none⟩ = some (.slice D d.length cp) := b6'.cell 4
  have z0 : w4.cell? ⟨g1, 0, none⟩ = some (.int .i64 0) := b3'.cell 0
  have z1 : w4.cell? ⟨g1, 1, none⟩ = some (.int .i64 0) := b3'.cell 1
  have z2 : w4.cell? ⟨g1, 2, none⟩ = some (.int .i64 0) := b3'.cell 2
  have z3 : w4.cell? ⟨g1, 3, none⟩ = some (.slice none 0 0) := b3'.cell 3
  have z4 : w4.cell? ⟨g1, 4, none⟩ = some (.slice none 0 0) := b3'.cell 4
  have p0 := b3'.frozen 0
  have p1 := b3'.frozen 1
  have p2 := b3'.frozen 2
  have p3 := b3'.frozen 3
  have p4 := b3'.frozen 4
  have gs := grown_set w4 g 0 (.slice (some ⟨b, 0, none⟩) (N - 1) c0)
  have b3'' := b3'.kept gs (by intro e; exact n3 (by simpa using e))
  have o0 : Fresh w2 w1.heap.size (.agg #[.int .i64 f, .int .i64 t, .int .i64 k, .slice A zs.length c, .slice D d.length cp]) f t k zs d := ⟨A, c, D, cp, rfl, o1, o2⟩
  have o1' := (Fresh.keep o0 ka3).set gr4 (by omega)
  have FR := hide (o1'.set gs (by omega))
  have B3 := hide b3''
  have S4 := hide s4
  have T4 := hide t4
  have hGG := hide (show g1 = w.heap.size from hG)
  have E1 := hide e1
  clear o0 hdel o4 gr4 b3 b6 b3' b6' b3'' o1' o1 o2 gs s4 t4 h2 k2 ka3 hw3 hg6 q0 hG e1 hw12 b4
  go_wp2_with fail
  obtain ⟨W7, hW7⟩ : ∃ W7, W7 = w4.setCell ⟨g, 0, none⟩ (.slice (some ⟨b, 0, none⟩) (N - 1) c0) := ⟨_, rfl⟩
  have s7 := S4.out
  have t7 := T4.out
  have f7 := FR.out
  have b7 := B3.out
  rw [← hW7] at s7 t7 f7 b7 ⊢
  obtain ⟨W8, hW8⟩ : ∃ W8, W8 = setMsg W7 g1 f t k (.slice A zs.length c) (.slice D d.length cp) := ⟨_, rfl⟩
  have b9 := setMsg_blk b7 rfl f t k (.slice A zs.length c) (.slice D d.length cp)
  have gr9 := setMsg_grown W7 g1 f t k (.slice A zs.length c) (.slice D d.length cp)
  rw [← hW8] at b9 gr9
  unfold setMsg at hW8
  rw [← hW8]
  have hge := hGG.out
  have he1 := E1.out
  have t9 : Turn (fun k => k = g1) W7 W8 := (Turn.of_grown gr9).mono (fun k hk => by simpa using hk)
  have f9 := (f7.set gr9 (by omega)).more (show w.heap.size ≤ w1.heap.size by omega)
  have s9 := s7.turn t9 (fun k hk e => by have := HH.out.low k hk; omega)
  have t10 : Turn F w W8 := t7.then t9 (fun k e => .inr (by omega))
  obtain ⟨q0, q1, q2, q3, q4⟩ := b9.msgAt
  refine bodyPost_ret (v := .tuple #[.agg #[.int .i64 f, .int .i64 t, .int .i64 k, .slice A zs.length c, .slice D d.length cp], .bool true]) (by simp [results, Try.results25, go_sem, q0, q1, q2, q3, q4]) rfl ⟨_, rfl, f9, ⟨_, s9⟩, t10⟩
end Go.Proofs.Ytdhamhaadclhkaa
