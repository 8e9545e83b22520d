/- The contract of the document's Take. No condition but the widths. -/
import Derived.Test.YtdhamhaadclhkaaNAny
namespace Go.Proofs.Ytdhamhaadclhkaa
open Go.RowKit
theorem FreshO.set {w w' : World} {B g : Nat} {F : Nat → Prop} {r : Value} {m : Tale} (h : FreshO w B F r m) (hg : w.grownBy w' (some g)) (hl : g < B) : FreshO w' B F r m := by
  obtain ⟨A, c, D, cp, e, o1, o2, h3⟩ := h
  refine ⟨A, c, D, cp, e, World.ownsRow.kept o1 hg (.inr (fun e => ?_)), World.ownsRow.kept o2 hg (.inr (fun e => ?_)), h3⟩
  · have := (World.ownsRow.lt o1 g e).1
    omega
  · have := (World.ownsRow.lt o2 g e).1
    omega
theorem FreshO.more {w : World} {B B' : Nat} {F : Nat → Prop} {r : Value} {m : Tale} (h : FreshO w B F r m) (hl : B' ≤ B) : FreshO w B' F r m := by
  obtain ⟨A, c, D, cp, e, o1, o2, h3⟩ := h
  exact ⟨A, c, D, cp, e, ownsRow_more o1 hl, ownsRow_more o2 hl, h3⟩
theorem OwnM.shape {w : World} {B : Nat} {v : Value} {X : List Itm} (h : OwnM w B v X) : ∃ A n c, v = .slice A n c := by
  unfold OwnM at h
  rcases h.2 with ⟨e, _⟩ | ⟨g, cap, cur, e, _⟩
  · exact ⟨_, _, _, e⟩
  · exact ⟨_, _, _, e⟩
theorem own_emptyM (w W : World) (B b : Nat) (hB : B ≤ w.heap.size) (hb : b = w.heap.size) (hW : W.heap = (w.alloc (.cells #[] 45)).heap) : OwnM W B (.slice (some ⟨b, 0, none⟩) 0 0) [] := by
  subst hb
  exact ⟨rfl, .inr ⟨_, 0, #[], rfl, hB, by rw [hW]; exact heap_alloc_new w _, Nat.le_refl _, Nat.zero_le _, rfl, rfl⟩⟩
set_option maxHeartbeats 1600000 in
theorem rtake_none (F : Nat → Prop) (g : Nat) (v : Value) (X : List Itm) (i : Int) (w : World) (h : NShell RN w F g v X) (hi : ¬ (0 ≤ i ∧ i < (X.length : Int))) :
    Calls Try.prog 26 #[.pointer (some ⟨g, 0, none⟩), .int .i64 i] w fun e w' => e = .returned (.tuple #[zeroMsg, .bool false]) ∧ Below w.heap.size w w' := by
  have ka := below_alloc w (.cells zeroArr 45)
  have HA := hide (rat_none F g v X i _ (h.below ka) hi)
  have m1 := msgAt_new w 45 0 0 0 (.slice none 0 0) (.slice none 0 0)
  have hg := h.cells.lt
  obtain ⟨w1, hw1⟩ : ∃ w1, w1 = w.alloc (.cells zeroArr 45) := ⟨_, rfl⟩
  rw [← hw1] at HA ka m1
  have b1 : Blk w1 0 45 w.heap.size zeroArr.toList := by rw [hw1]; exact Blk.new w _ _ (Nat.zero_le _)
  obtain ⟨g1, hg1⟩ : ∃ g1, g1 = w.heap.size := ⟨_, rfl⟩
  rw [← hg1] at b1
  have HW := hide hw1
  have HG := hide hg1
  have KA := hide ka
  have B1 := hide b1
  unfold zeroMsg at HA
  clear h hi hw1 hg1 ka m1 b1
  go_enter Try.func26, Try.ntmps26
  go_wp2_with fail
  rw [← HW.out, ← HG.out]
  refine HA.out.mono ?_
  rintro e w2 ⟨rfl, k2⟩
  have b2 := B1.out.keep k2
  have K2 := hide (KA.out.trans (k2.mono KA.out.size))
  have hgl : g1 < w2.heap.size := b2.lt
  have z0 : w2.cell? ⟨g1, 0, none⟩ = some (.int .i64 0) := b2.cell 0
  have z1 : w2.cell? ⟨g1, 1, none⟩ = some (.int .i64 0) := b2.cell 1
  have z2 : w2.cell? ⟨g1, 2, none⟩ = some (.int .i64 0) := b2.cell 2
  have z3 : w2.cell? ⟨g1, 3, none⟩ = some (.slice none 0 0) := b2.cell 3
  have z4 : w2.cell? ⟨g1, 4, none⟩ = some (.slice none 0 0) := b2.cell 4
  have y0 := b2.frozen 0
  have y1 := b2.frozen 1
  have y2 := b2.frozen 2
  have y3 := b2.frozen 3
  have y4 := b2.frozen 4
  have B2 := hide b2
  clear k2 b2
  go_wp2_with fail
  obtain ⟨W8, hW8⟩ : ∃ W8, W8 = setMsg w2 g1 0 0 0 (.slice none 0 0) (.slice none 0 0) := ⟨_, rfl⟩
  obtain ⟨b9, k9, gr9⟩ := laid_msg K2.out (Nat.le_of_eq HG.out.symm) B2.out rfl 0 0 0 (.slice none 0 0) (.slice none 0 0)
  rw [← hW8] at b9 gr9 k9
  unfold setMsg at hW8
  rw [← hW8]
  have ka := below_alloc W8 (.cells zeroArr 45)
  obtain ⟨q0, q1, q2, q3, q4⟩ := (b9.keep ka).msgAt
  refine bodyPost_ret (v := .tuple #[zeroMsg, .bool false]) (by simp [results, Try.results26, go_sem, zeroMsg, q0, q1, q2, q3, q4]) rfl ⟨rfl, k9.trans (ka.mono k9.size)⟩
set_option maxRecDepth 100000 in
set_option maxHeartbeats 3200000 in
theorem rtake_some (F : Nat → Prop) (g : Nat) (v : Value) (X : List Itm) (i : Nat) (w : World) (h : NShell RN w F g v X) (hi : i < X.length) :
    Calls Try.prog 26 #[.pointer (some ⟨g, 0, none⟩), .int .i64 (i : Int)] w fun e w' => ∃ r, e = .returned (.tuple #[r, .bool true]) ∧ ∃ F' v', NShell RN w' F' g v' (X.take i ++ X.drop (i + 1)) ∧ Next F w F' w' ∧ FreshO w' w.heap.size F' r (X[i].f, X[i].t, X[i].k, X[i].zs, X[i].d) := by
  have ka := below_alloc w (.cells zeroArr 45)
  have h1 := h.below ka
  have HA := hide (rat_some F g v X i _ h1 hi)
  obtain ⟨w1, hw1⟩ : ∃ w1, w1 = w.alloc (.cells zeroArr 45) := ⟨_, rfl⟩
  rw [← hw1] at HA ka h1
  have b1 : Blk w1 0 45 w.heap.size zeroArr.toList := by rw [hw1]; exact Blk.new w _ _ (Nat.zero_le _)
  obtain ⟨g1, hg1⟩ : ∃ g1, g1 = w.heap.size := ⟨_, rfl⟩
  rw [← hg1] at b1
  obtain ⟨A0, c0, rfl, hlc, hc63, -, hcl⟩ := h1.row.form
  obtain ⟨b, rfl, hbb, hbl, -⟩ := hcl i hi
  have hbF : F b := h1.mine b rfl
  have hbw : b < w.heap.size := h.low b hbF
  obtain ⟨f, t, k, U, V, zs, d, hx⟩ : ∃ f t k U V zs d, X[i] = ⟨f, t, k, U, V, zs, d⟩ := ⟨_, _, _, _, _, _, _, rfl⟩
  rw [hx] at HA ⊢
  simp only at HA ⊢
  obtain ⟨N, hN⟩ : ∃ N, N = X.length := ⟨_, rfl⟩
  have hm := h1.most
  rw [← hN] at hi hlc hm h1
  obtain ⟨j, hj⟩ : ∃ j, j = i + 1 := ⟨_, rfl⟩
  have hji : (i : Int) + 1 = (j : Int) := by omega
  have HJ := hide hj
  have HN := hide hN
  have HW := hide hw1
  have HG := hide hg1
  have KA := hide ka
  have B1 := hide b1
  have H1 := hide h1
  have HH := hide h
  have KA0 := hide ka
  clear h hw1 hg1 ka b1 h1 hcl hx hN hj
  go_enter Try.func26, Try.ntmps26
  go_wp2_with fail
  rw [← HW.out, ← HG.out]
  refine HA.out.mono ?_
  rintro e w2 ⟨r, rfl, fr, k2⟩
  have HZ12 := hide k2.size
  obtain ⟨A, c, D, cp, rfl, o1, o2⟩ := fr
  have ka3 := below_alloc w2 (.cells #[.int .i64 f, .int .i64 t, .int .i64 k, .slice A zs.length c, .slice D d.length cp] 45)
  have h2 := H1.out.below (k2.trans (ka3.mono k2.size))
  have q0 : w2.cell? ⟨g, 0, none⟩ = some (.slice (some ⟨b, 0, none⟩) N c0) := (H1.out.below k2).cells.cell 0
  have hgl : g < w2.heap.size := (H1.out.below k2).cells.lt
  go_wp2_with fail
  have b3 := (B1.out.keep k2).keep ka3
  have b6 := Blk.new (B := 0) w2 45 #[.int .i64 f, .int .i64 t, .int .i64 k, .slice A zs.length c, .slice D d.length cp] (Nat.zero_le _)
  obtain ⟨g6, hg6⟩ : ∃ g6, g6 = w2.heap.size := ⟨_, rfl⟩
  obtain ⟨w3, hw3⟩ : ∃ w3, w3 = w2.alloc (.cells #[.int .i64 f, .int .i64 t, .int .i64 k, .slice A zs.length c, .slice D d.length cp] 45) := ⟨_, rfl⟩
  rw [← hg6] at b6
  rw [← hw3] at h2 b3 b6 ka3
  rw [← hg6, ← hw3]
  have hq : IntKind.i64.wrap (j : Int) = (j : Int) := by rw [IntKind.wrap_i64]; omega
  have hr2 := h2.row
  rw [HN.out] at hr2
  have T1 := hide (hr2.take h2.each i (by rw [← HN.out]; omega))
  have D1 := hide (hr2.drop h2.each (i + 1) (by rw [← HN.out]; omega) _ (.inr ⟨b, rfl, rfl⟩))
  rw [← HN.out, ← HJ.out] at D1
  have H2 := hide h2
  have B3 := hide b3
  have B6 := hide b6
  have HG6 := hide hg6
  have HW3 := hide hw3
  clear h2 b3 b6 hr2 hg6 hw3
  have x0 : w3.cell? ⟨g, 0, none⟩ = some (.slice (some ⟨b, 0, none⟩) N c0) := H2.out.cells.cell 0
  have f0 := H2.out.cells.frozen 0
  have gl3 : g < w3.heap.size := H2.out.low g H2.out.own
  have KA := below_alloc w3 (.cells #[] 45)
  have lt1 : (X.take i).length ≤ 4096 := by rw [List.length_take]; omega
  have lt2 : (X.take i).length + (X.drop j).length ≤ 1073741824 := by rw [List.length_take, List.length_drop, ← HN.out]; omega
  clear q0
  have hz13 : w1.heap.size ≤ w2.heap.size := k2.size
  have hz23 : w2.heap.size < w3.heap.size := by rw [← HG6.out]; exact B6.out.lt
  have kw3 := KA0.out.trans ((k2.trans (ka3.mono k2.size)).mono KA0.out.size)
  have u1 := ownsRow_keep o1 ka3
  have u2 := ownsRow_keep o2 ka3
  have hg1w := HG.out
  have he1 : w1.heap.size = w.heap.size + 1 := by rw [HW.out]; simp
  have gw := HH.out.low g HH.out.own
  have hg6 := HG6.out
  have fin : ∀ v5 w5, OwnM w5 w3.heap.size v5 (X.take i ++ X.drop j) → Below w3.heap.size w3 w5 → ∃ F', NShell RN (w5.setCell ⟨g, 0, none⟩ v5) F' g v5 (X.take i ++ X.drop (i + 1)) ∧ Next F w F' (w5.setCell ⟨g, 0, none⟩ v5) ∧ Blk (w5.setCell ⟨g, 0, none⟩ v5) 0 45 g1 zeroArr.toList ∧ (∀ k, F' k → F k ∨ w3.heap.size ≤ k) ∧ FreshO (w5.setCell ⟨g, 0, none⟩ v5) w1.heap.size F' (.agg #[.int .i64 f, .int .i64 t, .int .i64 k, .slice A zs.length c, .slice D d.length cp]) (f, t, k, zs, d) ∧ Blk w5 0 45 g1 zeroArr.toList ∧ Blk w5 0 45 g6 [.int .i64 f, .int .i64 t, .int .i64 k, .slice A zs.length c, .slice D d.length cp] := by
    intro v5 w5 o5 k5
    rw [HJ.out] at o5
    have gs := grown_set w5 g 0 v5
    have kw5 := kw3.trans (k5.mono kw3.size)
    have h5 := HH.out.below kw5
    have hs5 : (w5.setCell ⟨g, 0, none⟩ v5).heap.size = w5.heap.size := by simp
    have b1 := B3.out.keep k5
    have b6 := B6.out.keep k5
    have offF : ∀ q, w1.heap.size ≤ q ∧ q < w3.heap.size → ¬ (F q ∨ (w3.heap.size ≤ q ∧ q < w5.heap.size)) := by
      intro q hq hf
      rcases hf with hf | hf
      · have := HH.out.low q hf
        omega
      · omega
    refine ⟨fun q => F q ∨ (w3.heap.size ≤ q ∧ q < w5.heap.size), ?_, ⟨?_, fun q hq => ?_⟩, b1.kept gs (by intro e; have e : g = g1 := Option.some.inj e; omega), fun q hq => hq.imp id (fun z => z.1), ⟨A, c, D, cp, rfl, ownsRow_keep u1 k5 |> fun z => World.ownsRow.kept z gs (.inr (fun e => by have := (World.ownsRow.lt u1 g e).1; omega)), ownsRow_keep u2 k5 |> fun z => World.ownsRow.kept z gs (.inr (fun e => by have := (World.ownsRow.lt u2 g e).1; omega)), fun q hq => offF q (World.ownsRow.lt u1 q hq), fun q hq => offF q (World.ownsRow.lt u2 q hq)⟩, b1, b6⟩
    · refine h5.newrow (by decide) (by decide) (by decide) (ownsRow_more o5 (Nat.zero_le _)) (fun q hq => .inl hq) (fun q hq => .inr (World.ownsRow.lt o5 q hq)) (fun q hq => ?_) (fun q hq => (h5.each q (mem_cut q hq)).more (fun z hz => .inl hz)) (cut_le (by rw [← HN.out]; exact hm))
      rcases hq with hq | hq
      · exact h5.low q hq
      · exact hq.2
    · refine (Turn.of_below F kw5).trans ((Turn.of_grown gs).mono (fun q hq => ?_))
      have hq : q = g := Option.some.inj hq
      rw [hq]; exact HH.out.own
    · rcases hq with hq | hq
      · exact .inl hq
      · exact .inr (by omega)
  have FIN := hide fin
  have n2 : ¬ g = g6 := by omega
  have n3 : ¬ g = g1 := by omega
  have n4 : ¬ g1 = g6 := by omega
  have n5 : ¬ g6 = g1 := by omega
  have N4 := hide (show g1 = w.heap.size from hg1w)
  have E1 := hide he1
  clear fin o1 o2 u1 u2 hz13 hz23 kw3 hg1w he1 gw hg6 k2 ka3
  by_cases hci : c0 = j
  · subst hci
    rw [if_pos rfl, Nat.sub_self, show N - c0 = 0 by omega] at D1
    have hc0' : (c0 : Int) ≤ (N : Int) := by omega
    have hjc : i ≤ c0 := by omega
    have hj0 : 0 ≤ (c0 : Int) := by omega
    have hj1 : (c0 : Int) ≤ (N : Int) := by omega
    have hi1 : (i : Int) ≤ (c0 : Int) := by omega
    have hi0 : 0 ≤ (i : Int) := by omega
    go_wp2_with fail
    go_region_law (first
      | (refine step_append_msgs rfl (.tmp 16) (.tmp 22) rfl w3.heap.size (.slice (some ⟨w3.heap.size, 0, none⟩) 0 0) [] rfl (own_emptyM w3 _ w3.heap.size _ (Nat.le_refl _) rfl rfl) _ (X.take i) rfl (T1.out.below ⟨KA.os, KA.tape, KA.output, KA.size, KA.block⟩) (by rw [List.length_nil]; omega) KA.size ?_; intro v4 w4 o4 g4 _; rw [List.nil_append] at o4; have K4 : Below w3.heap.size w3 w4 := (Below.grown (by exact ⟨KA.os, KA.tape, KA.output, KA.size, KA.block⟩) g4 KA.size (by intro k e; have e : w3.heap.size = k := (by exact Option.some.inj e); omega)); clear g4; have q4 : w4.cell? ⟨g, 0, none⟩ = some (.slice (some ⟨b, 0, none⟩) N c0) := (by rw [← x0]; exact K4.cell gl3); have f4 : w4.frozen? ⟨g, 0, none⟩ = false := (by rw [← f0]; exact K4.frozen gl3))
      | (refine step_append_msgs rfl (.tmp 23) (.tmp 30) rfl w3.heap.size v4 (X.take i) rfl o4 _ (X.drop c0) rfl (D1.out.below ⟨K4.os, K4.tape, K4.output, K4.size, K4.block⟩) lt2 K4.size ?_; intro v5 w5 o5 g5 _; have K5 : Below w3.heap.size w3 w5 := (Below.grown (by exact ⟨K4.os, K4.tape, K4.output, K4.size, K4.block⟩) g5 K4.size (fun k e => (World.ownsRow.lt o4 k e).1)); clear g5; have HF := hide (FIN.out v5 w5 o5 K5); obtain ⟨A5, n5', c5, rfl⟩ := o5.shape; have q5 : w5.cell? ⟨g, 0, none⟩ = some (.slice (some ⟨b, 0, none⟩) N c0) := (by rw [← x0]; exact K5.cell gl3); have f5 : w5.frozen? ⟨g, 0, none⟩ = false := (by rw [← f0]; exact K5.frozen gl3); clear o5 K5))
    all_goals
      obtain ⟨F', s7, x7, b7, l7, f7, b1', b6'⟩ := HF.out
      have r0 : w5.cell? ⟨g6, 0, none⟩ = some (.int .i64 f) := b6'.cell 0
      have r1 : w5.cell? ⟨g6, 1, none⟩ = some (.int .i64 t) := b6'.cell 1
      have r2 : w5.cell? ⟨g6, 2, none⟩ = some (.int .i64 k) := b6'.cell 2
      have r3 : w5.cell? ⟨g6, 3, none⟩ = some (.slice A zs.length c) := b6'.cell 3
      have r4 : w5.cell? ⟨g6, 4, none⟩ = some (.slice D d.length cp) := b6'.cell 4
      have z0 : w5.cell? ⟨g1, 0, none⟩ = some (.int .i64 0) := b1'.cell 0
      have z1 : w5.cell? ⟨g1, 1, none⟩ = some (.int .i64 0) := b1'.cell 1
      have z2 : w5.cell? ⟨g1, 2, none⟩ = some (.int .i64 0) := b1'.cell 2
      have z3 : w5.cell? ⟨g1, 3, none⟩ = some (.slice none 0 0) := b1'.cell 3
      have z4 : w5.cell? ⟨g1, 4, none⟩ = some (.slice none 0 0) := b1'.cell 4
      have p0 := b1'.frozen 0
      have p1 := b1'.frozen 1
      have p2 := b1'.frozen 2
      have p3 := b1'.frozen 3
      have p4 := b1'.frozen 4
      have hlow3 := HH.out.low
      have hz3 : w1.heap.size ≤ w3.heap.size := by have := H2.out.low g H2.out.own; have := HG6.out; have := B6.out.lt; have := HZ12.out; omega
      have HH7 := hide (And.intro s7 (And.intro x7 (And.intro b7 (And.intro l7 f7))))
      clear s7 x7 b7 l7 f7 b1' b6' HF
      go_wp2_with fail
      obtain ⟨s7, x7, b7, l7, f7⟩ := HH7.out
      obtain ⟨W7, hW7⟩ : ∃ W7, W7 = w5.setCell ⟨g, 0, none⟩ (.slice A5 n5' c5) := ⟨_, rfl⟩
      rw [← hW7] at s7 x7 f7 b7 ⊢
      obtain ⟨W8, hW8⟩ : ∃ W8, W8 = setMsg W7 g1 f t k (.slice A zs.length c) (.slice D d.length cp) := ⟨_, rfl⟩
      have b9 := setMsg_blk b7 rfl f t k (.slice A zs.length c) (.slice D d.length cp)
      have gr9 := setMsg_grown W7 g1 f t k (.slice A zs.length c) (.slice D d.length cp)
      rw [← hW8] at b9 gr9
      unfold setMsg at hW8
      rw [← hW8]
      have hge := N4.out
      have he1 := E1.out
      have t9 : Turn (fun k => k = g1) W7 W8 := (Turn.of_grown gr9).mono (fun k hk => (Option.some.inj hk))
      have f9 := (f7.set gr9 (by omega)).more (show w.heap.size ≤ w1.heap.size by omega)
      have ng1 : ∀ k, F' k → ¬ k = g1 := fun k hk e => by
        rcases l7 k hk with h | h
        · have := hlow3 k h
          omega
        · omega
      have s9 := s7.turn t9 ng1
      have x9 : Next F w F' W8 := ⟨x7.turn.then t9 (fun k e => .inr (by omega)), x7.foot⟩
      obtain ⟨q0, q1, q2, q3, q4⟩ := b9.msgAt
      refine bodyPost_ret (v := .tuple #[.agg #[.int .i64 f, .int .i64 t, .int .i64 k, .slice A zs.length c, .slice D d.length cp], .bool true]) (by simp [results, Try.results26, go_sem, q0, q1, q2, q3, q4]) rfl ⟨_, rfl, F', _, s9, x9, f9⟩
  · rw [if_neg hci] at D1
    have hjc : i ≤ c0 := by omega
    have hj0 : 0 ≤ (j : Int) := by omega
    have hj1 : (j : Int) ≤ (N : Int) := by omega
    have hi1 : (i : Int) ≤ (c0 : Int) := by omega
    have hi0 : 0 ≤ (i : Int) := by omega
    go_wp2_with fail
    go_region_law (first
      | (refine step_append_msgs rfl (.tmp 16) (.tmp 22) rfl w3.heap.size (.slice (some ⟨w3.heap.size, 0, none⟩) 0 0) [] rfl (own_emptyM w3 _ w3.heap.size _ (Nat.le_refl _) rfl rfl) _ (X.take i) rfl (T1.out.below ⟨KA.os, KA.tape, KA.output, KA.size, KA.block⟩) (by rw [List.length_nil]; omega) KA.size ?_; intro v4 w4 o4 g4 _; rw [List.nil_append] at o4; have K4 : Below w3.heap.size w3 w4 := (Below.grown (by exact ⟨KA.os, KA.tape, KA.output, KA.size, KA.block⟩) g4 KA.size (by intro k e; have e : w3.heap.size = k := (by exact Option.some.inj e); omega)); clear g4; have q4 : w4.cell? ⟨g, 0, none⟩ = some (.slice (some ⟨b, 0, none⟩) N c0) := (by rw [← x0]; exact K4.cell gl3); have f4 : w4.frozen? ⟨g, 0, none⟩ = false := (by rw [← f0]; exact K4.frozen gl3))
      | (refine step_append_msgs rfl (.tmp 23) (.tmp 30) rfl w3.heap.size v4 (X.take i) rfl o4 _ (X.drop j) rfl (D1.out.below ⟨K4.os, K4.tape, K4.output, K4.size, K4.block⟩) lt2 K4.size ?_; intro v5 w5 o5 g5 _; have K5 : Below w3.heap.size w3 w5 := (Below.grown (by exact ⟨K4.os, K4.tape, K4.output, K4.size, K4.block⟩) g5 K4.size (fun k e => (World.ownsRow.lt o4 k e).1)); clear g5; have HF := hide (FIN.out v5 w5 o5 K5); obtain ⟨A5, n5', c5, rfl⟩ := o5.shape; have q5 : w5.cell? ⟨g, 0, none⟩ = some (.slice (some ⟨b, 0, none⟩) N c0) := (by rw [← x0]; exact K5.cell gl3); have f5 : w5.frozen? ⟨g, 0, none⟩ = false := (by rw [← f0]; exact K5.frozen gl3); clear o5 K5))
    all_goals
      obtain ⟨F', s7, x7, b7, l7, f7, b1', b6'⟩ := HF.out
      have r0 : w5.cell? ⟨g6, 0, none⟩ = some (.int .i64 f) := b6'.cell 0
      have r1 : w5.cell? ⟨g6, 1, none⟩ = some (.int .i64 t) := b6'.cell 1
      have r2 : w5.cell? ⟨g6, 2, none⟩ = some (.int .i64 k) := b6'.cell 2
      have r3 : w5.cell? ⟨g6, 3, none⟩ = some (.slice A zs.length c) := b6'.cell 3
      have r4 : w5.cell? ⟨g6, 4, none⟩ = some (.slice D d.length cp) := b6'.cell 4
      have z0 : w5.cell? ⟨g1, 0, none⟩ = some (.int .i64 0) := b1'.cell 0
      have z1 : w5.cell? ⟨g1, 1, none⟩ = some (.int .i64 0) := b1'.cell 1
      have z2 : w5.cell? ⟨g1, 2, none⟩ = some (.int .i64 0) := b1'.cell 2
      have z3 : w5.cell? ⟨g1, 3, none⟩ = some (.slice none 0 0) := b1'.cell 3
      have z4 : w5.cell? ⟨g1, 4, none⟩ = some (.slice none 0 0) := b1'.cell 4
      have p0 := b1'.frozen 0
      have p1 := b1'.frozen 1
      have p2 := b1'.frozen 2
      have p3 := b1'.frozen 3
      have p4 := b1'.frozen 4
      have hlow3 := HH.out.low
      have hz3 : w1.heap.size ≤ w3.heap.size := by have := H2.out.low g H2.out.own; have := HG6.out; have := B6.out.lt; have := HZ12.out; omega
      have HH7 := hide (And.intro s7 (And.intro x7 (And.intro b7 (And.intro l7 f7))))
      clear s7 x7 b7 l7 f7 b1' b6' HF
      go_wp2_with fail
      obtain ⟨s7, x7, b7, l7, f7⟩ := HH7.out
      obtain ⟨W7, hW7⟩ : ∃ W7, W7 = w5.setCell ⟨g, 0, none⟩ (.slice A5 n5' c5) := ⟨_, rfl⟩
      rw [← hW7] at s7 x7 f7 b7 ⊢
      obtain ⟨W8, hW8⟩ : ∃ W8, W8 = setMsg W7 g1 f t k (.slice A zs.length c) (.slice D d.length cp) := ⟨_, rfl⟩
      have b9 := setMsg_blk b7 rfl f t k (.slice A zs.length c) (.slice D d.length cp)
      have gr9 := setMsg_grown W7 g1 f t k (.slice A zs.length c) (.slice D d.length cp)
      rw [← hW8] at b9 gr9
      unfold setMsg at hW8
      rw [← hW8]
      have hge := N4.out
      have he1 := E1.out
      have t9 : Turn (fun k => k = g1) W7 W8 := (Turn.of_grown gr9).mono (fun k hk => (Option.some.inj hk))
      have f9 := (f7.set gr9 (by omega)).more (show w.heap.size ≤ w1.heap.size by omega)
      have ng1 : ∀ k, F' k → ¬ k = g1 := fun k hk e => by
        rcases l7 k hk with h | h
        · have := hlow3 k h
          omega
        · omega
      have s9 := s7.turn t9 ng1
      have x9 : Next F w F' W8 := ⟨x7.turn.then t9 (fun k e => .inr (by omega)), x7.foot⟩
      obtain ⟨q0, q1, q2, q3, q4⟩ := b9.msgAt
      refine bodyPost_ret (v := .tuple #[.agg #[.int .i64 f, .int .i64 t, .int .i64 k, .slice A zs.length c, .slice D d.length cp], .bool true]) (by simp [results, Try.results26, go_sem, q0, q1, q2, q3, q4]) rfl ⟨_, rfl, F', _, s9, x9, f9⟩
end Go.Proofs.Ytdhamhaadclhkaa
