/- The contract of the document's Text: a file id as text, or ErrArg. No conditions but the widths. -/
import Derived.Test.YtdchgjniepdhfaaFdText
import Derived.Test.YtdchgjniepdhfaaFdRef
namespace Go.Proofs.Ytdchgjniepdhfaa
open Go.RowKit
set_option maxHeartbeats 1600000 in
theorem rtext_bad (v : Int) (k c : Nat) (w : World) (h : v < 1 ∨ 99999999 < v ∨ k = 0) :
    Calls Try.prog 8 #[fdV v k c] w fun e w' => e = .returned (.tuple #[.string ⟨#[]⟩, .int .i64 1]) ∧ Below w.heap.size w w' := by
  unfold fdV
  rcases h with h | h | h
  · go_enter Try.func8, Try.ntmps8
    go_wp2_with fail
    go_ret2
    exact ⟨rfl, below_alloc w _⟩
  · have h1 : ¬ v < 1 := by omega
    go_enter Try.func8, Try.ntmps8
    go_wp2_with fail
    go_ret2
    exact ⟨rfl, below_alloc w _⟩
  · by_cases h1 : v < 1
    · go_enter Try.func8, Try.ntmps8
      go_wp2_with fail
      go_ret2
      exact ⟨rfl, below_alloc w _⟩
    · subst h
      by_cases h2 : 99999999 < v
      · go_enter Try.func8, Try.ntmps8
        go_wp2_with fail
        go_ret2
        exact ⟨rfl, below_alloc w _⟩
      · go_enter Try.func8, Try.ntmps8
        go_wp2_with fail
        go_ret2
        exact ⟨rfl, below_alloc w _⟩
set_option maxRecDepth 100000 in
set_option maxHeartbeats 3200000 in
set_option linter.unusedVariables false in
theorem rtext_ok (f : Fd) (w : World) (h : FdOk f) :
    Calls Try.prog 8 #[fdV (f.v : Int) f.k f.c] w fun e w' => e = .returned (.tuple #[.string (mkS (textL f)), .int .i64 0]) ∧ Below w.heap.size w w' := by
  obtain ⟨v, k, c⟩ := f
  obtain ⟨g1, g2, g3, g4, g5⟩ := h
  simp only at g1 g2 g3 g4 g5
  have hv1 : ¬ (v : Int) < 1 := by omega
  have hv2 : ¬ (99999999 : Int) < (v : Int) := by omega
  have hk : ((k : Int) == 0) = false := by rw [beq_eq_false_iff_ne]; omega
  obtain ⟨a, ha⟩ : ∃ a, a = mkS (vL v) := ⟨_, rfl⟩
  obtain ⟨b, hb⟩ : ∃ b, b = mkS (kL k) := ⟨_, rfl⟩
  obtain ⟨d, hd⟩ : ∃ d, d = mkS (cL c) := ⟨_, rfl⟩
  have hend : ((((a ++ ⟨#[44]⟩) ++ b) ++ ⟨#[44]⟩) ++ d) = mkS (textL ⟨v, k, c⟩) := by
    have e : (⟨#[44]⟩ : ByteArray) = mkS [44] := rfl
    rw [ha, hb, hd, e, mkS_app, mkS_app, mkS_app, mkS_app]
    unfold textL
    simp
  have za : a.size ≤ 8 := by rw [ha, mkS_size]; exact (nd_v g1 g2).2
  have zb : b.size ≤ 16 := by rw [hb, mkS_size]; exact (nd_k g3 g4).2
  have zd : d.size = 8 := by rw [hd, mkS_size]; exact fixd_len ..
  have HV := hide (fun W => by have := rdec_any v W g1 g2; rw [← ha] at this; exact this)
  have HK := hide (fun W => by
    have := rhex_any k 1 (ndF 16 16 k) W g4 (ndF_le 16 16 k) (ndF_ge 16 (by omega) 16 k (by omega) (by omega)).1 (ndF_lt 16 (by omega) 16 k (by omega)) (.inr (ndF_ge 16 (by omega) 16 k (by omega) (by omega)).2)
    rw [show fixd 16 (ndF 16 16 k) k = kL k from rfl, ← hb, show ((1 : Nat) : Int) = 1 from rfl] at this
    exact this)
  have HC := hide (fun W => by
    have := rhex_any c 8 8 W (by omega) (by omega) (by omega) (by omega) (.inl rfl)
    rw [show fixd 16 8 c = cL c from rfl, ← hd, show ((8 : Nat) : Int) = 8 from rfl] at this
    exact this)
  have hcw : IntKind.u64.wrap (c : Int) = (c : Int) := by rw [IntKind.wrap_u64]; omega
  have HE := hide hend
  have ZB := hide zb
  clear hend ha hb hd g1 g2 g3 g4 g5 zb
  unfold fdV
  go_enter Try.func8, Try.ntmps8
  go_wp2_with fail
  have ka := below_alloc w (.cells #[.int .i64 (v : Int), .int .u64 (k : Int), .int .u32 (c : Int)] 25)
  have b0 : Blk (w.alloc (.cells #[.int .i64 (v : Int), .int .u64 (k : Int), .int .u32 (c : Int)] 25)) 0 25 w.heap.size [.int .i64 (v : Int), .int .u64 (k : Int), .int .u32 (c : Int)] := Blk.new w 25 #[.int .i64 (v : Int), .int .u64 (k : Int), .int .u32 (c : Int)] (Nat.zero_le _)
  obtain ⟨g, hg⟩ : ∃ g, g = w.heap.size := ⟨_, rfl⟩
  rw [← hg] at b0 ⊢
  obtain ⟨W, hW⟩ : ∃ W, W = w.alloc (.cells #[.int .i64 (v : Int), .int .u64 (k : Int), .int .u32 (c : Int)] 25) := ⟨_, rfl⟩
  rw [← hW] at ka b0 ⊢
  have KA := hide ka
  have x0 : W.drew.cell? ⟨g, 0, none⟩ = some (.int .i64 (v : Int)) := b0.cell 0
  have x1 : W.drew.cell? ⟨g, 1, none⟩ = some (.int .u64 (k : Int)) := b0.cell 1
  have x2 : W.drew.cell? ⟨g, 2, none⟩ = some (.int .u32 (c : Int)) := b0.cell 2
  have hgl : g < W.heap.size := b0.lt
  have GL := hide hgl
  have K0 := hide (below_drewN (Below.refl W.heap.size W) 1)
  clear ka b0 hg hW hgl hk hv1 hv2
  have zb := ZB.out
  obtain ⟨t1, e1⟩ : ∃ t1, a ++ ⟨#[44]⟩ = t1 := ⟨_, rfl⟩
  obtain ⟨t2, e2⟩ : ∃ t2, t1 ++ b = t2 := ⟨_, rfl⟩
  obtain ⟨t3, e3⟩ : ∃ t3, t2 ++ ⟨#[44]⟩ = t3 := ⟨_, rfl⟩
  obtain ⟨t4, e4⟩ : ∃ t4, t3 ++ d = t4 := ⟨_, rfl⟩
  have h44 : (⟨#[44]⟩ : ByteArray).size = 1 := rfl
  have s1 : t1.size = a.size + 1 := by rw [← e1, ByteArray.size_append]; rfl
  have s2 : t2.size = a.size + 1 + b.size := by rw [← e2, ByteArray.size_append, s1]
  have s3 : t3.size = a.size + 1 + b.size + 1 := by rw [← e3, ByteArray.size_append, s2]; rfl
  have n1 : (9223372036854775807 < a.size + 1) = False := by simp only [eq_iff_iff, iff_false]; omega
  have n2 : (9223372036854775807 < t1.size + b.size) = False := by simp only [eq_iff_iff, iff_false]; omega
  have n3 : (9223372036854775807 < t2.size + 1) = False := by simp only [eq_iff_iff, iff_false]; omega
  have n4 : (9223372036854775807 < t3.size + 8) = False := by simp only [eq_iff_iff, iff_false]; omega
  have HE4 : Hid (t4 = mkS (textL ⟨v, k, c⟩)) := by
    unfold Hid
    rw [← HE.out, ← e4, ← e3, ← e2, ← e1]
  clear s1 s2 s3 za zb
  refine heldT_top (fun W' => W'.cell? ⟨g, 0, none⟩ = some (.int .i64 (v : Int)) ∧ W'.cell? ⟨g, 1, none⟩ = some (.int .u64 (k : Int)) ∧ W'.cell? ⟨g, 2, none⟩ = some (.int .u32 (c : Int))) 16 #[false, false, false, false, false, false, false, false, false, false, false, false, false, false, false, false] (by kernel_rfl) (by kernel_rfl) (by kernel_rfl) ?_
  have hHeld : (fun W' => W'.cell? ⟨g, 0, none⟩ = some (.int .i64 (v : Int)) ∧ W'.cell? ⟨g, 1, none⟩ = some (.int .u64 (k : Int)) ∧ W'.cell? ⟨g, 2, none⟩ = some (.int .u32 (c : Int))) W.drew := ⟨x0, x1, x2⟩
  refine' wpAnyH_take (i := 0) (oi := ⟨_, _, _, _, _, _⟩) (v := _) rfl (by kernel_rfl) (by kernel_rfl) (by kernel_rfl) (fun _ _ _ h => h) (Or.inl ⟨rfl, ?_⟩) hHeld ?_
  rotate_left
  · (intro W' hW; (try dsimp only at hW); go_simp; (try with_reducible rfl))
  try simp only [Act.put, List.setIfInBounds_toArray, List.set_cons_zero, List.set_cons_succ]
  refine' wpAnyH_take (i := 1) (oi := ⟨_, _, _, _, _, _⟩) (v := _) rfl (by kernel_rfl) (by kernel_rfl) (by kernel_rfl) (fun _ _ _ h => h) (Or.inl ⟨rfl, ?_⟩) hHeld ?_
  rotate_left
  · (intro W' hW; (try dsimp only at hW); obtain ⟨z0, z1, z2⟩ := hW; go_simp; (try with_reducible rfl))
  try simp only [Act.put, List.setIfInBounds_toArray, List.set_cons_zero, List.set_cons_succ]
  refine' wpAnyH_take (i := 4) (oi := ⟨_, _, _, _, _, _⟩) (v := _) rfl (by kernel_rfl) (by kernel_rfl) (by kernel_rfl) (fun _ _ _ h => h) (Or.inl ⟨rfl, ?_⟩) hHeld ?_
  rotate_left
  · (intro W' hW; (try dsimp only at hW); go_simp; (try with_reducible rfl))
  try simp only [Act.put, List.setIfInBounds_toArray, List.set_cons_zero, List.set_cons_succ]
  refine' wpAnyH_take (i := 5) (oi := ⟨_, _, _, _, _, _⟩) (v := _) rfl (by kernel_rfl) (by kernel_rfl) (by kernel_rfl) (fun _ _ _ h => h) (Or.inl ⟨rfl, ?_⟩) hHeld ?_
  rotate_left
  · (intro W' hW; (try dsimp only at hW); obtain ⟨z0, z1, z2⟩ := hW; go_simp; (try with_reducible rfl))
  try simp only [Act.put, List.setIfInBounds_toArray, List.set_cons_zero, List.set_cons_succ]
  refine' wpAnyH_take (i := 9) (oi := ⟨_, _, _, _, _, _⟩) (v := _) rfl (by kernel_rfl) (by kernel_rfl) (by kernel_rfl) (fun _ _ _ h => h) (Or.inl ⟨rfl, ?_⟩) hHeld ?_
  rotate_left
  · (intro W' hW; (try dsimp only at hW); go_simp; (try with_reducible rfl))
  try simp only [Act.put, List.setIfInBounds_toArray, List.set_cons_zero, List.set_cons_succ]
  refine' wpAnyH_take (i := 10) (oi := ⟨_, _, _, _, _, _⟩) (v := _) rfl (by kernel_rfl) (by kernel_rfl) (by kernel_rfl) (fun _ _ _ h => h) (Or.inl ⟨rfl, ?_⟩) hHeld ?_
  rotate_left
  · (intro W' hW; (try dsimp only at hW); obtain ⟨z0, z1, z2⟩ := hW; go_simp; (try with_reducible rfl))
  try simp only [Act.put, List.setIfInBounds_toArray, List.set_cons_zero, List.set_cons_succ]
  refine' wpAnyH_take (i := 11) (oi := ⟨_, _, _, _, _, _⟩) (v := _) rfl (by kernel_rfl) (by kernel_rfl) (by kernel_rfl) (fun _ _ _ h => h) (Or.inl ⟨rfl, ?_⟩) hHeld ?_
  rotate_left
  · (intro W' hW; (try dsimp only at hW); go_simp; (try with_reducible rfl))
  try simp only [Act.put, List.setIfInBounds_toArray, List.set_cons_zero, List.set_cons_succ]
  clear hHeld
  refine heldT_one (i := 2) (by kernel_rfl) rfl (fun K hK => ?_)
  go_simp
  go_at_call 16
  refine (HV.out _).mono ?_
  rintro e w5 ⟨rfl, k5⟩
  have y00 := (k5.cell (cell_lt x0)).trans x0
  have y01 := (k5.cell (cell_lt x1)).trans x1
  have y02 := (k5.cell (cell_lt x2)).trans x2
  have K1 := hide (show Below W.heap.size W w5 from K0.out.trans (below_low K0.out.size ⟨k5.os, k5.tape, k5.output, k5.size, k5.block⟩))
  clear k5 x0 x1 x2
  have hHeld : (fun W' => W'.cell? ⟨g, 0, none⟩ = some (.int .i64 (v : Int)) ∧ W'.cell? ⟨g, 1, none⟩ = some (.int .u64 (k : Int)) ∧ W'.cell? ⟨g, 2, none⟩ = some (.int .u32 (c : Int))) w5 := ⟨y00, y01, y02⟩
  refine hK.out _ _ hHeld ?_
  clear hK
  try simp only [List.setIfInBounds_toArray, List.set_cons_zero, List.set_cons_succ]
  refine' wpAnyH_take (i := 3) (oi := ⟨_, _, _, _, _, _⟩) (v := _) rfl (by kernel_rfl) (by kernel_rfl) (by kernel_rfl) (fun _ _ _ h => h) (Or.inl ⟨rfl, ?_⟩) hHeld ?_
  rotate_left
  · (intro W' hW; (try dsimp only at hW); go_simp; (try with_reducible rfl))
  try simp only [Act.put, List.setIfInBounds_toArray, List.set_cons_zero, List.set_cons_succ]
  clear hHeld
  refine heldT_one (i := 6) (by kernel_rfl) rfl (fun K hK => ?_)
  go_simp
  go_at_call 17
  refine (HK.out _).mono ?_
  rintro e w6 ⟨rfl, k6⟩
  have y10 := (k6.cell (cell_lt y00)).trans y00
  have y11 := (k6.cell (cell_lt y01)).trans y01
  have y12 := (k6.cell (cell_lt y02)).trans y02
  have K2 := hide (show Below W.heap.size W w6 from K1.out.trans (below_low K1.out.size ⟨k6.os, k6.tape, k6.output, k6.size, k6.block⟩))
  clear k6 y00 y01 y02
  have hHeld : (fun W' => W'.cell? ⟨g, 0, none⟩ = some (.int .i64 (v : Int)) ∧ W'.cell? ⟨g, 1, none⟩ = some (.int .u64 (k : Int)) ∧ W'.cell? ⟨g, 2, none⟩ = some (.int .u32 (c : Int))) w6 := ⟨y10, y11, y12⟩
  refine hK.out _ _ hHeld ?_
  clear hK
  try simp only [List.setIfInBounds_toArray, List.set_cons_zero, List.set_cons_succ]
  refine' wpAnyH_take (i := 7) (oi := ⟨_, _, _, _, _, _⟩) (v := _) rfl (by kernel_rfl) (by kernel_rfl) (by kernel_rfl) (fun _ _ _ h => h) (Or.inl ⟨rfl, ?_⟩) hHeld ?_
  rotate_left
  · (intro W' hW; (try dsimp only at hW); go_simp; (try with_reducible rfl))
  try simp only [Act.put, List.setIfInBounds_toArray, List.set_cons_zero, List.set_cons_succ]
  refine' wpAnyH_take (i := 8) (oi := ⟨_, _, _, _, _, _⟩) (v := _) rfl (by kernel_rfl) (by kernel_rfl) (by kernel_rfl) (fun _ _ _ h => h) (Or.inl ⟨rfl, ?_⟩) hHeld ?_
  rotate_left
  · (intro W' hW; (try dsimp only at hW); go_simp; (try with_reducible rfl))
  try simp only [Act.put, List.setIfInBounds_toArray, List.set_cons_zero, List.set_cons_succ]
  clear hHeld
  refine heldT_one (i := 12) (by kernel_rfl) rfl (fun K hK => ?_)
  go_simp
  go_at_call 17
  refine (HC.out _).mono ?_
  rintro e w7 ⟨rfl, k7⟩
  have y20 := (k7.cell (cell_lt y10)).trans y10
  have y21 := (k7.cell (cell_lt y11)).trans y11
  have y22 := (k7.cell (cell_lt y12)).trans y12
  have K3 := hide (show Below W.heap.size W w7 from K2.out.trans (below_low K2.out.size ⟨k7.os, k7.tape, k7.output, k7.size, k7.block⟩))
  clear k7 y10 y11 y12
  have hHeld : (fun W' => W'.cell? ⟨g, 0, none⟩ = some (.int .i64 (v : Int)) ∧ W'.cell? ⟨g, 1, none⟩ = some (.int .u64 (k : Int)) ∧ W'.cell? ⟨g, 2, none⟩ = some (.int .u32 (c : Int))) w7 := ⟨y20, y21, y22⟩
  refine hK.out _ _ hHeld ?_
  clear hK
  try simp only [List.setIfInBounds_toArray, List.set_cons_zero, List.set_cons_succ]
  refine' wpAnyH_take (i := 13) (oi := ⟨_, _, _, _, _, _⟩) (v := _) rfl (by kernel_rfl) (by kernel_rfl) (by kernel_rfl) (fun _ _ _ h => h) (Or.inl ⟨rfl, ?_⟩) hHeld ?_
  rotate_left
  · (intro W' hW; (try dsimp only at hW); go_simp; (try with_reducible rfl))
  try simp only [Act.put, List.setIfInBounds_toArray, List.set_cons_zero, List.set_cons_succ]
  refine' wpAnyH_take (i := 14) (oi := ⟨_, _, _, _, _, _⟩) (v := _) rfl (by kernel_rfl) (by kernel_rfl) (by kernel_rfl) (fun _ _ _ h => h) (Or.inl ⟨rfl, ?_⟩) hHeld ?_
  rotate_left
  · (intro W' hW; (try dsimp only at hW); go_simp; (try with_reducible rfl))
  try simp only [Act.put, List.setIfInBounds_toArray, List.set_cons_zero, List.set_cons_succ]
  refine' wpAnyH_take (i := 15) (oi := ⟨_, _, _, _, _, _⟩) (v := _) rfl (by kernel_rfl) (by kernel_rfl) (by kernel_rfl) (fun _ _ _ h => h) (Or.inl ⟨rfl, ?_⟩) hHeld ?_
  rotate_left
  · (intro W' hW; (try dsimp only at hW); go_simp; (try with_reducible rfl))
  try simp only [Act.put, List.setIfInBounds_toArray, List.set_cons_zero, List.set_cons_succ]
  clear hHeld
  refine wpAnyH_done (by kernel_rfl) ?_ _
  go_wp2_with fail
  go_ret2
  rw [HE4.out]
  exact ⟨rfl, below_step KA.out K3.out⟩
end Go.Proofs.Ytdchgjniepdhfaa
