/- The contracts of volume's own placeOf and take. No condition but the widths. -/
import Derived.Test.YtehgjkckhjggbaaVr13
import Derived.Test.YtehgjkckhjggbaaVr5
import Derived.Test.YtehgjkckhjggbaaVr3
namespace Go.Proofs.Ytehgjkckhjggbaa
open Go.RowKit Go.Maps
/-- The cells of a place in a block of its own. -/
theorem pl_cells {w : World} {B g : Nat} {k a m c : Value} {d : Value} (h : Blk w B 83 g [k, a, m, c, d]) : w.cell? ⟨g, 0, none⟩ = some k ∧ w.cell? ⟨g, 1, none⟩ = some a ∧ w.cell? ⟨g, 2, none⟩ = some m ∧ w.cell? ⟨g, 3, none⟩ = some c ∧ w.cell? ⟨g, 4, none⟩ = some d :=
  ⟨h.cell 0, h.cell 1, h.cell 2, h.cell 3, h.cell 4⟩
set_option maxRecDepth 100000 in
theorem placeOf_any (k c a m : Nat) (dd : Bool) (A : Option Addr) (n cp : Nat) (w : World) :
    Calls Try.prog 44 #[.agg #[.int .u64 (k : Int), .int .u32 (c : Int), .bool dd, .slice A n cp], .int .i64 (a : Int), .int .i64 (m : Int)] w fun e w' => e = .returned (plV ⟨k, a, m, c, dd⟩) ∧ Below w.heap.size w w' := by
  go_enter Try.func44, Try.ntmps44
  go_wp2_with fail
  have k1 := below_alloc w (.cells #[.int .u64 (k : Int), .int .u32 (c : Int), .bool dd, .slice A n cp] 35)
  obtain ⟨Z1, hZ1⟩ : ∃ Z, Z = w.alloc (.cells #[.int .u64 (k : Int), .int .u32 (c : Int), .bool dd, .slice A n cp] 35) := ⟨_, rfl⟩
  have s1 : Z1.heap.size = w.heap.size + 1 := by rw [hZ1]; simp
  rw [← hZ1] at k1 ⊢
  have k2 := below_alloc Z1 (.cells #[.int .u64 (k : Int), .int .i64 (a : Int), .int .i64 (m : Int), .int .u32 (c : Int), .bool dd] 83)
  have b2 := Blk.new Z1 (B := 0) 83 #[.int .u64 (k : Int), .int .i64 (a : Int), .int .i64 (m : Int), .int .u32 (c : Int), .bool dd] (Nat.zero_le _)
  obtain ⟨q0, q1, q2, q3, q4⟩ := pl_cells b2
  rw [s1] at q0 q1 q2 q3 q4
  obtain ⟨Z2, hZ2⟩ : ∃ Z, Z = Z1.alloc (.cells #[.int .u64 (k : Int), .int .i64 (a : Int), .int .i64 (m : Int), .int .u32 (c : Int), .bool dd] 83) := ⟨_, rfl⟩
  rw [← hZ2] at k2 q0 q1 q2 q3 q4 ⊢
  refine bodyPost_ret (v := plV ⟨k, a, m, c, dd⟩) (by simp [results, Try.results44, go_sem, plV, q0, q1, q2, q3, q4]) rfl ⟨rfl, k1.trans (k2.mono k1.size)⟩
set_option maxRecDepth 100000 in
set_option maxHeartbeats 3200000 in
theorem vtake_any (v d b : Nat) (s : ByteArray) (T : PlL) (p : Pl) (w : World) (h : VolAt w v d b s T) (hp : PlFit p) (hl : T.length < 1099511627776) :
    Calls Try.prog 43 #[.pointer (some ⟨v, 0, none⟩), plV p] w fun e w' => e = .returned (.tuple #[]) ∧ VolAt w' v d b s (takeL p T) ∧ Turn (fun k => k = b) w w' := by
  obtain ⟨pk, pa, pn, pc, pd⟩ := p
  have kb := below_alloc w (.cells #[.int .u64 (pk : Int), .int .i64 (pa : Int), .int .i64 (pn : Int), .int .u32 (pc : Int), .bool pd] 83)
  have bx := Blk.new w (B := 0) 83 #[.int .u64 (pk : Int), .int .i64 (pa : Int), .int .i64 (pn : Int), .int .u32 (pc : Int), .bool pd] (Nat.zero_le _)
  obtain ⟨g0, hg0⟩ : ∃ g, g = w.heap.size := ⟨_, rfl⟩
  have H0 := hide (h.below kb)
  have KB := hide kb
  have HP := hide hp
  have HL := hide hl
  have HW := hide h.low
  clear h kb hp hl
  unfold plV
  dsimp only
  go_enter Try.func43, Try.ntmps43
  go_wp2_with fail
  obtain ⟨W, hW⟩ : ∃ W, W = w.alloc (.cells #[.int .u64 (pk : Int), .int .i64 (pa : Int), .int .i64 (pn : Int), .int .u32 (pc : Int), .bool pd] 83) := ⟨_, rfl⟩
  rw [← hW, ← hg0] at bx
  rw [← hW] at KB H0
  rw [← hW, ← hg0]
  have BX := hide bx
  have HG := hide hg0
  clear hW hg0 bx
  have c2 : W.cell? ⟨v, 2, none⟩ = some (.map (some b)) := H0.out.blk.cell 2
  have ck : W.cell? ⟨g0, 0, none⟩ = some (.int .u64 (pk : Int)) := BX.out.cell 0
  obtain ⟨fp, hfp⟩ : ∃ f, f = foundP (getP pk T) := ⟨_, rfl⟩
  obtain ⟨is, his⟩ : ∃ i, i = (getP pk T).isSome := ⟨_, rfl⟩
  have hlook : ∀ U, Below W.heap.size W U → (Instr.lookup 85 (.map (some b)) (.int .u64 (pk : Int)) true).run Try.prog U = .ok (.tuple #[plV fp, .bool is]) U := fun U k => by
    rw [hfp, his]
    exact look_pl (H0.out.below k).map pk HP.out.key
  obtain ⟨fk, fa, fn, fc, fd⟩ := fp
  unfold plV at hlook
  dsimp only at hlook
  have HK := hide hlook
  have HF := hide (And.intro hfp his)
  clear hlook hfp his
  refine heldT_top (fun W' => W'.cell? ⟨v, 2, none⟩ = some (.map (some b)) ∧ W'.cell? ⟨g0, 0, none⟩ = some (.int .u64 (pk : Int)) ∧ (Instr.lookup 85 (.map (some b)) (.int .u64 (pk : Int)) true).run Try.prog W' = .ok (.tuple #[.agg #[.int .u64 (fk : Int), .int .i64 (fa : Int), .int .i64 (fn : Int), .int .u32 (fc : Int), .bool fd], .bool is]) W') 13 #[false, false, false, false, false, false, false, false, false, false, false, false, false] (by kernel_rfl) (by kernel_rfl) (by kernel_rfl) ?_
  have hHeld : (fun W' => W'.cell? ⟨v, 2, none⟩ = some (.map (some b)) ∧ W'.cell? ⟨g0, 0, none⟩ = some (.int .u64 (pk : Int)) ∧ (Instr.lookup 85 (.map (some b)) (.int .u64 (pk : Int)) true).run Try.prog W' = .ok (.tuple #[.agg #[.int .u64 (fk : Int), .int .i64 (fa : Int), .int .i64 (fn : Int), .int .u32 (fc : Int), .bool fd], .bool is]) W') (W.drewN 1) := ⟨c2, ck, HK.out _ (below_drewN (Below.refl _ _) 1)⟩
  have BX := hide (BX.out.drewN 1)
  have H0 := hide (H0.out.below (below_drewN (Below.refl _ _) 1))
  have K1 : Hid (Below W.heap.size W (W.drewN 1)) := hide (below_drewN (Below.refl _ _) 1)
  clear c2 ck
  change wpAnyH _ _ _ _ _ _ _ _ (W.drewN 1)
  generalize W.drewN 1 = U at *
  refine' wpAnyH_take (i := 0) (oi := ⟨_, _, _, _, _, _⟩) (v := _) rfl (by kernel_rfl) (by kernel_rfl) (by kernel_rfl) (fun _ _ _ h => h) (Or.inl ⟨rfl, ?_⟩) hHeld ?_
  rotate_left
  · (intro W' hW; (try dsimp only at hW); obtain ⟨z2, z3, z4⟩ := hW; go_simp; (try with_reducible rfl))
  try simp only [Act.put, List.setIfInBounds_toArray, List.set_cons_zero, List.set_cons_succ]
  refine' wpAnyH_take (i := 1) (oi := ⟨_, _, _, _, _, _⟩) (v := _) rfl (by kernel_rfl) (by kernel_rfl) (by kernel_rfl) (fun _ _ _ h => h) (Or.inl ⟨rfl, ?_⟩) hHeld ?_
  rotate_left
  · (intro W' hW; (try dsimp only at hW); obtain ⟨z2, z3, z4⟩ := hW; go_simp; (try with_reducible rfl))
  try simp only [Act.put, List.setIfInBounds_toArray, List.set_cons_zero, List.set_cons_succ]
  refine' wpAnyH_take (i := 2) (oi := ⟨_, _, _, _, _, _⟩) (v := _) rfl (by kernel_rfl) (by kernel_rfl) (by kernel_rfl) (fun _ _ _ h => h) (Or.inl ⟨rfl, ?_⟩) hHeld ?_
  rotate_left
  · (intro W' hW; (try dsimp only at hW); obtain ⟨z2, z3, z4⟩ := hW; go_simp; (try with_reducible rfl))
  try simp only [Act.put, List.setIfInBounds_toArray, List.set_cons_zero, List.set_cons_succ]
  refine' wpAnyH_take (i := 3) (oi := ⟨_, _, _, _, _, _⟩) (v := _) rfl (by kernel_rfl) (by kernel_rfl) (by kernel_rfl) (fun _ _ _ h => h) (Or.inl ⟨rfl, ?_⟩) hHeld ?_
  rotate_left
  · (intro W' hW; (try dsimp only at hW); obtain ⟨z2, z3, z4⟩ := hW; go_simp; (try with_reducible rfl))
  try simp only [Act.put, List.setIfInBounds_toArray, List.set_cons_zero, List.set_cons_succ]
  refine' wpAnyH_take (i := 4) (oi := ⟨_, _, _, _, _, _⟩) (v := _) rfl (by kernel_rfl) (by kernel_rfl) (by kernel_rfl) (fun _ _ _ h => h) (Or.inl ⟨rfl, ?_⟩) hHeld ?_
  rotate_left
  · (intro W' hW; (try dsimp only at hW); obtain ⟨z2, z3, z4⟩ := hW; go_simp; (try with_reducible rfl))
  try simp only [Act.put, List.setIfInBounds_toArray, List.set_cons_zero, List.set_cons_succ]
  refine' wpAnyH_take (i := 5) (oi := ⟨_, _, _, _, _, _⟩) (v := _) rfl (by kernel_rfl) (by kernel_rfl) (by kernel_rfl) (fun _ _ _ h => h) (Or.inl ⟨rfl, ?_⟩) hHeld ?_
  rotate_left
  · (intro W' hW; (try dsimp only at hW); obtain ⟨z2, z3, z4⟩ := hW; go_simp; (try with_reducible rfl))
  try simp only [Act.put, List.setIfInBounds_toArray, List.set_cons_zero, List.set_cons_succ]
  refine' wpAnyH_take (i := 6) (oi := ⟨_, _, _, _, _, _⟩) (v := _) rfl (by kernel_rfl) (by kernel_rfl) (by kernel_rfl) (fun _ _ _ h => h) (Or.inl ⟨rfl, ?_⟩) hHeld ?_
  rotate_left
  · (intro W' hW; (try dsimp only at hW); obtain ⟨z2, z3, z4⟩ := hW; go_simp; (try with_reducible rfl))
  try simp only [Act.put, List.setIfInBounds_toArray, List.set_cons_zero, List.set_cons_succ]
  refine' wpAnyH_take (i := 7) (oi := ⟨_, _, _, _, _, _⟩) (v := _) rfl (by kernel_rfl) (by kernel_rfl) (by kernel_rfl) (fun _ _ _ h => h) (Or.inl ⟨rfl, ?_⟩) hHeld ?_
  rotate_left
  · (intro W' hW; (try dsimp only at hW); obtain ⟨z2, z3, z4⟩ := hW; go_simp; (try with_reducible rfl))
  try simp only [Act.put, List.setIfInBounds_toArray, List.set_cons_zero, List.set_cons_succ]
  refine' wpAnyH_take (i := 8) (oi := ⟨_, _, _, _, _, _⟩) (v := _) rfl (by kernel_rfl) (by kernel_rfl) (by kernel_rfl) (fun _ _ _ h => h) (Or.inl ⟨rfl, ?_⟩) hHeld ?_
  rotate_left
  · (intro W' hW; (try dsimp only at hW); obtain ⟨z2, z3, z4⟩ := hW; go_simp; (try with_reducible rfl))
  try simp only [Act.put, List.setIfInBounds_toArray, List.set_cons_zero, List.set_cons_succ]
  refine' wpAnyH_take (i := 9) (oi := ⟨_, _, _, _, _, _⟩) (v := _) rfl (by kernel_rfl) (by kernel_rfl) (by kernel_rfl) (fun _ _ _ h => h) (Or.inl ⟨rfl, ?_⟩) hHeld ?_
  rotate_left
  · (intro W' hW; (try dsimp only at hW); obtain ⟨z2, z3, z4⟩ := hW; go_simp; (try with_reducible rfl))
  try simp only [Act.put, List.setIfInBounds_toArray, List.set_cons_zero, List.set_cons_succ]
  clear hHeld
  refine heldT_one (i := 10) (by kernel_rfl) rfl (fun K' hK => ?_)
  go_simp
  have ku := below_alloc U (.cells #[.int .u64 0, .int .i64 0, .int .i64 0, .int .u32 0, .bool false] 83)
  refine hK.out _ _ ⟨(H0.out.below ku).blk.cell 2, (BX.out.keep ku).cell 0, HK.out _ (K1.out.trans (ku.mono K1.out.size))⟩ ?_
  clear hK ku
  try simp only [List.setIfInBounds_toArray, List.set_cons_zero, List.set_cons_succ]
  refine heldT_one (i := 11) (by kernel_rfl) rfl (fun K' hK => ?_)
  go_simp
  have ku := below_alloc U (.cells #[.int .u64 (fk : Int), .int .i64 (fa : Int), .int .i64 (fn : Int), .int .u32 (fc : Int), .bool fd] 83)
  have bf := Blk.new U (B := 0) 83 #[.int .u64 (fk : Int), .int .i64 (fa : Int), .int .i64 (fn : Int), .int .u32 (fc : Int), .bool fd] (Nat.zero_le _)
  obtain ⟨g1, hg1⟩ : ∃ g, g = U.heap.size := ⟨_, rfl⟩
  have hle := K1.out.size
  have hg0l := BX.out.lt
  obtain ⟨V, hV⟩ : ∃ V, V = U.alloc (.cells #[.int .u64 (fk : Int), .int .i64 (fa : Int), .int .i64 (fn : Int), .int .u32 (fc : Int), .bool fd] 83) := ⟨_, rfl⟩
  rw [← hV] at ku bf ⊢
  rw [← hg1] at bf ⊢
  have H0 := hide (H0.out.below ku)
  have BX := hide (BX.out.keep ku)
  have BF := hide bf
  have K2 := hide (K1.out.trans (ku.mono K1.out.size))
  have HG1 : Hid (g0 < g1) := hide (by omega)
  clear hV hg1 ku bf hle hg0l K1
  have hHeld : (fun W' => W'.cell? ⟨v, 2, none⟩ = some (.map (some b)) ∧ W'.cell? ⟨g0, 0, none⟩ = some (.int .u64 (pk : Int)) ∧ (Instr.lookup 85 (.map (some b)) (.int .u64 (pk : Int)) true).run Try.prog W' = .ok (.tuple #[.agg #[.int .u64 (fk : Int), .int .i64 (fa : Int), .int .i64 (fn : Int), .int .u32 (fc : Int), .bool fd], .bool is]) W') V := ⟨H0.out.blk.cell 2, BX.out.cell 0, HK.out _ K2.out⟩
  refine hK.out _ _ hHeld ?_
  clear hK
  try simp only [List.setIfInBounds_toArray, List.set_cons_zero, List.set_cons_succ]
  refine' wpAnyH_take (i := 12) (oi := ⟨_, _, _, _, _, _⟩) (v := _) rfl (by kernel_rfl) (by kernel_rfl) (by kernel_rfl) (fun _ _ _ h => h) (Or.inl ⟨rfl, ?_⟩) hHeld ?_
  rotate_left
  · (intro W' hW; (try dsimp only at hW); obtain ⟨z2, z3, z4⟩ := hW; go_simp; (try with_reducible rfl))
  try simp only [Act.put, List.setIfInBounds_toArray, List.set_cons_zero, List.set_cons_succ]
  refine wpAnyH_done (by kernel_rfl) ?_ _
  clear hHeld
  have y4 : V.cell? ⟨g0, 4, none⟩ = some (.bool pd) := BX.out.cell 4
  have u4 : V.cell? ⟨g1, 4, none⟩ = some (.bool fd) := BF.out.cell 4
  have hend : ∀ W2, Turn (fun k => k = b) V W2 → Turn (fun k => k = b) w W2 := fun W2 t => (Turn.of_below _ (KB.out.trans (K2.out.mono KB.out.size))).trans t
  by_cases hc : is = false ∨ (pd = true ∧ fd = false)
  rotate_left
  · have hT : Hid (takeL ⟨pk, pa, pn, pc, pd⟩ T = T) := hide (by
      unfold takeL
      rcases e : getP pk T with _ | q
      · rw [e] at HF; exact absurd (HF.out.2) (by intro h; exact hc (.inl h))
      · have h1 : q = ⟨fk, fa, fn, fc, fd⟩ := by have h9 := HF.out.1; rw [e] at h9; exact h9.symm
        rw [h1]
        exact if_neg (fun h => hc (.inr h)))
    have hr : is = true := by cases is with | true => rfl | false => exact absurd (.inl rfl) hc
    subst hr
    have hq : pd = false ∨ (pd = true ∧ fd = true) := by
      cases pd with
      | false => exact .inl rfl
      | true => cases fd with
        | true => exact .inr ⟨rfl, rfl⟩
        | false => exact absurd (.inr ⟨rfl, rfl⟩) hc
    have HE := hide (hend _ (Turn.refl _ _))
    clear hc hend
    rcases hq with rfl | ⟨rfl, rfl⟩
    all_goals
      go_wp2_with fail
      go_end0
      rw [hT.out]
      exact ⟨rfl, H0.out, HE.out⟩
  have hT : Hid (takeL ⟨pk, pa, pn, pc, pd⟩ T = putP ⟨pk, pa, pn, pc, pd⟩ T) := hide (by
    unfold takeL
    rcases e : getP pk T with _ | q
    · rfl
    · have h1 : q = ⟨fk, fa, fn, fc, fd⟩ := by have h9 := HF.out.1; rw [e] at h9; exact h9.symm
      rw [h1]
      refine if_pos (hc.resolve_left ?_)
      have h9 := HF.out.2; rw [e] at h9; rw [h9]; simp)
  have hq : is = false ∨ (is = true ∧ pd = true ∧ fd = false) := by
    cases is with
    | false => exact .inl rfl
    | true => exact .inr ⟨rfl, hc.resolve_left (by decide)⟩
  have HE := hide hend
  clear hc hend
  rcases hq with rfl | ⟨rfl, hp1, hf1⟩
  all_goals
    try (rw [hp1] at y4; rw [hf1] at u4; clear hp1 hf1)
    go_wp2_with fail
    clear y4 u4
    refine heldT_top (fun W' => W'.cell? ⟨v, 2, none⟩ = some (.map (some b)) ∧ W'.cell? ⟨g0, 0, none⟩ = some (.int .u64 (pk : Int)) ∧ W'.cell? ⟨g0, 1, none⟩ = some (.int .i64 (pa : Int)) ∧ W'.cell? ⟨g0, 2, none⟩ = some (.int .i64 (pn : Int)) ∧ W'.cell? ⟨g0, 3, none⟩ = some (.int .u32 (pc : Int)) ∧ W'.cell? ⟨g0, 4, none⟩ = some (.bool pd)) 8 #[false, false, false, false, false, false, false, false] (by kernel_rfl) (by kernel_rfl) (by kernel_rfl) ?_
    have hHeld : (fun W' => W'.cell? ⟨v, 2, none⟩ = some (.map (some b)) ∧ W'.cell? ⟨g0, 0, none⟩ = some (.int .u64 (pk : Int)) ∧ W'.cell? ⟨g0, 1, none⟩ = some (.int .i64 (pa : Int)) ∧ W'.cell? ⟨g0, 2, none⟩ = some (.int .i64 (pn : Int)) ∧ W'.cell? ⟨g0, 3, none⟩ = some (.int .u32 (pc : Int)) ∧ W'.cell? ⟨g0, 4, none⟩ = some (.bool pd)) (V.drewN 1) := ⟨H0.out.blk.cell 2, BX.out.cell 0, BX.out.cell 1, BX.out.cell 2, BX.out.cell 3, BX.out.cell 4⟩
    have BX := hide (BX.out.drewN 1)
    have H0 := hide (H0.out.below (below_drewN (Below.refl _ _) 1))
    have HE := hide (fun W2 (t : Turn (fun k => k = b) (V.drewN 1) W2) => HE.out W2 (((Turn.refl (fun k => k = b) V).drewN 1).trans t))
    change wpAnyH _ _ _ _ _ _ _ _ (V.drewN 1)
    generalize V.drewN 1 = V2 at *
    refine' wpAnyH_take (i := 0) (oi := ⟨_, _, _, _, _, _⟩) (v := _) rfl (by kernel_rfl) (by kernel_rfl) (by kernel_rfl) (fun _ _ _ h => h) (Or.inl ⟨rfl, ?_⟩) hHeld ?_
    rotate_left
    · (intro W' hW; (try dsimp only at hW); obtain ⟨z2, z3, z4, z5, z6, z7⟩ := hW; go_simp; (try with_reducible rfl))
    try simp only [Act.put, List.setIfInBounds_toArray, List.set_cons_zero, List.set_cons_succ]
    refine' wpAnyH_take (i := 1) (oi := ⟨_, _, _, _, _, _⟩) (v := _) rfl (by kernel_rfl) (by kernel_rfl) (by kernel_rfl) (fun _ _ _ h => h) (Or.inl ⟨rfl, ?_⟩) hHeld ?_
    rotate_left
    · (intro W' hW; (try dsimp only at hW); obtain ⟨z2, z3, z4, z5, z6, z7⟩ := hW; go_simp; (try with_reducible rfl))
    try simp only [Act.put, List.setIfInBounds_toArray, List.set_cons_zero, List.set_cons_succ]
    refine' wpAnyH_take (i := 2) (oi := ⟨_, _, _, _, _, _⟩) (v := _) rfl (by kernel_rfl) (by kernel_rfl) (by kernel_rfl) (fun _ _ _ h => h) (Or.inl ⟨rfl, ?_⟩) hHeld ?_
    rotate_left
    · (intro W' hW; (try dsimp only at hW); obtain ⟨z2, z3, z4, z5, z6, z7⟩ := hW; go_simp; (try with_reducible rfl))
    try simp only [Act.put, List.setIfInBounds_toArray, List.set_cons_zero, List.set_cons_succ]
    refine' wpAnyH_take (i := 3) (oi := ⟨_, _, _, _, _, _⟩) (v := _) rfl (by kernel_rfl) (by kernel_rfl) (by kernel_rfl) (fun _ _ _ h => h) (Or.inl ⟨rfl, ?_⟩) hHeld ?_
    rotate_left
    · (intro W' hW; (try dsimp only at hW); obtain ⟨z2, z3, z4, z5, z6, z7⟩ := hW; go_simp; (try with_reducible rfl))
    try simp only [Act.put, List.setIfInBounds_toArray, List.set_cons_zero, List.set_cons_succ]
    refine' wpAnyH_take (i := 4) (oi := ⟨_, _, _, _, _, _⟩) (v := _) rfl (by kernel_rfl) (by kernel_rfl) (by kernel_rfl) (fun _ _ _ h => h) (Or.inl ⟨rfl, ?_⟩) hHeld ?_
    rotate_left
    · (intro W' hW; (try dsimp only at hW); obtain ⟨z2, z3, z4, z5, z6, z7⟩ := hW; go_simp; (try with_reducible rfl))
    try simp only [Act.put, List.setIfInBounds_toArray, List.set_cons_zero, List.set_cons_succ]
    refine' wpAnyH_take (i := 5) (oi := ⟨_, _, _, _, _, _⟩) (v := _) rfl (by kernel_rfl) (by kernel_rfl) (by kernel_rfl) (fun _ _ _ h => h) (Or.inl ⟨rfl, ?_⟩) hHeld ?_
    rotate_left
    · (intro W' hW; (try dsimp only at hW); obtain ⟨z2, z3, z4, z5, z6, z7⟩ := hW; go_simp; (try with_reducible rfl))
    try simp only [Act.put, List.setIfInBounds_toArray, List.set_cons_zero, List.set_cons_succ]
    refine' wpAnyH_take (i := 6) (oi := ⟨_, _, _, _, _, _⟩) (v := _) rfl (by kernel_rfl) (by kernel_rfl) (by kernel_rfl) (fun _ _ _ h => h) (Or.inl ⟨rfl, ?_⟩) hHeld ?_
    rotate_left
    · (intro W' hW; (try dsimp only at hW); obtain ⟨z2, z3, z4, z5, z6, z7⟩ := hW; go_simp; (try with_reducible rfl))
    try simp only [Act.put, List.setIfInBounds_toArray, List.set_cons_zero, List.set_cons_succ]
    clear hHeld
    obtain ⟨w6, r6, v6, t6⟩ := store_pl H0.out ⟨pk, pa, pn, pc, _⟩ HP.out HL.out
    unfold plV at r6
    dsimp only at r6
    refine heldT_one (i := 7) (by kernel_rfl) rfl (fun K' hK => ?_)
    go_simp
    have hne : ¬ g0 = b := fun e => by have h1 := HW.out.2; have h2 := HG.out; omega
    have BX6 := BX.out.turn t6 hne
    refine hK.out _ _ ⟨v6.blk.cell 2, BX6.cell 0, BX6.cell 1, BX6.cell 2, BX6.cell 3, BX6.cell 4⟩ ?_
    clear hK
    try simp only [List.setIfInBounds_toArray, List.set_cons_zero, List.set_cons_succ]
    refine wpAnyH_done (by kernel_rfl) ?_ _
    have V6 := hide v6
    have T6 := hide t6
    clear r6 v6 t6 BX6
    go_wp2_with fail
    go_end0
    rw [hT.out]
    exact ⟨rfl, V6.out, HE.out _ T6.out⟩
end Go.Proofs.Ytehgjkckhjggbaa
