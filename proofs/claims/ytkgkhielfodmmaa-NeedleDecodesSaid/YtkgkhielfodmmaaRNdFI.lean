/- The document's own Decode of needles: a needle that is whole. Condition: fewer than 2 to the 39 bytes. -/
import Derived.Test.YtkgkhielfodmmaaRNdDec
import Derived.Test.YtkgkhielfodmmaaHeldT
import Derived.Test.YtkgkhielfodmmaaRGet8
import Derived.Test.YtkgkhielfodmmaaNdTailT
namespace Go.Proofs.Ytkgkhielfodmmaa
open Go.RowKit
attribute [local go_sem] Oper.semAt_some
/-- A store into a block made behind the answer's own leaves what is known. -/
theorem RDec.turned {w W W' : World} {g off n c : Nat} {b : List Nat} (h : RDec w W g off n c b) (k : Below (w.heap.size + 1) W W') : RDec w W' g off n c b := by
  have hlt := h.lt
  refine ⟨?_, h.byte, h.len, h.lt, h.below.trans (k.mono (Nat.le_succ _)), ?_⟩
  · obtain ⟨A, cc, e, hr, hn⟩ := h.slice
    refine ⟨A, cc, e, fun hne => ?_, hn⟩
    obtain ⟨b', o', e', hc⟩ := hr hne
    refine ⟨b', o', e', fun i hi => ?_⟩
    cases e
    cases e'
    rw [k.cell (p := ⟨g, off + i, none⟩) (by show g < _; omega)]
    exact hc i hi
  · obtain ⟨hB, cur, hh, hl⟩ := h.ans
    exact ⟨hB, cur, by rw [k.block _ (Nat.lt_succ_self _)]; exact hh, hl⟩
set_option maxRecDepth 100000 in
set_option maxHeartbeats 6400000 in
theorem rnddec_rest (A : Option Addr) (n c : Nat) (b : List Nat) (w : World) (hA : IsB w (.slice A n c) b) (hb : ∀ x ∈ b, x < 256) (h : 24 ≤ n) (h0 : (((b.getD 0 0 : Nat) : Int) != 110) = false) (h1 : (((b.getD 1 0 : Nat) : Int) != 100) = false) (h2 : decide ((1 : Int) < ((b.getD 2 0 : Nat) : Int)) = false) (h3 : (((b.getD 3 0 : Nat) : Int) != 0) = false) (h4 : (((val32 (b.drop 20) : Nat) : Int) != ((sumS (b.take 20) : Nat) : Int)) = false) (h5 : decide ((65536 : Int) < ((hLen b : Nat) : Int)) = false) (hg : (((b.getD 2 0 : Nat) : Int) == 1) = true ∧ decide ((0 : Int) < ((hLen b : Nat) : Int)) = false ∨ (((b.getD 2 0 : Nat) : Int) == 1) = false) (hsz : ndSize (hLen b) ≤ n) (hlim : n ≤ 549755813888) (t : Bool) (ht : t = decide (TailOk b)) :
    Calls Try.prog 16 #[.slice A n c] w fun e w' => ∃ s, e = .returned (.tuple #[.agg #[.int .u64 (hKey b : Nat), .int .u32 (hCook b : Nat), .bool (hDead b), s], .int .i64 (ndSize (hLen b) : Nat), .int .i64 (if t then 0 else 4)]) ∧ Own w' w.heap.size s (if t then (b.drop 24).take (hLen b) else []) ∧ Below w.heap.size w w' := by
  have lc := isB_len hA
  obtain ⟨hn, hnc, hcm⟩ := lc
  obtain ⟨g, off, rfl, rd0⟩ := rdec_new hA hb h
  have hc4 : ¬ (c = 4) := by omega
  have hc12 : ¬ (c = 12) := by omega
  have hc16 : ¬ (c = 16) := by omega
  have hc20 : ¬ (c = 20) := by omega
  have R0 := hide rd0
  have hv := hLen_lt hb
  obtain ⟨ln, hln⟩ : ∃ l, l = hLen b := ⟨_, rfl⟩
  rw [← hln] at hv h5 hg hsz
  have HTT := hide ht
  clear ht
  have HLN := hide hln
  have c0 := (rd0.cell 0 (by omega)).1
  have l0 := (rd0.cell 0 (by omega)).2
  have c1 := (rd0.cell 1 (by omega)).1
  have l1 := (rd0.cell 1 (by omega)).2
  have c2 := (rd0.cell 2 (by omega)).1
  have l2 := (rd0.cell 2 (by omega)).2
  have c3 := (rd0.cell 3 (by omega)).1
  have l3 := (rd0.cell 3 (by omega)).2
  rw [Nat.add_zero] at c0
  generalize hx0 : b.getD 0 0 = x0 at *
  generalize hx1 : b.getD 1 0 = x1 at *
  generalize hx2 : b.getD 2 0 = x2 at *
  generalize hx3 : b.getD 3 0 = x3 at *
  have HX := hide (And.intro hx0 (And.intro hx1 (And.intro hx2 hx3)))
  clear hx0 hx1 hx2 hx3 hA hb hn rd0 hln
  obtain ⟨W, hW⟩ : ∃ W, W = w.alloc (.cells #[.int .u64 0, .int .u32 0, .bool false, .slice none 0 0] 26) := ⟨_, rfl⟩
  rw [← hW] at R0 c0 c1 c2 c3
  obtain ⟨b0, hb0⟩ : ∃ b0, b0 = w.heap.size := ⟨_, rfl⟩
  have HB := hide (And.intro hW hb0)
  clear hW hb0
  have hi0 : 0 < n := by omega
  have hi1 : (1 : Int) < (n : Int) := by omega
  have hi2 : (2 : Int) < (n : Int) := by omega
  have hi3 : (3 : Int) < (n : Int) := by omega
  have hn4 : (4 : Int) ≤ (n : Int) := by omega
  have hn12 : (12 : Int) ≤ (n : Int) := by omega
  have hn20 : (20 : Int) ≤ (n : Int) := by omega
  have hk4 : (4 : Int) ≤ (c : Int) := by omega
  have hk12 : (12 : Int) ≤ (c : Int) := by omega
  have hk20 : (20 : Int) ≤ (c : Int) := by omega
  have hm24 : (24 : Int) ≤ (n : Int) := by omega
  obtain ⟨s1, hs1⟩ : ∃ s, s = val32 (b.drop 20) := ⟨_, rfl⟩
  obtain ⟨s2, hs2⟩ : ∃ s, s = sumS (b.take 20) := ⟨_, rfl⟩
  rw [← hs1, ← hs2] at h4
  have SM : Hid (s1 = val32 (b.drop 20) ∧ s2 = sumS (b.take 20) ∧ 20 = (b.take 20).length ∧ (∀ x ∈ b.take 20, x < 256)) := hide ⟨hs1, hs2, by rw [List.length_take, R0.out.len]; omega, fun x hx => R0.out.byte x (List.mem_of_mem_take hx)⟩
  have LG : Hid (g < W.heap.size) := hide (Nat.lt_of_lt_of_le R0.out.lt R0.out.below.size)
  clear hs1 hs2
  have hle : ln ≤ 65536 := by have := h5; rw [decide_eq_false_iff_not] at this; omega
  obtain ⟨v60, v61, HV⟩ : ∃ v60 v61 : Value, Hid (((x2 : Int) == 1) = true ∧ v60 = .int .i64 (ln : Int) ∧ v61 = .bool false ∧ decide ((0 : Int) < (ln : Int)) = false ∨ ((x2 : Int) == 1) = false ∧ v60 = undef ∧ v61 = undef) := by
    rcases hg with ⟨h6, h7⟩ | h6
    · exact ⟨.int .i64 (ln : Int), .bool false, hide (.inl ⟨h6, rfl, rfl, h7⟩)⟩
    · exact ⟨undef, undef, hide (.inr ⟨h6, rfl, rfl⟩)⟩
  clear hg
  go_enter Try.func16, Try.ntmps16
  go_wp2_with fail
  rw [← HB.out.1, ← HB.out.2]
  refine (rget32_any _ (n - 16) _ (b.drop 16) _ (R0.out.part 16 (by omega)).1.rd (R0.out.part 16 (by omega)).2.2 (R0.out.part 16 (by omega)).2.1 (by omega) (by omega)).mono ?_
  rintro e w1 ⟨rfl, d1, rfl⟩
  rw [show val32 (b.drop 16) = ln from HLN.out.symm]
  have R1 := hide (R0.out.drawn d1)
  have c0 : (W.drewN d1).cell? ⟨g, off, none⟩ = some (.int .u8 (x0 : Int)) := c0
  have c1 : (W.drewN d1).cell? ⟨g, off + 1, none⟩ = some (.int .u8 (x1 : Int)) := c1
  have c2 : (W.drewN d1).cell? ⟨g, off + 2, none⟩ = some (.int .u8 (x2 : Int)) := c2
  have c3 : (W.drewN d1).cell? ⟨g, off + 3, none⟩ = some (.int .u8 (x3 : Int)) := c3
  have LV : Hid (g < (W.drewN d1).heap.size) := hide (Nat.lt_of_lt_of_le R1.out.lt R1.out.below.size)
  generalize W.drewN d1 = V at R1 c0 c1 c2 c3 LV ⊢
  go_wp2_with fail
  refine heldT_top (fun W' => W'.cell? ⟨g, off, none⟩ = some (.int .u8 (x0 : Int)) ∧ W'.cell? ⟨g, off + 1, none⟩ = some (.int .u8 (x1 : Int)) ∧ W'.cell? ⟨g, off + 2, none⟩ = some (.int .u8 (x2 : Int)) ∧ W'.cell? ⟨g, off + 3, none⟩ = some (.int .u8 (x3 : Int))) 45 #[false, false, false, false, false, false, false, false, false, false, false, false, false, false, false, false, false, false, false, false, false, false, false, false, false, false, false, false, false, false, false, false, false, false, false, false, false, false, false, false, false, false, false, false, false] (by kernel_rfl) (by kernel_rfl) (by kernel_rfl) ?_
  have hHeld : (fun W' => W'.cell? ⟨g, off, none⟩ = some (.int .u8 (x0 : Int)) ∧ W'.cell? ⟨g, off + 1, none⟩ = some (.int .u8 (x1 : Int)) ∧ W'.cell? ⟨g, off + 2, none⟩ = some (.int .u8 (x2 : Int)) ∧ W'.cell? ⟨g, off + 3, none⟩ = some (.int .u8 (x3 : Int))) V.drew := ⟨c0, c1, c2, c3⟩
  refine' wpAnyH_take (i := 0) (oi := ⟨_, _, _, _, _, _⟩) (v := _) rfl (by kernel_rfl) (by kernel_rfl) (by kernel_rfl) (fun _ _ _ h => h) (Or.inl ⟨rfl, ?_⟩) hHeld ?_
  rotate_left
  · (intro W' hW; (try dsimp only at hW); go_simp; (try with_reducible rfl))
  try simp only [Act.put, List.setIfInBounds_toArray, List.set_cons_zero, List.set_cons_succ]
  refine' wpAnyH_take (i := 1) (oi := ⟨_, _, _, _, _, _⟩) (v := _) rfl (by kernel_rfl) (by kernel_rfl) (by kernel_rfl) (fun _ _ _ h => h) (Or.inl ⟨rfl, ?_⟩) hHeld ?_
  rotate_left
  · (intro W' hW; (try dsimp only at hW); go_simp; (try with_reducible rfl))
  try simp only [Act.put, List.setIfInBounds_toArray, List.set_cons_zero, List.set_cons_succ]
  refine' wpAnyH_take (i := 2) (oi := ⟨_, _, _, _, _, _⟩) (v := _) rfl (by kernel_rfl) (by kernel_rfl) (by kernel_rfl) (fun _ _ _ h => h) (Or.inl ⟨rfl, ?_⟩) hHeld ?_
  rotate_left
  · (intro W' hW; (try dsimp only at hW); obtain ⟨z0, z1, z2, z3⟩ := hW; go_simp; (try with_reducible rfl))
  try simp only [Act.put, List.setIfInBounds_toArray, List.set_cons_zero, List.set_cons_succ]
  refine' wpAnyH_take (i := 3) (oi := ⟨_, _, _, _, _, _⟩) (v := _) rfl (by kernel_rfl) (by kernel_rfl) (by kernel_rfl) (fun _ _ _ h => h) (Or.inl ⟨rfl, ?_⟩) hHeld ?_
  rotate_left
  · (intro W' hW; (try dsimp only at hW); go_simp; (try with_reducible rfl))
  try simp only [Act.put, List.setIfInBounds_toArray, List.set_cons_zero, List.set_cons_succ]
  refine' wpAnyH_take (i := 4) (oi := ⟨_, _, _, _, _, _⟩) (v := _) rfl (by kernel_rfl) (by kernel_rfl) (by kernel_rfl) (fun _ _ _ h => h) (Or.inl ⟨rfl, ?_⟩) hHeld ?_
  rotate_left
  · (intro W' hW; (try dsimp only at hW); go_simp; (try with_reducible rfl))
  try simp only [Act.put, List.setIfInBounds_toArray, List.set_cons_zero, List.set_cons_succ]
  refine' wpAnyH_take (i := 5) (oi := ⟨_, _, _, _, _, _⟩) (v := _) rfl (by kernel_rfl) (by kernel_rfl) (by kernel_rfl) (fun _ _ _ h => h) (Or.inl ⟨rfl, ?_⟩) hHeld ?_
  rotate_left
  · (intro W' hW; (try dsimp only at hW); go_simp; (try with_reducible rfl))
  try simp only [Act.put, List.setIfInBounds_toArray, List.set_cons_zero, List.set_cons_succ]
  refine' wpAnyH_take (i := 6) (oi := ⟨_, _, _, _, _, _⟩) (v := _) rfl (by kernel_rfl) (by kernel_rfl) (by kernel_rfl) (fun _ _ _ h => h) (Or.inl ⟨rfl, ?_⟩) hHeld ?_
  rotate_left
  · (intro W' hW; (try dsimp only at hW); go_simp; (try with_reducible rfl))
  try simp only [Act.put, List.setIfInBounds_toArray, List.set_cons_zero, List.set_cons_succ]
  refine' wpAnyH_take (i := 7) (oi := ⟨_, _, _, _, _, _⟩) (v := _) rfl (by kernel_rfl) (by kernel_rfl) (by kernel_rfl) (fun _ _ _ h => h) (Or.inl ⟨rfl, ?_⟩) hHeld ?_
  rotate_left
  · (intro W' hW; (try dsimp only at hW); obtain ⟨z0, z1, z2, z3⟩ := hW; go_simp; (try with_reducible rfl))
  try simp only [Act.put, List.setIfInBounds_toArray, List.set_cons_zero, List.set_cons_succ]
  refine' wpAnyH_take (i := 8) (oi := ⟨_, _, _, _, _, _⟩) (v := _) rfl (by kernel_rfl) (by kernel_rfl) (by kernel_rfl) (fun _ _ _ h => h) (Or.inl ⟨rfl, ?_⟩) hHeld ?_
  rotate_left
  · (intro W' hW; (try dsimp only at hW); go_simp; (try with_reducible rfl))
  try simp only [Act.put, List.setIfInBounds_toArray, List.set_cons_zero, List.set_cons_succ]
  refine' wpAnyH_take (i := 9) (oi := ⟨_, _, _, _, _, _⟩) (v := _) rfl (by kernel_rfl) (by kernel_rfl) (by kernel_rfl) (fun _ _ _ h => h) (Or.inl ⟨rfl, ?_⟩) hHeld ?_
  rotate_left
  · (intro W' hW; (try dsimp only at hW); go_simp; (try with_reducible rfl))
  try simp only [Act.put, List.setIfInBounds_toArray, List.set_cons_zero, List.set_cons_succ]
  refine' wpAnyH_take (i := 10) (oi := ⟨_, _, _, _, _, _⟩) (v := _) rfl (by kernel_rfl) (by kernel_rfl) (by kernel_rfl) (fun _ _ _ h => h) (Or.inl ⟨rfl, ?_⟩) hHeld ?_
  rotate_left
  · (intro W' hW; (try dsimp only at hW); go_simp; (try with_reducible rfl))
  try simp only [Act.put, List.setIfInBounds_toArray, List.set_cons_zero, List.set_cons_succ]
  refine' wpAnyH_take (i := 11) (oi := ⟨_, _, _, _, _, _⟩) (v := _) rfl (by kernel_rfl) (by kernel_rfl) (by kernel_rfl) (fun _ _ _ h => h) (Or.inl ⟨rfl, ?_⟩) hHeld ?_
  rotate_left
  · (intro W' hW; (try dsimp only at hW); go_simp; (try with_reducible rfl))
  try simp only [Act.put, List.setIfInBounds_toArray, List.set_cons_zero, List.set_cons_succ]
  refine' wpAnyH_take (i := 12) (oi := ⟨_, _, _, _, _, _⟩) (v := _) rfl (by kernel_rfl) (by kernel_rfl) (by kernel_rfl) (fun _ _ _ h => h) (Or.inl ⟨rfl, ?_⟩) hHeld ?_
  rotate_left
  · (intro W' hW; (try dsimp only at hW); go_simp; (try with_reducible rfl))
  try simp only [Act.put, List.setIfInBounds_toArray, List.set_cons_zero, List.set_cons_succ]
  refine' wpAnyH_take (i := 13) (oi := ⟨_, _, _, _, _, _⟩) (v := _) rfl (by kernel_rfl) (by kernel_rfl) (by kernel_rfl) (fun _ _ _ h => h) (Or.inl ⟨rfl, ?_⟩) hHeld ?_
  rotate_left
  · (intro W' hW; (try dsimp only at hW); obtain ⟨z0, z1, z2, z3⟩ := hW; go_simp; (try with_reducible rfl))
  try simp only [Act.put, List.setIfInBounds_toArray, List.set_cons_zero, List.set_cons_succ]
  refine' wpAnyH_take (i := 14) (oi := ⟨_, _, _, _, _, _⟩) (v := _) rfl (by kernel_rfl) (by kernel_rfl) (by kernel_rfl) (fun _ _ _ h => h) (Or.inl ⟨rfl, ?_⟩) hHeld ?_
  rotate_left
  · (intro W' hW; (try dsimp only at hW); go_simp; (try with_reducible rfl))
  try simp only [Act.put, List.setIfInBounds_toArray, List.set_cons_zero, List.set_cons_succ]
  refine' wpAnyH_take (i := 15) (oi := ⟨_, _, _, _, _, _⟩) (v := _) rfl (by kernel_rfl) (by kernel_rfl) (by kernel_rfl) (fun _ _ _ h => h) (Or.inl ⟨rfl, ?_⟩) hHeld ?_
  rotate_left
  · (intro W' hW; (try dsimp only at hW); go_simp; (try with_reducible rfl))
  try simp only [Act.put, List.setIfInBounds_toArray, List.set_cons_zero, List.set_cons_succ]
  refine' wpAnyH_take (i := 16) (oi := ⟨_, _, _, _, _, _⟩) (v := _) rfl (by kernel_rfl) (by kernel_rfl) (by kernel_rfl) (fun _ _ _ h => h) (Or.inl ⟨rfl, ?_⟩) hHeld ?_
  rotate_left
  · (intro W' hW; (try dsimp only at hW); go_simp; (try with_reducible rfl))
  try simp only [Act.put, List.setIfInBounds_toArray, List.set_cons_zero, List.set_cons_succ]
  refine' wpAnyH_take (i := 17) (oi := ⟨_, _, _, _, _, _⟩) (v := _) rfl (by kernel_rfl) (by kernel_rfl) (by kernel_rfl) (fun _ _ _ h => h) (Or.inl ⟨rfl, ?_⟩) hHeld ?_
  rotate_left
  · (intro W' hW; (try dsimp only at hW); go_simp; (try with_reducible rfl))
  try simp only [Act.put, List.setIfInBounds_toArray, List.set_cons_zero, List.set_cons_succ]
  refine' wpAnyH_take (i := 18) (oi := ⟨_, _, _, _, _, _⟩) (v := _) rfl (by kernel_rfl) (by kernel_rfl) (by kernel_rfl) (fun _ _ _ h => h) (Or.inl ⟨rfl, ?_⟩) hHeld ?_
  rotate_left
  · (intro W' hW; (try dsimp only at hW); go_simp; (try with_reducible rfl))
  try simp only [Act.put, List.setIfInBounds_toArray, List.set_cons_zero, List.set_cons_succ]
  refine' wpAnyH_take (i := 19) (oi := ⟨_, _, _, _, _, _⟩) (v := _) rfl (by kernel_rfl) (by kernel_rfl) (by kernel_rfl) (fun _ _ _ h => h) (Or.inl ⟨rfl, ?_⟩) hHeld ?_
  rotate_left
  · (intro W' hW; (try dsimp only at hW); obtain ⟨z0, z1, z2, z3⟩ := hW; go_simp; (try with_reducible rfl))
  try simp only [Act.put, List.setIfInBounds_toArray, List.set_cons_zero, List.set_cons_succ]
  refine' wpAnyH_take (i := 20) (oi := ⟨_, _, _, _, _, _⟩) (v := _) rfl (by kernel_rfl) (by kernel_rfl) (by kernel_rfl) (fun _ _ _ h => h) (Or.inl ⟨rfl, ?_⟩) hHeld ?_
  rotate_left
  · (intro W' hW; (try dsimp only at hW); go_simp; (try with_reducible rfl))
  try simp only [Act.put, List.setIfInBounds_toArray, List.set_cons_zero, List.set_cons_succ]
  refine' wpAnyH_take (i := 21) (oi := ⟨_, _, _, _, _, _⟩) (v := _) rfl (by kernel_rfl) (by kernel_rfl) (by kernel_rfl) (fun _ _ _ h => h) (Or.inl ⟨rfl, ?_⟩) hHeld ?_
  rotate_left
  · (intro W' hW; (try dsimp only at hW); go_simp; (try with_reducible rfl))
  try simp only [Act.put, List.setIfInBounds_toArray, List.set_cons_zero, List.set_cons_succ]
  refine' wpAnyH_take (i := 22) (oi := ⟨_, _, _, _, _, _⟩) (v := _) rfl (by kernel_rfl) (by kernel_rfl) (by kernel_rfl) (fun _ _ _ h => h) (Or.inl ⟨rfl, ?_⟩) hHeld ?_
  rotate_left
  · (intro W' hW; (try dsimp only at hW); go_simp; (try with_reducible rfl))
  try simp only [Act.put, List.setIfInBounds_toArray, List.set_cons_zero, List.set_cons_succ]
  refine' wpAnyH_take (i := 23) (oi := ⟨_, _, _, _, _, _⟩) (v := _) rfl (by kernel_rfl) (by kernel_rfl) (by kernel_rfl) (fun _ _ _ h => h) (Or.inl ⟨rfl, ?_⟩) hHeld ?_
  rotate_left
  · (intro W' hW; (try dsimp only at hW); go_simp; (try with_reducible rfl))
  try simp only [Act.put, List.setIfInBounds_toArray, List.set_cons_zero, List.set_cons_succ]
  refine' wpAnyH_take (i := 24) (oi := ⟨_, _, _, _, _, _⟩) (v := _) rfl (by kernel_rfl) (by kernel_rfl) (by kernel_rfl) (fun _ _ _ h => h) (Or.inl ⟨rfl, ?_⟩) hHeld ?_
  rotate_left
  · (intro W' hW; (try dsimp only at hW); go_simp; (try with_reducible rfl))
  try simp only [Act.put, List.setIfInBounds_toArray, List.set_cons_zero, List.set_cons_succ]
  refine' wpAnyH_take (i := 26) (oi := ⟨_, _, _, _, _, _⟩) (v := _) rfl (by kernel_rfl) (by kernel_rfl) (by kernel_rfl) (fun _ _ _ h => h) (Or.inl ⟨rfl, ?_⟩) hHeld ?_
  rotate_left
  · (intro W' hW; (try dsimp only at hW); go_simp; (try with_reducible rfl))
  try simp only [Act.put, List.setIfInBounds_toArray, List.set_cons_zero, List.set_cons_succ]
  refine' wpAnyH_take (i := 27) (oi := ⟨_, _, _, _, _, _⟩) (v := _) rfl (by kernel_rfl) (by kernel_rfl) (by kernel_rfl) (fun _ _ _ h => h) (Or.inl ⟨rfl, ?_⟩) hHeld ?_
  rotate_left
  · (intro W' hW; (try dsimp only at hW); go_simp; (try with_reducible rfl))
  try simp only [Act.put, List.setIfInBounds_toArray, List.set_cons_zero, List.set_cons_succ]
  clear hHeld
  refine heldT_one (i := 25) (by kernel_rfl) rfl (fun K hK => ?_)
  go_simp
  go_at_call 28
  refine (rget32_any _ (n - 20) _ (b.drop 20) _ (by exact (R1.out.part 20 (by omega)).1.rd) (R1.out.part 20 (by omega)).2.2 (R1.out.part 20 (by omega)).2.1 (by omega) (by omega)).mono ?_
  rintro e w8 ⟨rfl, d8, rfl⟩
  rw [← SM.out.1]
  have hHeld : (fun W' => W'.cell? ⟨g, off, none⟩ = some (.int .u8 (x0 : Int)) ∧ W'.cell? ⟨g, off + 1, none⟩ = some (.int .u8 (x1 : Int)) ∧ W'.cell? ⟨g, off + 2, none⟩ = some (.int .u8 (x2 : Int)) ∧ W'.cell? ⟨g, off + 3, none⟩ = some (.int .u8 (x3 : Int))) (V.drew.drewN d8) := ⟨c0, c1, c2, c3⟩
  refine hK.out _ _ hHeld ?_
  clear hK hHeld
  try simp only [List.setIfInBounds_toArray, List.set_cons_zero, List.set_cons_succ]
  refine heldT_one (i := 28) (by kernel_rfl) rfl (fun K hK => ?_)
  go_simp
  go_at_call 25
  refine (rsum_any _ 20 _ (b.take 20) _ (by exact ((R1.out.slice).take 20 (by omega)).rd) SM.out.2.2.1 SM.out.2.2.2 (by omega)).mono ?_
  rintro e w9 ⟨rfl, k9⟩
  rw [← SM.out.2.1]
  have K9 : Hid (Below V.heap.size V w9) := hide (by first | exact ⟨k9.os, k9.tape, k9.output, k9.size, k9.block⟩ | exact k9)
  clear k9
  have hHeld : (fun W' => W'.cell? ⟨g, off, none⟩ = some (.int .u8 (x0 : Int)) ∧ W'.cell? ⟨g, off + 1, none⟩ = some (.int .u8 (x1 : Int)) ∧ W'.cell? ⟨g, off + 2, none⟩ = some (.int .u8 (x2 : Int)) ∧ W'.cell? ⟨g, off + 3, none⟩ = some (.int .u8 (x3 : Int))) w9 := ⟨(K9.out.cell (p := ⟨g, off, none⟩) LV.out).trans c0, (K9.out.cell (p := ⟨g, off + 1, none⟩) LV.out).trans c1, (K9.out.cell (p := ⟨g, off + 2, none⟩) LV.out).trans c2, (K9.out.cell (p := ⟨g, off + 3, none⟩) LV.out).trans c3⟩
  refine hK.out _ _ hHeld ?_
  clear hK
  try simp only [List.setIfInBounds_toArray, List.set_cons_zero, List.set_cons_succ]
  refine' wpAnyH_take (i := 29) (oi := ⟨_, _, _, _, _, _⟩) (v := _) rfl (by kernel_rfl) (by kernel_rfl) (by kernel_rfl) (fun _ _ _ h => h) (Or.inl ⟨rfl, ?_⟩) hHeld ?_
  rotate_left
  · (intro W' hW; (try dsimp only at hW); go_simp; (try with_reducible rfl))
  try simp only [Act.put, List.setIfInBounds_toArray, List.set_cons_zero, List.set_cons_succ]
  refine' wpAnyH_take (i := 30) (oi := ⟨_, _, _, _, _, _⟩) (v := _) rfl (by kernel_rfl) (by kernel_rfl) (by kernel_rfl) (fun _ _ _ h => h) (Or.inl ⟨rfl, ?_⟩) hHeld ?_
  rotate_left
  · (intro W' hW; (try dsimp only at hW); go_simp; (try with_reducible rfl))
  try simp only [Act.put, List.setIfInBounds_toArray, List.set_cons_zero, List.set_cons_succ]
  refine' wpAnyH_take (i := 31) (oi := ⟨_, _, _, _, _, _⟩) (v := _) rfl (by kernel_rfl) (by kernel_rfl) (by kernel_rfl) (fun _ _ _ h => h) (Or.inl ⟨rfl, ?_⟩) hHeld ?_
  rotate_left
  · (intro W' hW; (try dsimp only at hW); go_simp; (try with_reducible rfl))
  try simp only [Act.put, List.setIfInBounds_toArray, List.set_cons_zero, List.set_cons_succ]
  refine' wpAnyH_take (i := 32) (oi := ⟨_, _, _, _, _, _⟩) (v := _) rfl (by kernel_rfl) (by kernel_rfl) (by kernel_rfl) (fun _ _ _ h => h) (Or.inl ⟨rfl, ?_⟩) hHeld ?_
  rotate_left
  · (intro W' hW; (try dsimp only at hW); go_simp; (try with_reducible rfl))
  try simp only [Act.put, List.setIfInBounds_toArray, List.set_cons_zero, List.set_cons_succ]
  refine' wpAnyH_take (i := 33) (oi := ⟨_, _, _, _, _, _⟩) (v := _) rfl (by kernel_rfl) (by kernel_rfl) (by kernel_rfl) (fun _ _ _ h => h) (Or.inl ⟨rfl, ?_⟩) hHeld ?_
  rotate_left
  · (intro W' hW; (try dsimp only at hW); go_simp; (try with_reducible rfl))
  try simp only [Act.put, List.setIfInBounds_toArray, List.set_cons_zero, List.set_cons_succ]
  refine' wpAnyH_take (i := 34) (oi := ⟨_, _, _, _, _, _⟩) (v := _) rfl (by kernel_rfl) (by kernel_rfl) (by kernel_rfl) (fun _ _ _ h => h) (Or.inl ⟨rfl, ?_⟩) hHeld ?_
  rotate_left
  · (intro W' hW; (try dsimp only at hW); go_simp; (try with_reducible rfl))
  try simp only [Act.put, List.setIfInBounds_toArray, List.set_cons_zero, List.set_cons_succ]
  refine' wpAnyH_take (i := 35) (oi := ⟨_, _, _, _, _, _⟩) (v := _) rfl (by kernel_rfl) (by kernel_rfl) (by kernel_rfl) (fun _ _ _ h => h) (Or.inl ⟨rfl, ?_⟩) hHeld ?_
  rotate_left
  · (intro W' hW; (try dsimp only at hW); go_simp; (try with_reducible rfl))
  try simp only [Act.put, List.setIfInBounds_toArray, List.set_cons_zero, List.set_cons_succ]
  refine' wpAnyH_take (i := 36) (oi := ⟨_, _, _, _, _, _⟩) (v := _) rfl (by kernel_rfl) (by kernel_rfl) (by kernel_rfl) (fun _ _ _ h => h) (Or.inl ⟨rfl, ?_⟩) hHeld ?_
  rotate_left
  · (intro W' hW; (try dsimp only at hW); go_simp; (try with_reducible rfl))
  try simp only [Act.put, List.setIfInBounds_toArray, List.set_cons_zero, List.set_cons_succ]
  refine' wpAnyH_take (i := 37) (oi := ⟨_, _, _, _, _, _⟩) (v := _) rfl (by kernel_rfl) (by kernel_rfl) (by kernel_rfl) (fun _ _ _ h => h) (Or.inl ⟨rfl, ?_⟩) hHeld ?_
  rotate_left
  · (intro W' hW; (try dsimp only at hW); go_simp; (try with_reducible rfl))
  try simp only [Act.put, List.setIfInBounds_toArray, List.set_cons_zero, List.set_cons_succ]
  refine' wpAnyH_take (i := 38) (oi := ⟨_, _, _, _, _, _⟩) (v := _) rfl (by kernel_rfl) (by kernel_rfl) (by kernel_rfl) (fun _ _ _ h => h) (Or.inl ⟨rfl, ?_⟩) hHeld ?_
  rotate_left
  · (intro W' hW; (try dsimp only at hW); obtain ⟨z0, z1, z2, z3⟩ := hW; go_simp; (try with_reducible rfl))
  try simp only [Act.put, List.setIfInBounds_toArray, List.set_cons_zero, List.set_cons_succ]
  refine' wpAnyH_take (i := 39) (oi := ⟨_, _, _, _, _, _⟩) (v := _) rfl (by kernel_rfl) (by kernel_rfl) (by kernel_rfl) (fun _ _ _ h => h) (Or.inl ⟨rfl, ?_⟩) hHeld ?_
  rotate_left
  · (intro W' hW; (try dsimp only at hW); go_simp; (try with_reducible rfl))
  try simp only [Act.put, List.setIfInBounds_toArray, List.set_cons_zero, List.set_cons_succ]
  refine' wpAnyH_take (i := 40) (oi := ⟨_, _, _, _, _, _⟩) (v := _) rfl (by kernel_rfl) (by kernel_rfl) (by kernel_rfl) (fun _ _ _ h => h) (Or.inl ⟨rfl, ?_⟩) hHeld ?_
  rotate_left
  · (intro W' hW; (try dsimp only at hW); go_simp; (try with_reducible rfl))
  try simp only [Act.put, List.setIfInBounds_toArray, List.set_cons_zero, List.set_cons_succ]
  refine' wpAnyH_take (i := 41) (oi := ⟨_, _, _, _, _, _⟩) (v := v60) rfl (by kernel_rfl) (by kernel_rfl) (by kernel_rfl) (fun _ _ _ h => h) ?_ hHeld ?_
  · rcases HV.out with ⟨e6, rfl, rfl, e7⟩ | ⟨e6, rfl, rfl⟩
    · refine Or.inl ⟨by rw [e6]; rfl, ?_⟩
      intro W' hW
      go_simp
      try with_reducible rfl
    · exact Or.inr ⟨by rw [e6]; rfl, rfl⟩
  try simp only [Act.put, List.setIfInBounds_toArray, List.set_cons_zero, List.set_cons_succ]
  refine' wpAnyH_take (i := 42) (oi := ⟨_, _, _, _, _, _⟩) (v := v61) rfl (by kernel_rfl) (by kernel_rfl) (by kernel_rfl) (fun _ _ _ h => h) ?_ hHeld ?_
  · rcases HV.out with ⟨e6, rfl, rfl, e7⟩ | ⟨e6, rfl, rfl⟩
    · refine Or.inl ⟨by rw [e6]; rfl, ?_⟩
      intro W' hW
      go_simp
      try with_reducible rfl
      all_goals (rw [decide_eq_false_iff_not] at e7; omega)
    · exact Or.inr ⟨by rw [e6]; rfl, rfl⟩
  try simp only [Act.put, List.setIfInBounds_toArray, List.set_cons_zero, List.set_cons_succ]
  refine' wpAnyH_take (i := 43) (oi := ⟨_, _, _, _, _, _⟩) (v := .bool false) rfl (by kernel_rfl) (by kernel_rfl) (by kernel_rfl) (fun _ _ _ h => h) (Or.inl ⟨rfl, ?_⟩) hHeld ?_
  · intro W' hW
    rcases HV.out with ⟨e6, rfl, rfl, e7⟩ | ⟨e6, rfl, rfl⟩
    · go_simp
      try with_reducible rfl
    · go_simp
      try with_reducible rfl
  try simp only [Act.put, List.setIfInBounds_toArray, List.set_cons_zero, List.set_cons_succ]
  refine' wpAnyH_take (i := 44) (oi := ⟨_, _, _, _, _, _⟩) (v := _) rfl (by kernel_rfl) (by kernel_rfl) (by kernel_rfl) (fun _ _ _ h => h) (Or.inl ⟨rfl, ?_⟩) hHeld ?_
  rotate_left
  · (intro W' hW; (try dsimp only at hW); go_simp; (try with_reducible rfl))
  try simp only [Act.put, List.setIfInBounds_toArray, List.set_cons_zero, List.set_cons_succ]
  refine wpAnyH_done (by kernel_rfl) ?_ _
  clear hHeld
  have R9 := hide (R1.out.keep K9.out)
  obtain ⟨V9, hV9⟩ : ∃ V, V = w9 := ⟨_, rfl⟩
  rw [← hV9] at R9 ⊢
  clear hV9
  clear R1 c0 c1 c2 c3 HV h0 h1 h2 h3 h4 h5
  obtain ⟨m, hm⟩ : ∃ m, m = ndSize ln := ⟨_, rfl⟩
  have hgm := ndSize_ge ln hle
  rw [← hm] at hgm hsz
  have HM := hide hm
  clear hm
  go_wp2_with fail
  refine (rndsize_any _ _ (by omega) (by omega)).mono ?_
  rintro e w10 ⟨rfl, rfl⟩
  rw [Int.toNat_natCast, ← HM.out]
  have hnm : ¬ ((n : Int) < (m : Int)) := by omega
  go_wp2_with fail
  have z2 := (R9.out.cell 2 (by omega)).1
  rw [show b.getD 2 0 = x2 from HX.out.2.2.1] at z2
  obtain ⟨kv, hkv⟩ : ∃ k, k = hKey b := ⟨_, rfl⟩
  obtain ⟨cv, hcv⟩ : ∃ k, k = hCook b := ⟨_, rfl⟩
  have KC := hide (And.intro hkv hcv)
  clear hkv hcv
  refine wp_mono (Q := fun e a' u => e = .normal ∧ ∃ g7 : Nat, a' = { tmps := List.toArray ((Value.slice (some { block := g, off := off }) n c) :: (undef) :: (Value.pointer (some { block := b0, off := 0 })) :: (Value.int IntKind.i64 0) :: (Value.int IntKind.i64 0) :: (Value.int IntKind.i64 ↑ln) :: (Value.int IntKind.i64 ↑m) :: (Value.pointer (some ⟨g7, 0, none⟩)) :: (undef) :: (undef) :: (undef) :: (Value.slice (some { block := g, off := off }) n c) :: (Value.int IntKind.i64 ↑n) :: (Value.bool (decide ((n : Int) < 24))) :: (undef) :: (Value.slice (some { block := g, off := off }) n c) :: (Value.slice (some { block := g, off := off + 16 }) (n - 16) (c - 16)) :: (Value.int IntKind.u32 ↑ln) :: (Value.int IntKind.i64 ↑ln) :: (Value.slice (some { block := g, off := off }) n c) :: (Value.pointer (some { block := g, off := off })) :: (Value.int IntKind.u8 ↑x0) :: (Value.bool false) :: (Value.bool false) :: (Value.slice (some { block := g, off := off }) n c) :: (Value.pointer (some { block := g, off := off + 1 })) :: (Value.int IntKind.u8 ↑x1) :: (Value.bool false) :: (Value.bool false) :: (Value.bool false) :: (Value.slice (some { block := g, off := off }) n c) :: (Value.pointer (some { block := g, off := off + 2 })) :: (Value.int IntKind.u8 ↑x2) :: (Value.bool false) :: (Value.bool false) :: (Value.bool false) :: (Value.slice (some { block := g, off := off }) n c) :: (Value.pointer (some { block := g, off := off + 3 })) :: (Value.int IntKind.u8 ↑x3) :: (Value.bool false) :: (Value.bool false) :: (Value.bool false) :: (Value.slice (some { block := g, off := off }) n c) :: (Value.slice (some { block := g, off := off + 20 }) (n - 20) (c - 20)) :: (Value.int IntKind.u32 ↑s1) :: (Value.slice (some { block := g, off := off }) n c) :: (Value.slice (some { block := g, off := off }) 20 c) :: (Value.int IntKind.u32 ↑s2) :: (Value.bool false) :: (Value.bool false) :: (Value.bool false) :: (Value.int IntKind.i64 ↑ln) :: (Value.bool false) :: (Value.bool false) :: (Value.bool false) :: (Value.slice (some { block := g, off := off }) n c) :: (Value.pointer (some { block := g, off := off + 2 })) :: (Value.int IntKind.u8 ↑x2) :: (Value.bool ((x2 : Int) == 1)) :: (Value.bool ((x2 : Int) == 1)) :: (v60) :: (v61) :: (Value.bool false) :: (Value.bool false) :: (undef) :: (Value.int IntKind.i64 ↑ln) :: (Value.int IntKind.i64 ↑m) :: (Value.slice (some { block := g, off := off }) n c) :: (Value.int IntKind.i64 ↑n) :: (Value.int IntKind.i64 ↑m) :: (Value.bool false) :: (undef) :: (Value.slice (some { block := g, off := off }) n c) :: (Value.slice (some { block := g, off := off + 4 }) (n - 4) (c - 4)) :: (Value.int IntKind.u64 ↑kv) :: (Value.slice (some { block := g, off := off }) n c) :: (Value.slice (some { block := g, off := off + 12 }) (n - 12) (c - 12)) :: (Value.int IntKind.u32 ↑cv) :: (Value.slice (some { block := g, off := off }) n c) :: (Value.pointer (some { block := g, off := off + 2 })) :: (Value.int IntKind.u8 ↑x2) :: (Value.bool ((x2 : Int) == 1)) :: (Value.agg #[.int .u64 (kv : Int), .int .u32 (cv : Int), .bool ((x2 : Int) == 1), .slice none 0 0]) :: (undef) :: (undef) :: (undef) :: (undef) :: (undef) :: (undef) :: (undef) :: (undef) :: (undef) :: (undef) :: (undef) :: (undef) :: (undef) :: (undef) :: (undef) :: (undef) :: (undef) :: (undef) :: (undef) :: (undef) :: (undef) :: (undef) :: (undef) :: (undef) :: (undef) :: (undef) :: (undef) :: (undef) :: (undef) :: (undef) :: (undef) :: (undef) :: (undef) :: (undef) :: (undef) :: (undef) :: []), defers := [] } ∧ RDec w u g off n c b ∧ Blk u (w.heap.size + 1) 26 g7 [.int .u64 (kv : Int), .int .u32 (cv : Int), .bool ((x2 : Int) == 1), .slice none 0 0]) ?reg ?rest
  case reg =>
    refine heldT_top (fun W' => W'.cell? ⟨g, off + 2, none⟩ = some (.int .u8 (x2 : Int))) 13 #[false, false, false, false, false, false, false, false, false, false, false, false, false] (by kernel_rfl) (by kernel_rfl) (by kernel_rfl) ?_
    have RU := hide (R9.out.drawn 1)
    have hHeld : (V9.drewN 1).cell? ⟨g, off + 2, none⟩ = some (.int .u8 (x2 : Int)) := z2
    clear R9 z2
    change wpAnyH _ _ _ _ _ _ _ _ (V9.drewN 1)
    generalize V9.drewN 1 = U0 at RU hHeld ⊢
    refine' wpAnyH_take (i := 0) (oi := ⟨_, _, _, _, _, _⟩) (v := _) rfl (by kernel_rfl) (by kernel_rfl) (by kernel_rfl) (fun _ _ _ h => by cases h.1) (Or.inl ⟨rfl, ?_⟩) hHeld ?_
    rotate_left
    · (intro W' hW; (try dsimp only at hW); go_simp; (try with_reducible rfl))
    try simp only [Act.put, List.setIfInBounds_toArray, List.set_cons_zero, List.set_cons_succ]
    refine' wpAnyH_take (i := 1) (oi := ⟨_, _, _, _, _, _⟩) (v := _) rfl (by kernel_rfl) (by kernel_rfl) (by kernel_rfl) (fun _ _ _ h => by cases h.1) (Or.inl ⟨rfl, ?_⟩) hHeld ?_
    rotate_left
    · (intro W' hW; (try dsimp only at hW); go_simp; (try with_reducible rfl))
    try simp only [Act.put, List.setIfInBounds_toArray, List.set_cons_zero, List.set_cons_succ]
    refine' wpAnyH_take (i := 3) (oi := ⟨_, _, _, _, _, _⟩) (v := _) rfl (by kernel_rfl) (by kernel_rfl) (by kernel_rfl) (fun _ _ _ h => by cases h.1) (Or.inl ⟨rfl, ?_⟩) hHeld ?_
    rotate_left
    · (intro W' hW; (try dsimp only at hW); go_simp; (try with_reducible rfl))
    try simp only [Act.put, List.setIfInBounds_toArray, List.set_cons_zero, List.set_cons_succ]
    refine' wpAnyH_take (i := 4) (oi := ⟨_, _, _, _, _, _⟩) (v := _) rfl (by kernel_rfl) (by kernel_rfl) (by kernel_rfl) (fun _ _ _ h => by cases h.1) (Or.inl ⟨rfl, ?_⟩) hHeld ?_
    rotate_left
    · (intro W' hW; (try dsimp only at hW); go_simp; (try with_reducible rfl))
    try simp only [Act.put, List.setIfInBounds_toArray, List.set_cons_zero, List.set_cons_succ]
    refine' wpAnyH_take (i := 6) (oi := ⟨_, _, _, _, _, _⟩) (v := _) rfl (by kernel_rfl) (by kernel_rfl) (by kernel_rfl) (fun _ _ _ h => by cases h.1) (Or.inl ⟨rfl, ?_⟩) hHeld ?_
    rotate_left
    · (intro W' hW; (try dsimp only at hW); go_simp; (try with_reducible rfl))
    try simp only [Act.put, List.setIfInBounds_toArray, List.set_cons_zero, List.set_cons_succ]
    refine' wpAnyH_take (i := 7) (oi := ⟨_, _, _, _, _, _⟩) (v := _) rfl (by kernel_rfl) (by kernel_rfl) (by kernel_rfl) (fun _ _ _ h => by cases h.1) (Or.inl ⟨rfl, ?_⟩) hHeld ?_
    rotate_left
    · (intro W' hW; (try dsimp only at hW); go_simp; (try with_reducible rfl))
    try simp only [Act.put, List.setIfInBounds_toArray, List.set_cons_zero, List.set_cons_succ]
    refine' wpAnyH_take (i := 8) (oi := ⟨_, _, _, _, _, _⟩) (v := _) rfl (by kernel_rfl) (by kernel_rfl) (by kernel_rfl) (fun _ _ _ h => by cases h.1) (Or.inl ⟨rfl, ?_⟩) hHeld ?_
    rotate_left
    · (intro W' hW; (try dsimp only at hW); go_simp; (try with_reducible rfl))
    try simp only [Act.put, List.setIfInBounds_toArray, List.set_cons_zero, List.set_cons_succ]
    refine' wpAnyH_take (i := 9) (oi := ⟨_, _, _, _, _, _⟩) (v := _) rfl (by kernel_rfl) (by kernel_rfl) (by kernel_rfl) (fun _ _ _ h => by cases h.1) (Or.inl ⟨rfl, ?_⟩) hHeld ?_
    rotate_left
    · (intro W' hW; (try dsimp only at hW); go_simp; (try with_reducible rfl))
    try simp only [Act.put, List.setIfInBounds_toArray, List.set_cons_zero, List.set_cons_succ]
    refine heldT_two (i := 2) (j := 11) (by kernel_rfl) rfl rfl (fun K hK => ?_) (fun K hK => ?_)
    · go_simp
      go_at_call 29
      refine (rget64_any _ _ (n - 4) (c - 4) (b.drop 4) _ (RU.out.part 4 (by omega)).1 (RU.out.part 4 (by omega)).2.1 (by omega)).mono ?_
      rintro e v1 ⟨rfl, d1, rfl⟩
      rw [show foldV ((b.drop 4).take 8) = kv from KC.out.1.symm]
      have RU := hide (RU.out.drawn d1)
      clear hHeld
      generalize U0.drewN d1 = U1 at *
      have hHeld : U1.cell? ⟨g, off + 2, none⟩ = some (.int .u8 (x2 : Int)) := by have z := (RU.out.cell 2 (by omega)).1; rwa [show b.getD 2 0 = x2 from HX.out.2.2.1] at z
      refine hK.out _ _ hHeld ?_
      clear hK
      try simp only [List.setIfInBounds_toArray, List.set_cons_zero, List.set_cons_succ]
      refine heldT_two (i := 5) (j := 11) (by kernel_rfl) rfl rfl (fun K hK => ?_) (fun K hK => ?_)
      · go_simp
        go_at_call 28
        refine (rget32_any _ (n - 12) _ (b.drop 12) _ (by exact (RU.out.part 12 (by omega)).1.rd) (RU.out.part 12 (by omega)).2.2 (RU.out.part 12 (by omega)).2.1 (by omega) (by omega)).mono ?_
        rintro e v2 ⟨rfl, d2, rfl⟩
        rw [show val32 (b.drop 12) = cv from KC.out.2.symm]
        have RU := hide (RU.out.drawn d2)
        clear hHeld
        generalize U1.drewN d2 = U2 at *
        have hHeld : U2.cell? ⟨g, off + 2, none⟩ = some (.int .u8 (x2 : Int)) := by have z := (RU.out.cell 2 (by omega)).1; rwa [show b.getD 2 0 = x2 from HX.out.2.2.1] at z
        refine hK.out _ _ hHeld ?_
        clear hK
        try simp only [List.setIfInBounds_toArray, List.set_cons_zero, List.set_cons_succ]
        refine' wpAnyH_take (i := 10) (oi := ⟨_, _, _, _, _, _⟩) (v := _) rfl (by kernel_rfl) (by kernel_rfl) (by kernel_rfl) (fun _ _ _ h => by cases h.1) (Or.inl ⟨rfl, ?_⟩) hHeld ?_
        rotate_left
        · (intro W' hW; (try dsimp only at hW); go_simp; (try with_reducible rfl))
        try simp only [Act.put, List.setIfInBounds_toArray, List.set_cons_zero, List.set_cons_succ]
        refine heldT_one (i := 11) (by kernel_rfl) rfl (fun K hK => ?_)
        go_simp
        have NB := hide (Blk.new U2 (B := w.heap.size + 1) 26 #[.int .u64 0, .int .u32 0, .bool false, .slice none 0 0] RU.out.ans.lt)
        have RU := hide (RU.out.keep (below_alloc U2 (.cells #[.int .u64 0, .int .u32 0, .bool false, .slice none 0 0] 26)))
        obtain ⟨g7, hg7⟩ : ∃ g, g = U2.heap.size := ⟨_, rfl⟩
        rw [← hg7] at NB ⊢
        clear hHeld hg7
        generalize U2.alloc (.cells #[.int .u64 0, .int .u32 0, .bool false, .slice none 0 0] 26) = U3 at *
        have hHeld : U3.cell? ⟨g, off + 2, none⟩ = some (.int .u8 (x2 : Int)) := by have z := (RU.out.cell 2 (by omega)).1; rwa [show b.getD 2 0 = x2 from HX.out.2.2.1] at z
        refine hK.out _ _ hHeld ?_
        clear hK
        try simp only [List.setIfInBounds_toArray, List.set_cons_zero, List.set_cons_succ]
        refine heldT_one (i := 12) (by kernel_rfl) rfl (fun K hK => ?_)
        have a0 := NB.out.cell 0
        have a1 := NB.out.cell 1
        have a2 := NB.out.cell 2
        have a3 := NB.out.cell 3
        have g0 := NB.out.frozen 0
        have g1 := NB.out.frozen 1
        have g2 := NB.out.frozen 2
        have g3 := NB.out.frozen 3
        dsimp only [List.getElem?_cons_succ, List.getElem?_cons_zero] at a0 a1 a2 a3
        have hput := put4_ NB.out (.int .u64 (kv : Int)) (.int .u32 (cv : Int)) (.bool ((x2 : Int) == 1)) (.slice none 0 0) _ rfl
        have HPU := hide hput
        clear hput
        go_simp
        clear a0 a1 a2 a3 g0 g1 g2 g3 hHeld
        obtain ⟨hb9, _, _, kb9⟩ := HPU.out
        clear HPU NB
        generalize (((U3.setCell ⟨g7, 0, none⟩ (.int .u64 (kv : Int))).setCell ⟨g7, 1, none⟩ (.int .u32 (cv : Int))).setCell ⟨g7, 2, none⟩ (.bool ((x2 : Int) == 1))).setCell ⟨g7, 3, none⟩ (.slice none 0 0) = X at hb9 kb9 ⊢
        have RU := hide (RU.out.turned kb9)
        have hHeld : X.cell? ⟨g, off + 2, none⟩ = some (.int .u8 (x2 : Int)) := by have z := (RU.out.cell 2 (by omega)).1; rwa [show b.getD 2 0 = x2 from HX.out.2.2.1] at z
        refine hK.out _ _ hHeld ?_
        clear hK
        try simp only [List.setIfInBounds_toArray, List.set_cons_zero, List.set_cons_succ]
        exact wpAnyH_done (by kernel_rfl) ⟨rfl, g7, rfl, RU.out, hb9⟩ _
      · go_simp
        have NB := hide (Blk.new U1 (B := w.heap.size + 1) 26 #[.int .u64 0, .int .u32 0, .bool false, .slice none 0 0] RU.out.ans.lt)
        have RU := hide (RU.out.keep (below_alloc U1 (.cells #[.int .u64 0, .int .u32 0, .bool false, .slice none 0 0] 26)))
        obtain ⟨g7, hg7⟩ : ∃ g, g = U1.heap.size := ⟨_, rfl⟩
        rw [← hg7] at NB ⊢
        clear hHeld hg7
        generalize U1.alloc (.cells #[.int .u64 0, .int .u32 0, .bool false, .slice none 0 0] 26) = U2 at *
        have hHeld : U2.cell? ⟨g, off + 2, none⟩ = some (.int .u8 (x2 : Int)) := by have z := (RU.out.cell 2 (by omega)).1; rwa [show b.getD 2 0 = x2 from HX.out.2.2.1] at z
        refine hK.out _ _ hHeld ?_
        clear hK
        try simp only [List.setIfInBounds_toArray, List.set_cons_zero, List.set_cons_succ]
        refine heldT_one (i := 5) (by kernel_rfl) rfl (fun K hK => ?_)
        go_simp
        go_at_call 28
        refine (rget32_any _ (n - 12) _ (b.drop 12) _ (by exact (RU.out.part 12 (by omega)).1.rd) (RU.out.part 12 (by omega)).2.2 (RU.out.part 12 (by omega)).2.1 (by omega) (by omega)).mono ?_
        rintro e v2 ⟨rfl, d2, rfl⟩
        rw [show val32 (b.drop 12) = cv from KC.out.2.symm]
        have RU := hide (RU.out.drawn d2)
        have NB := hide (NB.out.drewN d2)
        clear hHeld
        generalize U2.drewN d2 = U3 at *
        have hHeld : U3.cell? ⟨g, off + 2, none⟩ = some (.int .u8 (x2 : Int)) := by have z := (RU.out.cell 2 (by omega)).1; rwa [show b.getD 2 0 = x2 from HX.out.2.2.1] at z
        refine hK.out _ _ hHeld ?_
        clear hK
        try simp only [List.setIfInBounds_toArray, List.set_cons_zero, List.set_cons_succ]
        refine' wpAnyH_take (i := 10) (oi := ⟨_, _, _, _, _, _⟩) (v := _) rfl (by kernel_rfl) (by kernel_rfl) (by kernel_rfl) (fun _ _ _ h => by cases h.1) (Or.inl ⟨rfl, ?_⟩) hHeld ?_
        rotate_left
        · (intro W' hW; (try dsimp only at hW); go_simp; (try with_reducible rfl))
        try simp only [Act.put, List.setIfInBounds_toArray, List.set_cons_zero, List.set_cons_succ]
        refine heldT_one (i := 12) (by kernel_rfl) rfl (fun K hK => ?_)
        have a0 := NB.out.cell 0
        have a1 := NB.out.cell 1
        have a2 := NB.out.cell 2
        have a3 := NB.out.cell 3
        have g0 := NB.out.frozen 0
        have g1 := NB.out.frozen 1
        have g2 := NB.out.frozen 2
        have g3 := NB.out.frozen 3
        dsimp only [List.getElem?_cons_succ, List.getElem?_cons_zero] at a0 a1 a2 a3
        have hput := put4_ NB.out (.int .u64 (kv : Int)) (.int .u32 (cv : Int)) (.bool ((x2 : Int) == 1)) (.slice none 0 0) _ rfl
        have HPU := hide hput
        clear hput
        go_simp
        clear a0 a1 a2 a3 g0 g1 g2 g3 hHeld
        obtain ⟨hb9, _, _, kb9⟩ := HPU.out
        clear HPU NB
        generalize (((U3.setCell ⟨g7, 0, none⟩ (.int .u64 (kv : Int))).setCell ⟨g7, 1, none⟩ (.int .u32 (cv : Int))).setCell ⟨g7, 2, none⟩ (.bool ((x2 : Int) == 1))).setCell ⟨g7, 3, none⟩ (.slice none 0 0) = X at hb9 kb9 ⊢
        have RU := hide (RU.out.turned kb9)
        have hHeld : X.cell? ⟨g, off + 2, none⟩ = some (.int .u8 (x2 : Int)) := by have z := (RU.out.cell 2 (by omega)).1; rwa [show b.getD 2 0 = x2 from HX.out.2.2.1] at z
        refine hK.out _ _ hHeld ?_
        clear hK
        try simp only [List.setIfInBounds_toArray, List.set_cons_zero, List.set_cons_succ]
        exact wpAnyH_done (by kernel_rfl) ⟨rfl, g7, rfl, RU.out, hb9⟩ _
    · go_simp
      have NB := hide (Blk.new U0 (B := w.heap.size + 1) 26 #[.int .u64 0, .int .u32 0, .bool false, .slice none 0 0] RU.out.ans.lt)
      have RU := hide (RU.out.keep (below_alloc U0 (.cells #[.int .u64 0, .int .u32 0, .bool false, .slice none 0 0] 26)))
      obtain ⟨g7, hg7⟩ : ∃ g, g = U0.heap.size := ⟨_, rfl⟩
      rw [← hg7] at NB ⊢
      clear hHeld hg7
      generalize U0.alloc (.cells #[.int .u64 0, .int .u32 0, .bool false, .slice none 0 0] 26) = U1 at *
      have hHeld : U1.cell? ⟨g, off + 2, none⟩ = some (.int .u8 (x2 : Int)) := by have z := (RU.out.cell 2 (by omega)).1; rwa [show b.getD 2 0 = x2 from HX.out.2.2.1] at z
      refine hK.out _ _ hHeld ?_
      clear hK
      try simp only [List.setIfInBounds_toArray, List.set_cons_zero, List.set_cons_succ]
      refine heldT_one (i := 2) (by kernel_rfl) rfl (fun K hK => ?_)
      go_simp
      go_at_call 29
      refine (rget64_any _ _ (n - 4) (c - 4) (b.drop 4) _ (RU.out.part 4 (by omega)).1 (RU.out.part 4 (by omega)).2.1 (by omega)).mono ?_
      rintro e v1 ⟨rfl, d1, rfl⟩
      rw [show foldV ((b.drop 4).take 8) = kv from KC.out.1.symm]
      have RU := hide (RU.out.drawn d1)
      have NB := hide (NB.out.drewN d1)
      clear hHeld
      generalize U1.drewN d1 = U2 at *
      have hHeld : U2.cell? ⟨g, off + 2, none⟩ = some (.int .u8 (x2 : Int)) := by have z := (RU.out.cell 2 (by omega)).1; rwa [show b.getD 2 0 = x2 from HX.out.2.2.1] at z
      refine hK.out _ _ hHeld ?_
      clear hK
      try simp only [List.setIfInBounds_toArray, List.set_cons_zero, List.set_cons_succ]
      refine heldT_one (i := 5) (by kernel_rfl) rfl (fun K hK => ?_)
      go_simp
      go_at_call 28
      refine (rget32_any _ (n - 12) _ (b.drop 12) _ (by exact (RU.out.part 12 (by omega)).1.rd) (RU.out.part 12 (by omega)).2.2 (RU.out.part 12 (by omega)).2.1 (by omega) (by omega)).mono ?_
      rintro e v2 ⟨rfl, d2, rfl⟩
      rw [show val32 (b.drop 12) = cv from KC.out.2.symm]
      have RU := hide (RU.out.drawn d2)
      have NB := hide (NB.out.drewN d2)
      clear hHeld
      generalize U2.drewN d2 = U3 at *
      have hHeld : U3.cell? ⟨g, off + 2, none⟩ = some (.int .u8 (x2 : Int)) := by have z := (RU.out.cell 2 (by omega)).1; rwa [show b.getD 2 0 = x2 from HX.out.2.2.1] at z
      refine hK.out _ _ hHeld ?_
      clear hK
      try simp only [List.setIfInBounds_toArray, List.set_cons_zero, List.set_cons_succ]
      refine' wpAnyH_take (i := 10) (oi := ⟨_, _, _, _, _, _⟩) (v := _) rfl (by kernel_rfl) (by kernel_rfl) (by kernel_rfl) (fun _ _ _ h => by cases h.1) (Or.inl ⟨rfl, ?_⟩) hHeld ?_
      rotate_left
      · (intro W' hW; (try dsimp only at hW); go_simp; (try with_reducible rfl))
      try simp only [Act.put, List.setIfInBounds_toArray, List.set_cons_zero, List.set_cons_succ]
      refine heldT_one (i := 12) (by kernel_rfl) rfl (fun K hK => ?_)
      have a0 := NB.out.cell 0
      have a1 := NB.out.cell 1
      have a2 := NB.out.cell 2
      have a3 := NB.out.cell 3
      have g0 := NB.out.frozen 0
      have g1 := NB.out.frozen 1
      have g2 := NB.out.frozen 2
      have g3 := NB.out.frozen 3
      dsimp only [List.getElem?_cons_succ, List.getElem?_cons_zero] at a0 a1 a2 a3
      have hput := put4_ NB.out (.int .u64 (kv : Int)) (.int .u32 (cv : Int)) (.bool ((x2 : Int) == 1)) (.slice none 0 0) _ rfl
      have HPU := hide hput
      clear hput
      go_simp
      clear a0 a1 a2 a3 g0 g1 g2 g3 hHeld
      obtain ⟨hb9, _, _, kb9⟩ := HPU.out
      clear HPU NB
      generalize (((U3.setCell ⟨g7, 0, none⟩ (.int .u64 (kv : Int))).setCell ⟨g7, 1, none⟩ (.int .u32 (cv : Int))).setCell ⟨g7, 2, none⟩ (.bool ((x2 : Int) == 1))).setCell ⟨g7, 3, none⟩ (.slice none 0 0) = X at hb9 kb9 ⊢
      have RU := hide (RU.out.turned kb9)
      have hHeld : X.cell? ⟨g, off + 2, none⟩ = some (.int .u8 (x2 : Int)) := by have z := (RU.out.cell 2 (by omega)).1; rwa [show b.getD 2 0 = x2 from HX.out.2.2.1] at z
      refine hK.out _ _ hHeld ?_
      clear hK
      try simp only [List.setIfInBounds_toArray, List.set_cons_zero, List.set_cons_succ]
      exact wpAnyH_done (by kernel_rfl) ⟨rfl, g7, rfl, RU.out, hb9⟩ _
  case rest =>
    rintro e a' u ⟨rfl, g7, rfl, ru, nb⟩
    have hlt7 : b0 < g7 := by have := nb.1; rw [HB.out.2]; omega
    have RU := hide ru
    have NB := hide nb
    obtain ⟨p, hp⟩ : ∃ p : Nat, p = 24 + ln := ⟨_, rfl⟩
    obtain ⟨q, hq⟩ : ∃ q : Nat, q = 28 + ln := ⟨_, rfl⟩
    obtain ⟨bz, hz0, hz1, hz2⟩ := tail_test (b := b) (ln := ln) (m := m) (p := p) (q := q) HLN.out.symm hle HM.out (by rw [RU.out.len]; omega) RU.out.byte hp hq
    have HZ := hide (And.intro hz1 hz2)
    obtain ⟨data, hdata⟩ : ∃ d, d = (b.drop 24).take ln := ⟨_, rfl⟩
    rw [← hdata] at hz0
    obtain ⟨v1, hv1⟩ : ∃ v, v = val32 (b.drop p) := ⟨_, rfl⟩
    obtain ⟨v2, hv2⟩ : ∃ v, v = sumS data := ⟨_, rfl⟩
    rw [← hv1, ← hv2] at hz0
    have HZ0 := hide hz0
    have hpz : (24 : Int) + (ln : Int) = (p : Int) := by omega
    have hqz : (28 : Int) + (ln : Int) = (q : Int) := by omega
    have hpc : ¬ (c = p) := by omega
    have hp2 : p ≤ m ∧ 24 ≤ p ∧ p - 24 = ln ∧ p ≤ c ∧ p ≤ n ∧ q ≤ m ∧ p + 4 ≤ n := by omega
    obtain ⟨hp3, hp4, hp5, hp6, hp7, hq3, hp8⟩ := hp2
    have hc24 : ¬ (c = 24) := by omega
    have ID : Hid (IsB u (.slice (some ⟨g, off + 24, none⟩) ln (c - 24)) data) := hide (by
      have h9 := ((RU.out.part 24 (by omega)).1).take ln (by omega)
      rwa [← hdata] at h9)
    have DD : Hid (ln = data.length ∧ ∀ x ∈ data, x < 256) := hide ⟨by rw [hdata, List.length_take, List.length_drop, RU.out.len]; omega, fun x hx => RU.out.byte x (List.mem_of_mem_drop (List.mem_of_mem_take (by rw [← hdata]; exact hx)))⟩
    have HVV := hide (And.intro hv1 hv2)
    have HDT := hide hdata
    have HPQ := hide (And.intro hp hq)
    clear hp hq hz0 hz1 hz2 hdata hv1 hv2 ru nb z2 R9
    go_wp2_with fail
    refine (rget32_any _ (n - p) _ (b.drop p) _ (by exact (RU.out.part p (by omega)).1.rd) (RU.out.part p (by omega)).2.2 (RU.out.part p (by omega)).2.1 (by omega) (by omega)).mono ?_
    rintro e v3 ⟨rfl, d3, rfl⟩
    rw [← HVV.out.1]
    have RU := hide (RU.out.drawn d3)
    have NB := hide (NB.out.drewN d3)
    have ID : Hid (IsB (u.drewN d3) (.slice (some ⟨g, off + 24, none⟩) ln (c - 24)) data) := ID
    generalize u.drewN d3 = u1 at RU NB ID ⊢
    go_wp2_with fail
    refine (rsum_any _ ln _ data _ (by exact ID.out.rd) DD.out.1 DD.out.2 (by omega)).mono ?_
    rintro e v4 ⟨rfl, k4⟩
    rw [← HVV.out.2]
    have RU := hide (RU.out.keep k4)
    have NB := hide (NB.out.keep k4)
    have ID := hide (ID.out.keep k4)
    clear k4
    go_wp2_with fail
    go_loop [9, 10] (fun s i => ∃ k : Nat, q ≤ k ∧ k ≤ m ∧ i = .int .i64 (k : Int) ∧ s = .bool (bz k)) (fun _ i => m - (intOf i).toNat)
    case atStart => exact ⟨q, Nat.le_refl _, hq3, rfl, by rw [HZ0.out]⟩
    case round =>
      obtain ⟨k, hk0, hk, rfl, rfl⟩ := hrel
      by_cases hlt : k < m
      · have hst := HZ.out.1 k hk0 hlt
        have ck := (RU.out.cell k (by omega)).1
        obtain ⟨y, hy⟩ : ∃ y, y = b.getD k 0 := ⟨_, rfl⟩
        rw [← hy] at ck hst
        clear hy
        have hkn : (k : Int) < (n : Int) := by omega
        have HST := hide hst
        clear hst
        rcases hbk : bz k
        · rw [hbk] at HST
          by_cases hy0 : ((y : Int) != 0) = true
          · have HS2 := hide (HST.out.trans (by rw [hy0]; rfl : _ = true))
            clear hbk HST
            go_wp2_with fail
            go_round
            case rel => exact ⟨k + 1, by omega, by omega, by go_num, by rw [HS2.out]⟩
            case measure => simp [intOf]; omega
          · rw [Bool.not_eq_true] at hy0
            have HS2 := hide (HST.out.trans (by rw [hy0]; rfl : _ = false))
            clear hbk HST
            go_wp2_with fail
            go_round
            case rel => exact ⟨k + 1, by omega, by omega, by go_num, by rw [HS2.out]⟩
            case measure => simp [intOf]; omega
        · rw [hbk] at HST
          have HS2 := hide (HST.out.trans (Bool.true_or _))
          clear hbk HST
          go_wp2_with fail
          go_round
          case rel => exact ⟨k + 1, by omega, by omega, by go_num, by rw [HS2.out]⟩
          case measure => simp [intOf]; omega
      · obtain rfl : m = k := by omega
        have hbz : bz m = !t := by rw [HZ.out.2, HTT.out]
        rw [hbz]
        clear hbz hlt
        have AN := hide RU.out.ans
        have KB := hide RU.out.below
        rw [← HB.out.2] at AN
        obtain ⟨w3, hw3⟩ : ∃ W, W = v4 := ⟨_, rfl⟩
        rw [← hw3] at AN KB NB ID ⊢
        clear hw3 RU
        have hne2 : g7 ≠ b0 := by omega
        have hne : b0 ≠ g7 := by omega
        have a0 := AN.out.cell 0
        have a1 := AN.out.cell 1
        have a2 := AN.out.cell 2
        have a3 := AN.out.cell 3
        have g0 := AN.out.frozen 0
        have g1 := AN.out.frozen 1
        have g2 := AN.out.frozen 2
        have g3 := AN.out.frozen 3
        dsimp only [List.getElem?_cons_succ, List.getElem?_cons_zero] at a0 a1 a2 a3
        have e0 := NB.out.cell 0
        have e1 := NB.out.cell 1
        have e2 := NB.out.cell 2
        have e3 := NB.out.cell 3
        have y0 := NB.out.frozen 0
        have y1 := NB.out.frozen 1
        have y2 := NB.out.frozen 2
        have y3 := NB.out.frozen 3
        dsimp only [List.getElem?_cons_succ, List.getElem?_cons_zero] at e0 e1 e2 e3
        rcases t
        · have hput := put4_ AN.out (.int .u64 (kv : Int)) (.int .u32 (cv : Int)) (.bool ((x2 : Int) == 1)) (.slice none 0 0) _ rfl
          have HPU := hide hput
          clear hput
          go_wp2_with fail
          obtain ⟨hb9, _, _, kb9⟩ := HPU.out
          generalize (((w3.setCell ⟨b0, 0, none⟩ (.int .u64 (kv : Int))).setCell ⟨b0, 1, none⟩ (.int .u32 (cv : Int))).setCell ⟨b0, 2, none⟩ (.bool ((x2 : Int) == 1))).setCell ⟨b0, 3, none⟩ (.slice none 0 0) = X at hb9 kb9 ⊢
          have q0 := hb9.cell 0
          have q1 := hb9.cell 1
          have q2 := hb9.cell 2
          have q3 := hb9.cell 3
          dsimp only [List.getElem?_cons_succ, List.getElem?_cons_zero] at q0 q1 q2 q3
          rw [← KC.out.1, ← KC.out.2, hDead_int, show b.getD 2 0 = x2 from HX.out.2.2.1, ← HLN.out, ← HM.out]
          refine bodyPost_ret (v := .tuple #[.agg #[.int .u64 (kv : Int), .int .u32 (cv : Int), .bool ((x2 : Int) == 1), .slice none 0 0], .int .i64 (m : Int), .int .i64 4]) (by simp [results, Try.results16, go_sem, q0, q1, q2, q3]) rfl ⟨_, rfl, World.ownsRow_nil _ _ _ _, ?_⟩
          exact KB.out.trans (by rw [← HB.out.2]; exact kb9)
        · go_wp2_with (at_builtin; refine halt ?_)
          refine ⟨?_⟩
          have LW3 : Hid (w.heap.size ≤ w3.heap.size) := hide KB.out.size
          have kW := below_alloc w3 (.cells #[] 5)
          refine wpList_append_bytes rfl (.tmp 113) (.tmp 114) rfl w3.heap.size _ [] rfl (own_lit w3 #[] [] rfl (by decide)) _ data rfl (ID.out.keep kW) (by rw [DD.out.1.symm, List.length_nil]; omega) kW.size ?_
          intro s5 w5 o5 k5
          have k5 := kW.trans k5
          rw [List.nil_append] at o5
          obtain ⟨A5, c5, rfl, i5, _, _⟩ := o5.isB.form (n := ln) DD.out.1.symm
          have AN5 := hide (AN.out.keep k5)
          have NB5 := hide (NB.out.keep k5)
          have K5 := hide (below_step KB.out k5)
          have O5 := hide o5
          have hst := NB5.out.stored 3 (.slice A5 ln c5)
          have han := AN5.out.kept (grown_set w5 g7 3 (.slice A5 ln c5)) (by intro e; exact hne2 (Option.some.inj e))
          have hput := put4_ han (.int .u64 (kv : Int)) (.int .u32 (cv : Int)) (.bool ((x2 : Int) == 1)) (.slice A5 ln c5) _ rfl
          have HPU := hide hput
          have LT5 : Hid (b0 < w3.heap.size ∧ g7 < w3.heap.size) := hide ⟨AN.out.lt, NB.out.lt⟩
          clear a0 a1 a2 a3 g0 g1 g2 g3 e0 e1 e2 e3 y0 y1 y2 y3 o5 i5 k5 hst han hput
          have a0 := AN5.out.cell 0
          have a1 := AN5.out.cell 1
          have a2 := AN5.out.cell 2
          have a3 := AN5.out.cell 3
          have g0 := AN5.out.frozen 0
          have g1 := AN5.out.frozen 1
          have g2 := AN5.out.frozen 2
          have g3 := AN5.out.frozen 3
          dsimp only [List.getElem?_cons_succ, List.getElem?_cons_zero] at a0 a1 a2 a3
          have e0 := NB5.out.cell 0
          have e1 := NB5.out.cell 1
          have e2 := NB5.out.cell 2
          have e3 := NB5.out.cell 3
          have y0 := NB5.out.frozen 0
          have y1 := NB5.out.frozen 1
          have y2 := NB5.out.frozen 2
          have y3 := NB5.out.frozen 3
          dsimp only [List.getElem?_cons_succ, List.getElem?_cons_zero] at e0 e1 e2 e3
          go_wp2_with fail
          obtain ⟨hb9, hh9, _, kb9⟩ := HPU.out
          generalize (((((w5.setCell ⟨g7, 3, none⟩ (.slice A5 ln c5)).setCell ⟨b0, 0, none⟩ (.int .u64 (kv : Int))).setCell ⟨b0, 1, none⟩ (.int .u32 (cv : Int))).setCell ⟨b0, 2, none⟩ (.bool ((x2 : Int) == 1))).setCell ⟨b0, 3, none⟩ (.slice A5 ln c5)) = X at hb9 hh9 kb9 ⊢
          have kB5 : Below b0 w5 (w5.setCell ⟨g7, 3, none⟩ (.slice A5 ln c5)) := by
            have h0 : Below b0 w5 w5 := Below.refl _ _
            have hle : b0 ≤ (⟨g7, 3, none⟩ : Addr).block := Nat.le_of_lt hlt7
            exact h0.setCell hle _
          have kAll := kB5.trans kb9
          have ho : Own X w.heap.size (.slice A5 ln c5) data := by
            have tt : Turn (fun k => k = b0 ∨ k = g7) w5 X := ⟨kAll.os, kAll.tape, kAll.output, kAll.size, fun k _ hn => by
              rw [hh9 k (fun e => hn (.inl e))]
              exact heap_setCell_other w5 ⟨g7, 3, none⟩ k _ (fun e => hn (.inr (by simp at e; exact e)))⟩
            have h9 := O5.out.turn tt (fun q hq hS => by
              have := O5.out.lt q hq
              have h8 := LT5.out
              rcases hS with rfl | rfl <;> omega)
            exact h9.more LW3.out
          have q0 := hb9.cell 0
          have q1 := hb9.cell 1
          have q2 := hb9.cell 2
          have q3 := hb9.cell 3
          dsimp only [List.getElem?_cons_succ, List.getElem?_cons_zero] at q0 q1 q2 q3
          rw [← KC.out.1, ← KC.out.2, hDead_int, show b.getD 2 0 = x2 from HX.out.2.2.1, ← HLN.out, ← HM.out]
          refine bodyPost_ret (v := .tuple #[.agg #[.int .u64 (kv : Int), .int .u32 (cv : Int), .bool ((x2 : Int) == 1), .slice A5 ln c5], .int .i64 (m : Int), .int .i64 0]) (by simp [results, Try.results16, go_sem, q0, q1, q2, q3]) rfl ⟨_, rfl, ?_, ?_⟩
          · rw [← HDT.out]
            exact ho
          · exact K5.out.trans (by rw [← HB.out.2]; exact kAll)
end Go.Proofs.Ytkgkhielfodmmaa
