/- The contract of needle.read where the head's length may not be: it says no. No condition but the widths. -/
import Derived.Test.YtkgkhielfodmmaaNdRead
namespace Go.Proofs.Ytkgkhielfodmmaa
open Go.RowKit
set_option maxRecDepth 100000 in
set_option maxHeartbeats 3200000 in
theorem read_bad (H : List Nat) (w : World) (hl : H.length = 24) (hb : ∀ x ∈ H, x < 256) (ho : ¬ (hLen H ≤ 65536 ∧ ¬ (hDead H = true ∧ 0 < hLen H))) :
    Calls Try.prog 26 #[.agg (u8s H).toArray] w fun e w' => e = .returned (.tuple #[.agg #[.int .u64 0, .int .u32 0, .bool false, .slice none 0 0], .int .i64 0, .bool false]) ∧ Below w.heap.size w w' := by
  obtain ⟨C, hC⟩ : ∃ C, C = (u8s H).toArray := ⟨_, rfl⟩
  rw [← hC]
  have HC := hide hC
  clear hC
  have hkl := hKey_lt hb
  have hcl := hCook_lt hb
  obtain ⟨key, hkey⟩ : ∃ k, k = hKey H := ⟨_, rfl⟩
  obtain ⟨cook, hcook⟩ : ∃ k, k = hCook H := ⟨_, rfl⟩
  obtain ⟨len, hlen⟩ : ∃ k, k = hLen H := ⟨_, rfl⟩
  obtain ⟨d, hd⟩ : ∃ d, d = hDead H := ⟨_, rfl⟩
  rw [← hkey] at hkl
  rw [← hcook] at hcl
  rw [← hlen, ← hd] at ho
  obtain ⟨q, hq⟩ : ∃ q : Bool, q = true := ⟨_, rfl⟩
  obtain ⟨y, hy⟩ : ∃ y, y = H.getD 2 0 := ⟨_, rfl⟩
  have hyd : ((y : Int) == 1) = d := by
    rw [hd, hy]
    unfold hDead
    by_cases h : H.getD 2 0 = 1
    · rw [h]; rfl
    · have e1 : (H.getD 2 0 == 1) = false := by simpa using h
      rw [e1]
      simp only [beq_eq_false_iff_ne, ne_eq]
      omega
  have HL := hide hl
  have HB := hide hb
  have HE := hide (And.intro hkey (And.intro hcook (And.intro hlen (And.intro hd (And.intro hq hy)))))
  have B4 : Hid (∀ x ∈ H.drop 4, x < 256) := hide (fun x hx => hb x (List.mem_of_mem_drop hx))
  have B12 : Hid (∀ x ∈ H.drop 12, x < 256) := hide (fun x hx => hb x (List.mem_of_mem_drop hx))
  have B16 : Hid (∀ x ∈ H.drop 16, x < 256) := hide (fun x hx => hb x (List.mem_of_mem_drop hx))
  clear hl hb hkey hcook hlen hd hq hy
  have r0 := rdr_new w H C HC.out
  go_enter Try.func26, Try.ntmps26
  go_upto_region 2 with (fail)
  generalize (((w.alloc (.cells C 48)).alloc (.cells #[.int .u64 0, .int .u32 0, .bool false, .slice none 0 0] 26)).alloc (.cells #[.int .u64 0, .int .u32 0, .bool false, .slice none 0 0] 26)) = W at r0 ⊢
  obtain ⟨b5, hb5⟩ : ∃ b, b = w.heap.size + 1 + 1 := ⟨_, rfl⟩
  rw [← hb5] at r0 ⊢
  obtain ⟨b2, hb2⟩ : ∃ b, b = w.heap.size + 1 := ⟨_, rfl⟩
  rw [← hb2] at r0 ⊢
  obtain ⟨b1, hb1⟩ : ∃ b, b = w.heap.size := ⟨_, rfl⟩
  rw [← hb1] at r0 ⊢
  have HB1 := hide hb1
  clear hb5 hb2 hb1
  have x2 : W.cell? ⟨b1, 2, none⟩ = some (.int .u8 (y : Int)) := by
    rw [cell_of_row W b1 2 _ _ _ r0.head, u8s_at H 2 (by rw [HL.out]; decide), HE.out.2.2.2.2.2]
  have n2 := r0.ndl.cell 2
  have f2 := r0.ndl.frozen 2
  have R1 := hide (r0.put 2 (.bool d))
  clear r0
  dsimp only [List.getElem?_cons_succ, List.getElem?_cons_zero] at n2
  go_wp2_with fail
  generalize W.setCell ⟨b5, 2, none⟩ (.bool d) = W1 at R1 ⊢
  clear x2 n2 f2
  refine (get64_any (some ⟨b1, 4, none⟩) 20 20 (H.drop 4) W1 (R1.out.isB HL.out 4 20 rfl).rd (by rw [List.length_drop, HL.out]) B4.out (by decide) (by decide) (by decide)).mono ?_
  rintro e w1 ⟨rfl, rfl⟩
  rw [show foldV ((H.drop 4).take 8) = key from HE.out.1.symm]
  have n0 := R1.out.ndl.cell 0
  have f0 := R1.out.ndl.frozen 0
  have R2 := hide (R1.out.put 0 (.int .u64 (key : Int)))
  dsimp only [List.set_cons_succ, List.set_cons_zero, List.getElem?_cons_succ, List.getElem?_cons_zero] at n0
  go_wp2_with fail
  generalize W1.setCell ⟨b5, 0, none⟩ (.int .u64 (key : Int)) = W2 at R2 ⊢
  clear n0 f0 R1
  refine (get32_any (some ⟨b1, 12, none⟩) 12 12 (H.drop 12) W2 (R2.out.isB HL.out 12 12 rfl).rd (by rw [List.length_drop, HL.out]) B12.out (by decide) (by decide)).mono ?_
  rintro e w1 ⟨rfl, d2, rfl⟩
  rw [show val32 (H.drop 12) = cook from HE.out.2.1.symm]
  have n1 := R2.out.ndl.cell 1
  have f1 := R2.out.ndl.frozen 1
  dsimp only [List.set_cons_succ, List.set_cons_zero, List.getElem?_cons_succ, List.getElem?_cons_zero] at n1
  go_wp2_with fail
  generalize hW3 : (W2.drewN d2).setCell ⟨b5, 1, none⟩ (.int .u32 (cook : Int)) = W3
  have R3 : Hid (Rdr w W3 b1 b2 b5 H [.int .u64 (key : Int), .int .u32 (cook : Int), .bool d, .slice none 0 0]) := hide (by rw [← hW3]; exact (R2.out.drawn d2).put 1 (.int .u32 (cook : Int)))
  clear n1 f1 R2 hW3
  refine (get32_any (some ⟨b1, 16, none⟩) 8 8 (H.drop 16) W3 (R3.out.isB HL.out 16 8 rfl).rd (by rw [List.length_drop, HL.out]) B16.out (by decide) (by decide)).mono ?_
  rintro e w1 ⟨rfl, d3, rfl⟩
  rw [show val32 (H.drop 16) = len from HE.out.2.2.1.symm]
  have n2 := R3.out.ndl.cell 2
  dsimp only [List.set_cons_succ, List.set_cons_zero, List.getElem?_cons_succ, List.getElem?_cons_zero] at n2
  have hgo : (65536 : Int) < (len : Int) ∨ ¬ ((65536 : Int) < (len : Int)) ∧ d = true ∧ (0 : Int) < (len : Int) := by
    by_cases h1 : len ≤ 65536
    · refine .inr ⟨by omega, ?_⟩
      by_cases h2 : d = true ∧ 0 < len
      · exact ⟨h2.1, by omega⟩
      · exact absurd ⟨h1, h2⟩ ho
    · exact .inl (by omega)
  have R4 := hide (R3.out.drawn d3)
  have n2' := (R3.out.drawn d3).ndl.cell 2
  have hput := put4_ (R3.out.drawn d3).ans (.int .u64 0) (.int .u32 0) (.bool false) (.slice none 0 0) _ rfl
  generalize W3.drewN d3 = V at R4 hput n2' ⊢
  generalize hX : (((V.setCell ⟨b2, 0, none⟩ (.int .u64 0)).setCell ⟨b2, 1, none⟩ (.int .u32 0)).setCell ⟨b2, 2, none⟩ (.bool false)).setCell ⟨b2, 3, none⟩ (.slice none 0 0) = X at hput
  have HX := hide hX
  have HP := hide hput
  clear ho hyd hX hput n2
  dsimp only [List.set_cons_succ, List.set_cons_zero, List.getElem?_cons_succ, List.getElem?_cons_zero] at n2'
  have a0 := R4.out.ans.cell 0
  have a1 := R4.out.ans.cell 1
  have a2 := R4.out.ans.cell 2
  have a3 := R4.out.ans.cell 3
  have g0 := R4.out.ans.frozen 0
  have g1 := R4.out.ans.frozen 1
  have g2 := R4.out.ans.frozen 2
  have g3 := R4.out.ans.frozen 3
  dsimp only [List.getElem?_cons_succ, List.getElem?_cons_zero] at a0 a1 a2 a3
  have KF := hide (R4.out.below.trans HP.out.2.2.2)
  have q0 := HP.out.1.cell 0
  have q1 := HP.out.1.cell 1
  have q2 := HP.out.1.cell 2
  have q3 := HP.out.1.cell 3
  dsimp only [List.getElem?_cons_succ, List.getElem?_cons_zero] at q0 q1 q2 q3
  rcases hgo with hz | ⟨hz, rfl, hz2⟩
  all_goals
    go_wp2_with fail
    rw [HX.out]
    refine bodyPost_ret (v := .tuple #[.agg #[.int .u64 0, .int .u32 0, .bool false, .slice none 0 0], .int .i64 0, .bool false]) (by simp [results, Try.results26, go_sem, q0, q1, q2, q3]) rfl ⟨rfl, by rw [← HB1.out]; exact KF.out⟩
end Go.Proofs.Ytkgkhielfodmmaa
