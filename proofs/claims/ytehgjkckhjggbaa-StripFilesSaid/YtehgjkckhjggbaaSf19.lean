/- The document's own Read of a shard's file of the right form: the sum of the head, the numbers, the rows. -/
import Derived.Test.YtehgjkckhjggbaaSf18
import Derived.Test.YtehgjkckhjggbaaSf10
import Derived.Test.YtehgjkckhjggbaaSf5
import Derived.Test.YtehgjkckhjggbaaSf9
import Derived.Test.YtehgjkckhjggbaaSf7
namespace Go.Proofs.Ytehgjkckhjggbaa
open Go.RowKit
attribute [local go_sem] Oper.semAt_some
def AnyW (_ : World) : Prop := True
/-- A region behind which the frame is named by the first way through it. -/
theorem wp_frame {P : Program} {c : Code} {Q : Exit → Act → World → Prop} {a : Act} {w : World} (R : Nat → World → Prop)
    (h : ∃ F : Nat → Act, c.wp P (fun e a' u => e = .normal ∧ ∃ g, a' = F g ∧ R g u) a w ∧ ∀ g u, R g u → Q .normal (F g) u) : c.wp P Q a w := by
  obtain ⟨F, h1, h2⟩ := h
  refine wp_mono h1 ?_
  rintro e a' u ⟨rfl, g, rfl, hr⟩
  exact h2 g u hr
set_option maxRecDepth 100000 in
set_option maxHeartbeats 16000000 in
theorem rread_rest (ab ao n c N : Nat) (b : List Nat) (w : World) (hA : IsB w (.slice (some ⟨ab, ao, none⟩) n c) b) (hn : b.length = n) (hb : ∀ x ∈ b, x < 256) (h9 : n ≤ 900000) (hN : n = 20 + N * 20) (hN1 : 1 ≤ N) (hv : val32 b = 1735590144) :
    Calls Try.prog 75 #[.slice (some ⟨ab, ao, none⟩) n c] w fun e w' => RReadAns w b e w' := by
  have hr : readS b = if val32 (b.drop 16) ≠ sumS (b.take 16) then (4, 0, 0, 0, [])
      else if ¬ okHead (val32 (b.drop 4)) (val32 (b.drop 8)) (val32 (b.drop 12)) then (1, 0, 0, 0, [])
      else (0, val32 (b.drop 4), val32 (b.drop 8), val32 (b.drop 12), rowsR b N) := by
    unfold readS
    rw [if_neg (by omega), if_neg (by rintro (h | h | h) <;> omega), show (b.length - 20) / 20 = N by omega]
  have b1 := Blk.new w (B := w.heap.size) 133 #[.int .i64 0, .int .i64 0, .int .i64 0, .slice none 0 0] (Nat.le_refl _)
  have k1 := below_alloc w (.cells #[.int .i64 0, .int .i64 0, .int .i64 0, .slice none 0 0] 133)
  have hnc := isB_len hA
  have GT : ∀ k, k ≤ n - 4 → ∀ W, IsB W (.slice (some ⟨ab, ao, none⟩) n c) b → Calls Try.prog 110 #[.slice (some ⟨ab, ao + k, none⟩) (n - k) (c - k)] W fun e w' => e = .returned (.int .u32 ((val32 (b.drop k) : Nat) : Int)) ∧ ∃ d, w' = W.drewN d := fun k hk W h => by
    have h8 := isB_sub h k (n - k) (c - k) (by omega) rfl
    rw [List.take_of_length_le (by rw [List.length_drop]; omega)] at h8
    exact rget32_any _ (n - k) (c - k) (b.drop k) W h8.rd (by rw [List.length_drop]; omega) (fun x hx => hb x (List.mem_of_mem_drop hx)) (by omega) (by omega)
  have GT := hide GT
  have G16 := hide (GT.out 16 (by omega))
  have G4 := hide (GT.out 4 (by omega))
  have G8 := hide (GT.out 8 (by omega))
  have G12 := hide (GT.out 12 (by omega))
  have SM := hide (fun W (h : IsB W (.slice (some ⟨ab, ao, none⟩) n c) b) => rsum_any (some ⟨ab, ao, none⟩) 16 c (b.take 16) W (h.take 16 (by omega)).rd (by rw [List.length_take]; omega) (fun x hx => hb x (List.mem_of_mem_take hx)) (by omega))
  have lv : ∀ k, val32 (b.drop k) < 4294967296 := fun k => val32_lim (fun x hx => hb x (List.mem_of_mem_drop hx))
  have lv4 := lv 4
  have lv8 := lv 8
  have lv12 := lv 12
  have lv16 := lv 16
  clear lv
  obtain ⟨x4, hx4⟩ : ∃ x, x = val32 (b.drop 4) := ⟨_, rfl⟩
  obtain ⟨x8, hx8⟩ : ∃ x, x = val32 (b.drop 8) := ⟨_, rfl⟩
  obtain ⟨x12, hx12⟩ : ∃ x, x = val32 (b.drop 12) := ⟨_, rfl⟩
  obtain ⟨s1, hs1⟩ : ∃ x, x = val32 (b.drop 16) := ⟨_, rfl⟩
  obtain ⟨s2, hs2⟩ : ∃ x, x = sumS (b.take 16) := ⟨_, rfl⟩
  rw [← hx4] at hr lv4 G4
  rw [← hx8] at hr lv8 G8
  rw [← hx12] at hr lv12 G12
  rw [← hs1] at hr lv16 G16
  have hs9 : s2 < 4294967296 := by rw [hs2]; unfold sumS; omega
  rw [← hs2] at hr SM
  clear hx4 hx8 hx12 hs1 hs2
  have hcell : ∀ i, i < n → (w.alloc (.cells #[.int .i64 0, .int .i64 0, .int .i64 0, .slice none 0 0] 133)).cell? ⟨ab, ao + i, none⟩ = some (.int .u8 ((b.getD i 0 : Nat) : Int)) := by
    obtain ⟨b', o', e, hc'⟩ := hA.rd (by intro e; rw [e] at hn; simp at hn; omega)
    cases e
    intro i hi
    have h9 := hc' i (by omega)
    exact (k1.cell (cell_lt h9)).trans h9
  have c0 := hcell 0 (by omega)
  have c1 := hcell 1 (by omega)
  have c2 := hcell 2 (by omega)
  have c3 := hcell 3 (by omega)
  rw [Nat.add_zero] at c0
  have l0 := getD_byteR hb 0
  have l1 := getD_byteR hb 1
  have l2 := getD_byteR hb 2
  have l3 := getD_byteR hb 3
  have hval : val32 b = b.getD 0 0 * 16777216 + b.getD 1 0 * 65536 + b.getD 2 0 * 256 + b.getD 3 0 := rfl
  obtain ⟨V, hV⟩ : ∃ V, V = val32 b := ⟨_, rfl⟩
  rw [← hV] at hval hv
  clear hV
  generalize b.getD 0 0 = x0 at *
  generalize b.getD 1 0 = x1 at *
  generalize b.getD 2 0 = x2 at *
  generalize b.getD 3 0 = x3 at *
  have hi0 : (0 : Int) < (n : Int) := by omega
  have hi1 : (1 : Int) < (n : Int) := by omega
  have hi2 : (2 : Int) < (n : Int) := by omega
  have hi3 : (3 : Int) < (n : Int) := by omega
  have hin : 0 < n := by omega
  have hz20 : ¬ (n : Int) < 20 := by omega
  have e0 : ((x0 : Int) != 103) = false := by simp; omega
  have e1 : ((x1 : Int) != 115) = false := by simp; omega
  have e2 : ((x2 : Int) != 1) = false := by simp; omega
  have e3 : ((x3 : Int) != 0) = false := by simp; omega
  have e4 : ((n : Int) == 20) = false := by simp; omega
  obtain ⟨m, hm⟩ : ∃ m, m = n - 20 := ⟨_, rfl⟩
  have hmz : (n : Int) - 20 = (m : Int) := by omega
  have hqz : (m : Int) % 20 = 0 := by omega
  have hm9 : m ≤ 900000 := by omega
  have hnc1 := hnc.2.1
  have hc4 : ¬ c = 4 := by omega
  have hc8 : ¬ c = 8 := by omega
  have hc12 : ¬ c = 12 := by omega
  have hc16 : ¬ c = 16 := by omega
  have hd4 : ¬ 4 = c := by omega
  have hd8 : ¬ 8 = c := by omega
  have hd12 : ¬ 12 = c := by omega
  have hd16 : ¬ 16 = c := by omega
  have hy4 : (4 : Int) ≤ (n : Int) := by omega
  have hy8 : (8 : Int) ≤ (n : Int) := by omega
  have hy12 : (12 : Int) ≤ (n : Int) := by omega
  have hy16 : (16 : Int) ≤ (n : Int) := by omega
  have hz16 : (16 : Int) ≤ (c : Int) := by omega
  have q0 := b1.cell 0
  have f0 := b1.frozen 0
  have q1 := b1.cell 1
  have f1 := b1.frozen 1
  have q2 := b1.cell 2
  have f2 := b1.frozen 2
  have q3 := b1.cell 3
  have f3 := b1.frozen 3
  dsimp only [Array.toList, List.getElem?_cons_zero, List.getElem?_cons_succ] at q0 q1 q2 q3
  have BU := hide b1
  have KU := hide k1
  have IU := hide (hA.keep k1)
  have HA0 := hide hA
  have HN := hide hn
  have HB := hide hb
  have HNN := hide hN
  have HC := hide hnc
  have HR := hide hr
  clear hr hn b1 k1 hcell hA hb hval hN hv hnc hm hN1
  go_enter Try.func75, Try.ntmps75
  go_wp2_with fail
  clear c0 c1 c2 c3 q0 q1 q2 q3 f0 f1 f2 f3 hi0 hi1 hi2 hi3 hin e0 e1 e2 e3 e4 l0 l1 l2 l3
  refine heldT_top AnyW 7 #[false, false, false, false, false, false, false] (by kernel_rfl) (by kernel_rfl) (by kernel_rfl) ?_
  have IU := hide (IU.out.drewN 1)
  have BU := hide (BU.out.drewN 1)
  have KU := hide (below_drewN KU.out 1)
  change wpAnyH _ _ _ _ _ _ _ _ ((w.alloc (.cells #[.int .i64 0, .int .i64 0, .int .i64 0, .slice none 0 0] 133)).drewN 1)
  generalize (w.alloc (.cells #[.int .i64 0, .int .i64 0, .int .i64 0, .slice none 0 0] 133)).drewN 1 = V0 at *
  have hHeld : AnyW V0 := trivial
  refine' wpAnyH_take (i := 0) (oi := ⟨_, _, _, _, _, _⟩) (v := _) rfl (by kernel_rfl) (by kernel_rfl) (by kernel_rfl) (fun _ _ _ h => h) (Or.inl ⟨rfl, ?_⟩) hHeld ?_
  rotate_left
  · (intro W' hW; go_simp; (try with_reducible rfl))
  try simp only [Act.put, List.setIfInBounds_toArray, List.set_cons_zero, List.set_cons_succ]
  refine' wpAnyH_take (i := 1) (oi := ⟨_, _, _, _, _, _⟩) (v := _) rfl (by kernel_rfl) (by kernel_rfl) (by kernel_rfl) (fun _ _ _ h => h) (Or.inl ⟨rfl, ?_⟩) hHeld ?_
  rotate_left
  · (intro W' hW; go_simp; (try with_reducible rfl))
  try simp only [Act.put, List.setIfInBounds_toArray, List.set_cons_zero, List.set_cons_succ]
  refine' wpAnyH_take (i := 3) (oi := ⟨_, _, _, _, _, _⟩) (v := _) rfl (by kernel_rfl) (by kernel_rfl) (by kernel_rfl) (fun _ _ _ h => h) (Or.inl ⟨rfl, ?_⟩) hHeld ?_
  rotate_left
  · (intro W' hW; go_simp; (try with_reducible rfl))
  try simp only [Act.put, List.setIfInBounds_toArray, List.set_cons_zero, List.set_cons_succ]
  refine' wpAnyH_take (i := 4) (oi := ⟨_, _, _, _, _, _⟩) (v := _) rfl (by kernel_rfl) (by kernel_rfl) (by kernel_rfl) (fun _ _ _ h => h) (Or.inl ⟨rfl, ?_⟩) hHeld ?_
  rotate_left
  · (intro W' hW; go_simp; (try with_reducible rfl))
  try simp only [Act.put, List.setIfInBounds_toArray, List.set_cons_zero, List.set_cons_succ]
  refine heldT_one (i := 2) (by kernel_rfl) rfl (fun K hK => ?_)
  go_simp
  go_at_call 110
  refine (G16.out _ IU.out).mono ?_
  rintro e v ⟨rfl, d, rfl⟩
  have IU := hide (IU.out.drewN d)
  have BU := hide (BU.out.drewN d)
  have KU := hide (below_drewN KU.out d)
  generalize V0.drewN d = V1 at *
  refine hK.out _ _ trivial ?_
  clear hK
  try simp only [List.setIfInBounds_toArray, List.set_cons_zero, List.set_cons_succ]
  refine heldT_one (i := 5) (by kernel_rfl) rfl (fun K hK => ?_)
  go_simp
  go_at_call 74
  refine (SM.out _ IU.out).mono ?_
  rintro e V2 ⟨rfl, k2⟩
  have IU := hide (IU.out.keep k2)
  have BU := hide (BU.out.keep k2)
  have KU := hide (KU.out.trans (k2.mono KU.out.size))
  clear k2
  refine hK.out _ _ trivial ?_
  clear hK
  try simp only [List.setIfInBounds_toArray, List.set_cons_zero, List.set_cons_succ]
  have hHeld : AnyW V2 := trivial
  refine' wpAnyH_take (i := 6) (oi := ⟨_, _, _, _, _, _⟩) (v := _) rfl (by kernel_rfl) (by kernel_rfl) (by kernel_rfl) (fun _ _ _ h => h) (Or.inl ⟨rfl, ?_⟩) hHeld ?_
  rotate_left
  · (intro W' hW; go_simp; (try with_reducible rfl))
  try simp only [Act.put, List.setIfInBounds_toArray, List.set_cons_zero, List.set_cons_succ]
  refine wpAnyH_done (by kernel_rfl) ?_ _
  by_cases hs : s1 = s2
  · have hne : ((s1 : Int) != (s2 : Int)) = false := by simp; omega
    have hr2 := HR.out
    rw [if_neg (by simpa using hs)] at hr2
    clear HR hs
    have wx4 : IntKind.i64.wrap (x4 : Int) = (x4 : Int) := IntWalk.i64_in _ (by omega)
    have wx8 : IntKind.i64.wrap (x8 : Int) = (x8 : Int) := IntWalk.i64_in _ (by omega)
    have wx12 : IntKind.i64.wrap (x12 : Int) = (x12 : Int) := IntWalk.i64_in _ (by omega)
    go_wp2_with fail
    refine wp_frame (fun g u => Blk u (w.heap.size + 1) 133 g [.int .i64 (x4 : Int), .int .i64 (x8 : Int), .int .i64 (x12 : Int), .slice none 0 0] ∧ Blk u w.heap.size 133 w.heap.size [.int .i64 0, .int .i64 0, .int .i64 0, .slice none 0 0] ∧ Below w.heap.size w u) ?_
    apply Exists.intro
    constructor
    · refine heldT_top AnyW 15 #[false, false, false, false, false, false, false, false, false, false, false, false, false, false, false] (by kernel_rfl) (by kernel_rfl) (by kernel_rfl) ?_
      have IU := hide (IU.out.drewN 1)
      have BU := hide (BU.out.drewN 1)
      have KU := hide (below_drewN KU.out 1)
      change wpAnyH _ _ _ _ _ _ _ _ (V2.drewN 1)
      generalize V2.drewN 1 = U0 at *
      have hHeld : AnyW U0 := trivial
      refine' wpAnyH_take (i := 0) (oi := ⟨_, _, _, _, _, _⟩) (v := _) rfl (by kernel_rfl) (by kernel_rfl) (by kernel_rfl) (fun _ _ _ h => by cases h.1) (Or.inl ⟨rfl, ?_⟩) hHeld ?_
      rotate_left
      · (intro W' hW; go_simp; (try with_reducible rfl))
      try simp only [Act.put, List.setIfInBounds_toArray, List.set_cons_zero, List.set_cons_succ]
      refine' wpAnyH_take (i := 1) (oi := ⟨_, _, _, _, _, _⟩) (v := _) rfl (by kernel_rfl) (by kernel_rfl) (by kernel_rfl) (fun _ _ _ h => by cases h.1) (Or.inl ⟨rfl, ?_⟩) hHeld ?_
      rotate_left
      · (intro W' hW; go_simp; (try with_reducible rfl))
      try simp only [Act.put, List.setIfInBounds_toArray, List.set_cons_zero, List.set_cons_succ]
      refine' wpAnyH_take (i := 4) (oi := ⟨_, _, _, _, _, _⟩) (v := _) rfl (by kernel_rfl) (by kernel_rfl) (by kernel_rfl) (fun _ _ _ h => by cases h.1) (Or.inl ⟨rfl, ?_⟩) hHeld ?_
      rotate_left
      · (intro W' hW; go_simp; (try with_reducible rfl))
      try simp only [Act.put, List.setIfInBounds_toArray, List.set_cons_zero, List.set_cons_succ]
      refine' wpAnyH_take (i := 5) (oi := ⟨_, _, _, _, _, _⟩) (v := _) rfl (by kernel_rfl) (by kernel_rfl) (by kernel_rfl) (fun _ _ _ h => by cases h.1) (Or.inl ⟨rfl, ?_⟩) hHeld ?_
      rotate_left
      · (intro W' hW; go_simp; (try with_reducible rfl))
      try simp only [Act.put, List.setIfInBounds_toArray, List.set_cons_zero, List.set_cons_succ]
      refine' wpAnyH_take (i := 8) (oi := ⟨_, _, _, _, _, _⟩) (v := _) rfl (by kernel_rfl) (by kernel_rfl) (by kernel_rfl) (fun _ _ _ h => by cases h.1) (Or.inl ⟨rfl, ?_⟩) hHeld ?_
      rotate_left
      · (intro W' hW; go_simp; (try with_reducible rfl))
      try simp only [Act.put, List.setIfInBounds_toArray, List.set_cons_zero, List.set_cons_succ]
      refine' wpAnyH_take (i := 9) (oi := ⟨_, _, _, _, _, _⟩) (v := _) rfl (by kernel_rfl) (by kernel_rfl) (by kernel_rfl) (fun _ _ _ h => by cases h.1) (Or.inl ⟨rfl, ?_⟩) hHeld ?_
      rotate_left
      · (intro W' hW; go_simp; (try with_reducible rfl))
      try simp only [Act.put, List.setIfInBounds_toArray, List.set_cons_zero, List.set_cons_succ]
      refine heldT_two (i := 2) (j := 13) (by kernel_rfl) rfl rfl (fun K hK => ?_) (fun K hK => ?_)
      · go_simp
        go_at_call 110
        refine (G4.out _ IU.out).mono ?_
        rintro e v ⟨rfl, d, rfl⟩
        have IU := hide (IU.out.drewN d)
        have BU := hide (BU.out.drewN d)
        have KU := hide (below_drewN KU.out d)
        generalize U0.drewN d = U1 at *
        refine hK.out _ _ trivial ?_
        clear hK
        try simp only [List.setIfInBounds_toArray, List.set_cons_zero, List.set_cons_succ]
        have hHeld : AnyW U1 := trivial
        refine' wpAnyH_take (i := 3) (oi := ⟨_, _, _, _, _, _⟩) (v := .int .i64 (x4 : Int)) rfl (by kernel_rfl) (by kernel_rfl) (by kernel_rfl) (fun _ _ _ h => by cases h.1) (Or.inl ⟨rfl, ?_⟩) hHeld ?_
        · (intro W' hW; go_simp; (try rw [wx4]); (try with_reducible rfl))
        try simp only [Act.put, List.setIfInBounds_toArray, List.set_cons_zero, List.set_cons_succ]
        refine heldT_two (i := 6) (j := 13) (by kernel_rfl) rfl rfl (fun K hK => ?_) (fun K hK => ?_)
        · go_simp
          go_at_call 110
          refine (G8.out _ IU.out).mono ?_
          rintro e v ⟨rfl, d, rfl⟩
          have IU := hide (IU.out.drewN d)
          have BU := hide (BU.out.drewN d)
          have KU := hide (below_drewN KU.out d)
          generalize U1.drewN d = U2 at *
          refine hK.out _ _ trivial ?_
          clear hK
          try simp only [List.setIfInBounds_toArray, List.set_cons_zero, List.set_cons_succ]
          have hHeld : AnyW U2 := trivial
          refine' wpAnyH_take (i := 7) (oi := ⟨_, _, _, _, _, _⟩) (v := .int .i64 (x8 : Int)) rfl (by kernel_rfl) (by kernel_rfl) (by kernel_rfl) (fun _ _ _ h => by cases h.1) (Or.inl ⟨rfl, ?_⟩) hHeld ?_
          · (intro W' hW; go_simp; (try rw [wx8]); (try with_reducible rfl))
          try simp only [Act.put, List.setIfInBounds_toArray, List.set_cons_zero, List.set_cons_succ]
          refine heldT_two (i := 10) (j := 13) (by kernel_rfl) rfl rfl (fun K hK => ?_) (fun K hK => ?_)
          · go_simp
            go_at_call 110
            refine (G12.out _ IU.out).mono ?_
            rintro e v ⟨rfl, d, rfl⟩
            have IU := hide (IU.out.drewN d)
            have BU := hide (BU.out.drewN d)
            have KU := hide (below_drewN KU.out d)
            generalize U2.drewN d = U3 at *
            refine hK.out _ _ trivial ?_
            clear hK
            try simp only [List.setIfInBounds_toArray, List.set_cons_zero, List.set_cons_succ]
            have hHeld : AnyW U3 := trivial
            refine' wpAnyH_take (i := 11) (oi := ⟨_, _, _, _, _, _⟩) (v := .int .i64 (x12 : Int)) rfl (by kernel_rfl) (by kernel_rfl) (by kernel_rfl) (fun _ _ _ h => by cases h.1) (Or.inl ⟨rfl, ?_⟩) hHeld ?_
            · (intro W' hW; go_simp; (try rw [wx12]); (try with_reducible rfl))
            try simp only [Act.put, List.setIfInBounds_toArray, List.set_cons_zero, List.set_cons_succ]
            refine' wpAnyH_take (i := 12) (oi := ⟨_, _, _, _, _, _⟩) (v := _) rfl (by kernel_rfl) (by kernel_rfl) (by kernel_rfl) (fun _ _ _ h => by cases h.1) (Or.inl ⟨rfl, ?_⟩) hHeld ?_
            rotate_left
            · (intro W' hW; go_simp; (try with_reducible rfl))
            try simp only [Act.put, List.setIfInBounds_toArray, List.set_cons_zero, List.set_cons_succ]
            refine heldT_one (i := 13) (by kernel_rfl) rfl (fun K hK => ?_)
            go_simp
            have NB := hide (Blk.new U3 (B := w.heap.size + 1) 133 #[.int .i64 0, .int .i64 0, .int .i64 0, .slice none 0 0] (by have := cell_lt (BU.out.cell 0); exact this))
            have kA := below_alloc U3 (.cells #[.int .i64 0, .int .i64 0, .int .i64 0, .slice none 0 0] 133)
            have IU := hide (IU.out.keep kA)
            have BU := hide (BU.out.keep kA)
            have KU := hide (KU.out.trans (kA.mono KU.out.size))
            obtain ⟨g7, hg7⟩ : ∃ g, g = U3.heap.size := ⟨_, rfl⟩
            rw [← hg7] at NB ⊢
            clear hg7 kA
            generalize U3.alloc (.cells #[.int .i64 0, .int .i64 0, .int .i64 0, .slice none 0 0] 133) = U4 at *
            refine hK.out _ _ trivial ?_
            clear hK
            try simp only [List.setIfInBounds_toArray, List.set_cons_zero, List.set_cons_succ]
            refine heldT_one (i := 14) (by kernel_rfl) rfl (fun K hK => ?_)
            have a0 := NB.out.cell 0
            have g0 := NB.out.frozen 0
            have a1 := NB.out.cell 1
            have g1 := NB.out.frozen 1
            have a2 := NB.out.cell 2
            have g2 := NB.out.frozen 2
            have a3 := NB.out.cell 3
            have g3 := NB.out.frozen 3
            dsimp only [Array.toList, List.getElem?_cons_zero, List.getElem?_cons_succ] at a0 a1 a2 a3
            have hput := put4S NB.out (.int .i64 (x4 : Int)) (.int .i64 (x8 : Int)) (.int .i64 (x12 : Int)) (.slice none 0 0) _ rfl
            have HPU := hide hput
            clear hput
            go_simp
            clear a0 a1 a2 a3 g0 g1 g2 g3
            obtain ⟨hb9, tb9⟩ := HPU.out
            have hg9 := NB.out.1
            clear HPU NB
            generalize (((U4.setCell ⟨g7, 0, none⟩ (.int .i64 (x4 : Int))).setCell ⟨g7, 1, none⟩ (.int .i64 (x8 : Int))).setCell ⟨g7, 2, none⟩ (.int .i64 (x12 : Int))).setCell ⟨g7, 3, none⟩ (.slice none 0 0) = X at *
            have hx1 := BU.out.turn tb9 (fun e => by have e : w.heap.size = g7 := e; omega)
            have hx2 := KU.out.trans (tb9.below KU.out.size (fun k e => by have e : k = g7 := e; omega))
            refine hK.out _ _ trivial ?_
            clear hK
            try simp only [List.setIfInBounds_toArray, List.set_cons_zero, List.set_cons_succ]
            exact wpAnyH_done (by kernel_rfl) ⟨rfl, g7, rfl, hb9, hx1, hx2⟩ _
          · go_simp
            have NB := hide (Blk.new U2 (B := w.heap.size + 1) 133 #[.int .i64 0, .int .i64 0, .int .i64 0, .slice none 0 0] (by have := cell_lt (BU.out.cell 0); exact this))
            have kA := below_alloc U2 (.cells #[.int .i64 0, .int .i64 0, .int .i64 0, .slice none 0 0] 133)
            have IU := hide (IU.out.keep kA)
            have BU := hide (BU.out.keep kA)
            have KU := hide (KU.out.trans (kA.mono KU.out.size))
            obtain ⟨g7, hg7⟩ : ∃ g, g = U2.heap.size := ⟨_, rfl⟩
            rw [← hg7] at NB ⊢
            clear hg7 kA
            generalize U2.alloc (.cells #[.int .i64 0, .int .i64 0, .int .i64 0, .slice none 0 0] 133) = U3 at *
            refine hK.out _ _ trivial ?_
            clear hK
            try simp only [List.setIfInBounds_toArray, List.set_cons_zero, List.set_cons_succ]
            refine heldT_one (i := 10) (by kernel_rfl) rfl (fun K hK => ?_)
            go_simp
            go_at_call 110
            refine (G12.out _ IU.out).mono ?_
            rintro e v ⟨rfl, d, rfl⟩
            have IU := hide (IU.out.drewN d)
            have BU := hide (BU.out.drewN d)
            have KU := hide (below_drewN KU.out d)
            have NB := hide (NB.out.drewN d)
            generalize U3.drewN d = U4 at *
            refine hK.out _ _ trivial ?_
            clear hK
            try simp only [List.setIfInBounds_toArray, List.set_cons_zero, List.set_cons_succ]
            have hHeld : AnyW U4 := trivial
            refine' wpAnyH_take (i := 11) (oi := ⟨_, _, _, _, _, _⟩) (v := .int .i64 (x12 : Int)) rfl (by kernel_rfl) (by kernel_rfl) (by kernel_rfl) (fun _ _ _ h => by cases h.1) (Or.inl ⟨rfl, ?_⟩) hHeld ?_
            · (intro W' hW; go_simp; (try rw [wx12]); (try with_reducible rfl))
            try simp only [Act.put, List.setIfInBounds_toArray, List.set_cons_zero, List.set_cons_succ]
            refine' wpAnyH_take (i := 12) (oi := ⟨_, _, _, _, _, _⟩) (v := _) rfl (by kernel_rfl) (by kernel_rfl) (by kernel_rfl) (fun _ _ _ h => by cases h.1) (Or.inl ⟨rfl, ?_⟩) hHeld ?_
            rotate_left
            · (intro W' hW; go_simp; (try with_reducible rfl))
            try simp only [Act.put, List.setIfInBounds_toArray, List.set_cons_zero, List.set_cons_succ]
            refine heldT_one (i := 14) (by kernel_rfl) rfl (fun K hK => ?_)
            have a0 := NB.out.cell 0
            have g0 := NB.out.frozen 0
            have a1 := NB.out.cell 1
            have g1 := NB.out.frozen 1
            have a2 := NB.out.cell 2
            have g2 := NB.out.frozen 2
            have a3 := NB.out.cell 3
            have g3 := NB.out.frozen 3
            dsimp only [Array.toList, List.getElem?_cons_zero, List.getElem?_cons_succ] at a0 a1 a2 a3
            have hput := put4S NB.out (.int .i64 (x4 : Int)) (.int .i64 (x8 : Int)) (.int .i64 (x12 : Int)) (.slice none 0 0) _ rfl
            have HPU := hide hput
            clear hput
            go_simp
            clear a0 a1 a2 a3 g0 g1 g2 g3
            obtain ⟨hb9, tb9⟩ := HPU.out
            have hg9 := NB.out.1
            clear HPU NB
            generalize (((U4.setCell ⟨g7, 0, none⟩ (.int .i64 (x4 : Int))).setCell ⟨g7, 1, none⟩ (.int .i64 (x8 : Int))).setCell ⟨g7, 2, none⟩ (.int .i64 (x12 : Int))).setCell ⟨g7, 3, none⟩ (.slice none 0 0) = X at *
            have hx1 := BU.out.turn tb9 (fun e => by have e : w.heap.size = g7 := e; omega)
            have hx2 := KU.out.trans (tb9.below KU.out.size (fun k e => by have e : k = g7 := e; omega))
            refine hK.out _ _ trivial ?_
            clear hK
            try simp only [List.setIfInBounds_toArray, List.set_cons_zero, List.set_cons_succ]
            exact wpAnyH_done (by kernel_rfl) ⟨rfl, g7, rfl, hb9, hx1, hx2⟩ _
        · go_simp
          have NB := hide (Blk.new U1 (B := w.heap.size + 1) 133 #[.int .i64 0, .int .i64 0, .int .i64 0, .slice none 0 0] (by have := cell_lt (BU.out.cell 0); exact this))
          have kA := below_alloc U1 (.cells #[.int .i64 0, .int .i64 0, .int .i64 0, .slice none 0 0] 133)
          have IU := hide (IU.out.keep kA)
          have BU := hide (BU.out.keep kA)
          have KU := hide (KU.out.trans (kA.mono KU.out.size))
          obtain ⟨g7, hg7⟩ : ∃ g, g = U1.heap.size := ⟨_, rfl⟩
          rw [← hg7] at NB ⊢
          clear hg7 kA
          generalize U1.alloc (.cells #[.int .i64 0, .int .i64 0, .int .i64 0, .slice none 0 0] 133) = U2 at *
          refine hK.out _ _ trivial ?_
          clear hK
          try simp only [List.setIfInBounds_toArray, List.set_cons_zero, List.set_cons_succ]
          refine heldT_one (i := 6) (by kernel_rfl) rfl (fun K hK => ?_)
          go_simp
          go_at_call 110
          refine (G8.out _ IU.out).mono ?_
          rintro e v ⟨rfl, d, rfl⟩
          have IU := hide (IU.out.drewN d)
          have BU := hide (BU.out.drewN d)
          have KU := hide (below_drewN KU.out d)
          have NB := hide (NB.out.drewN d)
          generalize U2.drewN d = U3 at *
          refine hK.out _ _ trivial ?_
          clear hK
          try simp only [List.setIfInBounds_toArray, List.set_cons_zero, List.set_cons_succ]
          have hHeld : AnyW U3 := trivial
          refine' wpAnyH_take (i := 7) (oi := ⟨_, _, _, _, _, _⟩) (v := .int .i64 (x8 : Int)) rfl (by kernel_rfl) (by kernel_rfl) (by kernel_rfl) (fun _ _ _ h => by cases h.1) (Or.inl ⟨rfl, ?_⟩) hHeld ?_
          · (intro W' hW; go_simp; (try rw [wx8]); (try with_reducible rfl))
          try simp only [Act.put, List.setIfInBounds_toArray, List.set_cons_zero, List.set_cons_succ]
          refine heldT_one (i := 10) (by kernel_rfl) rfl (fun K hK => ?_)
          go_simp
          go_at_call 110
          refine (G12.out _ IU.out).mono ?_
          rintro e v ⟨rfl, d, rfl⟩
          have IU := hide (IU.out.drewN d)
          have BU := hide (BU.out.drewN d)
          have KU := hide (below_drewN KU.out d)
          have NB := hide (NB.out.drewN d)
          generalize U3.drewN d = U4 at *
          refine hK.out _ _ trivial ?_
          clear hK
          try simp only [List.setIfInBounds_toArray, List.set_cons_zero, List.set_cons_succ]
          have hHeld : AnyW U4 := trivial
          refine' wpAnyH_take (i := 11) (oi := ⟨_, _, _, _, _, _⟩) (v := .int .i64 (x12 : Int)) rfl (by kernel_rfl) (by kernel_rfl) (by kernel_rfl) (fun _ _ _ h => by cases h.1) (Or.inl ⟨rfl, ?_⟩) hHeld ?_
          · (intro W' hW; go_simp; (try rw [wx12]); (try with_reducible rfl))
          try simp only [Act.put, List.setIfInBounds_toArray, List.set_cons_zero, List.set_cons_succ]
          refine' wpAnyH_take (i := 12) (oi := ⟨_, _, _, _, _, _⟩) (v := _) rfl (by kernel_rfl) (by kernel_rfl) (by kernel_rfl) (fun _ _ _ h => by cases h.1) (Or.inl ⟨rfl, ?_⟩) hHeld ?_
          rotate_left
          · (intro W' hW; go_simp; (try with_reducible rfl))
          try simp only [Act.put, List.setIfInBounds_toArray, List.set_cons_zero, List.set_cons_succ]
          refine heldT_one (i := 14) (by kernel_rfl) rfl (fun K hK => ?_)
          have a0 := NB.out.cell 0
          have g0 := NB.out.frozen 0
          have a1 := NB.out.cell 1
          have g1 := NB.out.frozen 1
          have a2 := NB.out.cell 2
          have g2 := NB.out.frozen 2
          have a3 := NB.out.cell 3
          have g3 := NB.out.frozen 3
          dsimp only [Array.toList, List.getElem?_cons_zero, List.getElem?_cons_succ] at a0 a1 a2 a3
          have hput := put4S NB.out (.int .i64 (x4 : Int)) (.int .i64 (x8 : Int)) (.int .i64 (x12 : Int)) (.slice none 0 0) _ rfl
          have HPU := hide hput
          clear hput
          go_simp
          clear a0 a1 a2 a3 g0 g1 g2 g3
          obtain ⟨hb9, tb9⟩ := HPU.out
          have hg9 := NB.out.1
          clear HPU NB
          generalize (((U4.setCell ⟨g7, 0, none⟩ (.int .i64 (x4 : Int))).setCell ⟨g7, 1, none⟩ (.int .i64 (x8 : Int))).setCell ⟨g7, 2, none⟩ (.int .i64 (x12 : Int))).setCell ⟨g7, 3, none⟩ (.slice none 0 0) = X at *
          have hx1 := BU.out.turn tb9 (fun e => by have e : w.heap.size = g7 := e; omega)
          have hx2 := KU.out.trans (tb9.below KU.out.size (fun k e => by have e : k = g7 := e; omega))
          refine hK.out _ _ trivial ?_
          clear hK
          try simp only [List.setIfInBounds_toArray, List.set_cons_zero, List.set_cons_succ]
          exact wpAnyH_done (by kernel_rfl) ⟨rfl, g7, rfl, hb9, hx1, hx2⟩ _
      · go_simp
        have NB := hide (Blk.new U0 (B := w.heap.size + 1) 133 #[.int .i64 0, .int .i64 0, .int .i64 0, .slice none 0 0] (by have := cell_lt (BU.out.cell 0); exact this))
        have kA := below_alloc U0 (.cells #[.int .i64 0, .int .i64 0, .int .i64 0, .slice none 0 0] 133)
        have IU := hide (IU.out.keep kA)
        have BU := hide (BU.out.keep kA)
        have KU := hide (KU.out.trans (kA.mono KU.out.size))
        obtain ⟨g7, hg7⟩ : ∃ g, g = U0.heap.size := ⟨_, rfl⟩
        rw [← hg7] at NB ⊢
        clear hg7 kA
        generalize U0.alloc (.cells #[.int .i64 0, .int .i64 0, .int .i64 0, .slice none 0 0] 133) = U1 at *
        refine hK.out _ _ trivial ?_
        clear hK
        try simp only [List.setIfInBounds_toArray, List.set_cons_zero, List.set_cons_succ]
        refine heldT_one (i := 2) (by kernel_rfl) rfl (fun K hK => ?_)
        go_simp
        go_at_call 110
        refine (G4.out _ IU.out).mono ?_
        rintro e v ⟨rfl, d, rfl⟩
        have IU := hide (IU.out.drewN d)
        have BU := hide (BU.out.drewN d)
        have KU := hide (below_drewN KU.out d)
        have NB := hide (NB.out.drewN d)
        generalize U1.drewN d = U2 at *
        refine hK.out _ _ trivial ?_
        clear hK
        try simp only [List.setIfInBounds_toArray, List.set_cons_zero, List.set_cons_succ]
        have hHeld : AnyW U2 := trivial
        refine' wpAnyH_take (i := 3) (oi := ⟨_, _, _, _, _, _⟩) (v := .int .i64 (x4 : Int)) rfl (by kernel_rfl) (by kernel_rfl) (by kernel_rfl) (fun _ _ _ h => by cases h.1) (Or.inl ⟨rfl, ?_⟩) hHeld ?_
        · (intro W' hW; go_simp; (try rw [wx4]); (try with_reducible rfl))
        try simp only [Act.put, List.setIfInBounds_toArray, List.set_cons_zero, List.set_cons_succ]
        refine heldT_one (i := 6) (by kernel_rfl) rfl (fun K hK => ?_)
        go_simp
        go_at_call 110
        refine (G8.out _ IU.out).mono ?_
        rintro e v ⟨rfl, d, rfl⟩
        have IU := hide (IU.out.drewN d)
        have BU := hide (BU.out.drewN d)
        have KU := hide (below_drewN KU.out d)
        have NB := hide (NB.out.drewN d)
        generalize U2.drewN d = U3 at *
        refine hK.out _ _ trivial ?_
        clear hK
        try simp only [List.setIfInBounds_toArray, List.set_cons_zero, List.set_cons_succ]
        have hHeld : AnyW U3 := trivial
        refine' wpAnyH_take (i := 7) (oi := ⟨_, _, _, _, _, _⟩) (v := .int .i64 (x8 : Int)) rfl (by kernel_rfl) (by kernel_rfl) (by kernel_rfl) (fun _ _ _ h => by cases h.1) (Or.inl ⟨rfl, ?_⟩) hHeld ?_
        · (intro W' hW; go_simp; (try rw [wx8]); (try with_reducible rfl))
        try simp only [Act.put, List.setIfInBounds_toArray, List.set_cons_zero, List.set_cons_succ]
        refine heldT_one (i := 10) (by kernel_rfl) rfl (fun K hK => ?_)
        go_simp
        go_at_call 110
        refine (G12.out _ IU.out).mono ?_
        rintro e v ⟨rfl, d, rfl⟩
        have IU := hide (IU.out.drewN d)
        have BU := hide (BU.out.drewN d)
        have KU := hide (below_drewN KU.out d)
        have NB := hide (NB.out.drewN d)
        generalize U3.drewN d = U4 at *
        refine hK.out _ _ trivial ?_
        clear hK
        try simp only [List.setIfInBounds_toArray, List.set_cons_zero, List.set_cons_succ]
        have hHeld : AnyW U4 := trivial
        refine' wpAnyH_take (i := 11) (oi := ⟨_, _, _, _, _, _⟩) (v := .int .i64 (x12 : Int)) rfl (by kernel_rfl) (by kernel_rfl) (by kernel_rfl) (fun _ _ _ h => by cases h.1) (Or.inl ⟨rfl, ?_⟩) hHeld ?_
        · (intro W' hW; go_simp; (try rw [wx12]); (try with_reducible rfl))
        try simp only [Act.put, List.setIfInBounds_toArray, List.set_cons_zero, List.set_cons_succ]
        refine' wpAnyH_take (i := 12) (oi := ⟨_, _, _, _, _, _⟩) (v := _) rfl (by kernel_rfl) (by kernel_rfl) (by kernel_rfl) (fun _ _ _ h => by cases h.1) (Or.inl ⟨rfl, ?_⟩) hHeld ?_
        rotate_left
        · (intro W' hW; go_simp; (try with_reducible rfl))
        try simp only [Act.put, List.setIfInBounds_toArray, List.set_cons_zero, List.set_cons_succ]
        refine heldT_one (i := 14) (by kernel_rfl) rfl (fun K hK => ?_)
        have a0 := NB.out.cell 0
        have g0 := NB.out.frozen 0
        have a1 := NB.out.cell 1
        have g1 := NB.out.frozen 1
        have a2 := NB.out.cell 2
        have g2 := NB.out.frozen 2
        have a3 := NB.out.cell 3
        have g3 := NB.out.frozen 3
        dsimp only [Array.toList, List.getElem?_cons_zero, List.getElem?_cons_succ] at a0 a1 a2 a3
        have hput := put4S NB.out (.int .i64 (x4 : Int)) (.int .i64 (x8 : Int)) (.int .i64 (x12 : Int)) (.slice none 0 0) _ rfl
        have HPU := hide hput
        clear hput
        go_simp
        clear a0 a1 a2 a3 g0 g1 g2 g3
        obtain ⟨hb9, tb9⟩ := HPU.out
        have hg9 := NB.out.1
        clear HPU NB
        generalize (((U4.setCell ⟨g7, 0, none⟩ (.int .i64 (x4 : Int))).setCell ⟨g7, 1, none⟩ (.int .i64 (x8 : Int))).setCell ⟨g7, 2, none⟩ (.int .i64 (x12 : Int))).setCell ⟨g7, 3, none⟩ (.slice none 0 0) = X at *
        have hx1 := BU.out.turn tb9 (fun e => by have e : w.heap.size = g7 := e; omega)
        have hx2 := KU.out.trans (tb9.below KU.out.size (fun k e => by have e : k = g7 := e; omega))
        refine hK.out _ _ trivial ?_
        clear hK
        try simp only [List.setIfInBounds_toArray, List.set_cons_zero, List.set_cons_succ]
        exact wpAnyH_done (by kernel_rfl) ⟨rfl, g7, rfl, hb9, hx1, hx2⟩ _
    · intro g u ⟨hb7, hb0, hk7⟩
      have hgz : w.heap.size + 1 ≤ g := hb7.1
      have a0 := hb7.cell 0
      have g0 := hb7.frozen 0
      have a1 := hb7.cell 1
      have g1 := hb7.frozen 1
      have a2 := hb7.cell 2
      have g2 := hb7.frozen 2
      have a3 := hb7.cell 3
      have g3 := hb7.frozen 3
      dsimp only [Array.toList, List.getElem?_cons_zero, List.getElem?_cons_succ] at a0 a1 a2 a3
      have q0 := hb0.cell 0
      have f0 := hb0.frozen 0
      have q1 := hb0.cell 1
      have f1 := hb0.frozen 1
      have q2 := hb0.cell 2
      have f2 := hb0.frozen 2
      have q3 := hb0.cell 3
      have f3 := hb0.frozen 3
      dsimp only [Array.toList, List.getElem?_cons_zero, List.getElem?_cons_succ] at q0 q1 q2 q3
      have BG := hide hb7
      have B0 := hide hb0
      have KU := hide hk7
      have hgw : ¬ g = w.heap.size := by omega
      have hwg : ¬ w.heap.size = g := by omega
      clear hb7 hb0 hk7 IU BU G4 G8 G12 G16 SM hne
      by_cases hk : okHead (x4 : Int) (x8 : Int) (x12 : Int)
      · rw [if_neg (by simpa using hk)] at hr2
        have HR := hide hr2
        have hk1 : ¬ (2147483647 : Int) < (x4 : Int) := by have := hk.1.2; omega
        have hk2 : ¬ (2147483647 : Int) < (x8 : Int) := by have := hk.2.1.2; omega
        have hk3 : ¬ (x12 : Int) < 1 := by have := hk.2.2.1; omega
        have hk4 : ¬ (4194304 : Int) < (x12 : Int) := by have := hk.2.2.2; omega
        obtain ⟨zz, hzz⟩ : ∃ z, z = u.heap.size := ⟨_, rfl⟩
        have hgzz : g < zz := by rw [hzz]; exact cell_lt a0
        have HZ := hide hzz
        clear hr2 hk hzz q0 q1 q2 q3 f0 f1 f2 f3
        go_wp2_with fail
        clear a0 a1 a2 a3 g0 g1 g2 g3
        go_loopw [5, 6] (fun at_ _ wr => ∃ (i p : Nat) (A' : Option Addr) (c' : Nat), i ≤ N ∧ at_ = .int .i64 (p : Int) ∧ Hid (p = 20 + i * 20) ∧ Hid (Blk wr (w.heap.size + 1) 133 g [.int .i64 (x4 : Int), .int .i64 (x8 : Int), .int .i64 (x12 : Int), .slice A' i c']) ∧ Hid (OwnMt wr zz (.slice A' i c') (rowsR b i)) ∧ Hid (Turn (fun k => k = g ∨ zz ≤ k) u wr)) (fun at_ _ _ => n - (intOf at_).toNat)
        case atStart => exact ⟨0, 20, none, 0, Nat.zero_le _, rfl, hide rfl, BG, hide (OwnMt.nil _ _), hide (Turn.refl _ _)⟩
        case round =>
          obtain ⟨i, p, A', c', hi, rfl, HP, BG3, HO3, HT3⟩ := hrel
          have hp := HP.out
          have hnn := HNN.out
          by_cases hlt : i < N
          · have hpz : (p : Int) < (n : Int) := by omega
            obtain ⟨p2, hp2⟩ : ∃ p2, p2 = p + 16 := ⟨_, rfl⟩
            have hp2z : (p : Int) + 16 = (p2 : Int) := by omega
            have hpn : p2 + 4 ≤ n := by omega
            have h01 : (p : Int) ≤ (p2 : Int) := by omega
            have h02 : (p2 : Int) ≤ (c : Int) := by omega
            have h03 : (p2 : Int) ≤ (n : Int) := by omega
            have h04 : (0 : Int) ≤ (p2 : Int) := by omega
            have h05 : (0 : Int) ≤ (p : Int) := by omega
            have hcp : ¬ c = p := by omega
            have hcp1 : ¬ p = c := by omega
            have hcp2 : ¬ c = p2 := by omega
            have hcp3 : ¬ p2 = c := by omega
            have h16 : p2 - p = 16 := by omega
            have h20' : p - 20 = i * 20 := by omega
            have hi9 : i ≤ 900000 := by omega
            have KW := hide (KU.out.trans (HT3.out.below KU.out.size (fun k e => by have := HZ.out; have := KU.out.size; rcases e with e | e <;> omega)))
            have IW := hide (HA0.out.keep KW.out)
            have HZ3 := hide (show zz ≤ wr.heap.size by have := HT3.out.size; have := HZ.out; omega)
            obtain ⟨row, hrow⟩ : ∃ r, r = (b.drop p).take 16 := ⟨_, rfl⟩
            have hrl : row.length = 16 := by rw [hrow, List.length_take, List.length_drop, HN.out]; omega
            have hrb : ∀ x ∈ row, x < 256 := by rw [hrow]; exact fun x hx => HB.out x (List.mem_of_mem_drop (List.mem_of_mem_take hx))
            have hch : rowR (chunkS 20 (b.drop 20) i) = if val32 (b.drop p2) = sumS row then row else [] := by
              have e1 : (chunkS 20 (b.drop 20) i).take 16 = row := by
                rw [hrow, chunkS, List.take_take, List.drop_drop, show 20 + i * 20 = p by omega]
                rfl
              have e2 : val32 ((chunkS 20 (b.drop 20) i).drop 16) = val32 (b.drop p2) := by
                rw [chunkS, List.drop_drop, List.drop_take, List.drop_drop, show 20 + i * 20 + 16 = p2 by omega]
                exact val32_takeM (by omega)
              unfold rowR
              rw [e1, e2]
            have IR : Hid (IsB wr (.slice (some ⟨ab, ao + p, none⟩) 16 (c - p)) row) := hide (by
              have h8 := isB_sub IW.out p 16 (c - p) (by omega) rfl
              rw [← hrow] at h8
              exact h8)
            have v9 : val32 (b.drop p2) < 4294967296 := val32_lim (fun x hx => HB.out x (List.mem_of_mem_drop hx))
            have GC := hide (GT.out p2 (by omega))
            obtain ⟨s3, hs3⟩ : ∃ x, x = val32 (b.drop p2) := ⟨_, rfl⟩
            obtain ⟨s4, hs4⟩ : ∃ x, x = sumS row := ⟨_, rfl⟩
            have hs49 : s4 < 4294967296 := by rw [hs4]; unfold sumS; omega
            have SR := hide (fun (A : Option Addr) (c : Nat) (W : World) (h : IsB W (.slice A 16 c) row) => rsum_any A 16 c row W h.rd hrl.symm hrb (by decide))
            rw [← hs4] at SR hch
            rw [← hs3] at GC hch v9
            have HCH := hide hch
            have HRL := hide hrl
            clear hrow hrl hrb hch hs3 hs4 hp2 hp hnn
            have nb : Below wr.heap.size wr (wr.alloc (.cells #[] 5)) := (Below.refl _ _).alloc (Nat.le_refl _) _
            go_wp2_with (at_builtin; refine halt ?_)
            refine ⟨?_⟩
            refine wpList_append_bytes rfl (.tmp 92) (.tmp 97) rfl wr.heap.size _ [] rfl (own_lit wr #[] [] rfl (by decide)) _ row rfl (IR.out.keep nb) (by rw [HRL.out, List.length_nil]; omega) nb.size ?_
            intro sl w1 o1 k1
            have nb1 := nb.trans k1
            rw [List.nil_append] at o1
            obtain ⟨A1, c1, rfl, i1, l1, m1⟩ := o1.isB.form HRL.out
            have O1 := hide o1
            have I1 := hide i1
            have IW1 := hide (IW.out.keep nb1)
            have HO1 := hide (HO3.out.keep nb1)
            have BG1 := hide (BG3.out.keep nb1)
            have HT1 := hide (HT3.out.trans (Turn.of_below _ nb1))
            have HZ1 := hide (Nat.le_trans HZ3.out nb1.size)
            clear nb k1 o1 i1 l1 m1 IW HO3 BG3 HT3 KW IR
            have hzw : Hid (zz ≤ wr.heap.size) := HZ3
            go_wp2_with fail
            refine (GC.out w1 IW1.out).mono ?_
            rintro e w2 ⟨rfl, d, rfl⟩
            go_wp2_with fail
            refine (SR.out A1 c1 _ (I1.out.drewN d)).mono ?_
            rintro e W4 ⟨rfl, k4⟩
            have k4 : Below w1.heap.size w1 W4 := ⟨k4.os, k4.tape, k4.output, k4.size, k4.block⟩
            have O4 := hide ((O1.out.keep k4).more hzw.out)
            have HO4 := hide (HO1.out.keep k4)
            have BG4 := hide (BG1.out.keep k4)
            have HT4 := hide (HT1.out.trans (Turn.of_below _ k4))
            have HZ4 := hide (Nat.le_trans HZ1.out k4.size)
            clear k4 O1 I1 IW1 HO1 BG1 HT1 HZ1 nb1
            have a0 := BG4.out.cell 0
            have g0 := BG4.out.frozen 0
            have a1 := BG4.out.cell 1
            have g1 := BG4.out.frozen 1
            have a2 := BG4.out.cell 2
            have g2 := BG4.out.frozen 2
            have a3 := BG4.out.cell 3
            have g3 := BG4.out.frozen 3
            dsimp only [Array.toList, List.getElem?_cons_zero, List.getElem?_cons_succ] at a0 a1 a2 a3
            by_cases he : s3 = s4
            · have hez : ((s3 : Int) != (s4 : Int)) = false := by simp; omega
              have HROW : Hid (rowsR b i ++ [row] = rowsR b (i + 1)) := hide (by rw [rowsR, HCH.out, if_pos he])
              clear he
              go_wp2_with (at_builtin; refine halt ?_)
              refine ⟨?_⟩
              have k5 := below_alloc W4 (.cells #[.slice A1 16 c1] 23)
              refine wpList_append_mrow rfl (.tmp 108) (.tmp 110) rfl zz (.slice A' i c') _ rfl (HO4.out.keep k5) W4.heap.size (.slice A1 16 c1) row rfl (cell_newAt _ _ _ rfl) (O4.out.keep k5) (by rw [rowsR_len]; omega) (by have := k5.size; have := HZ4.out; omega) ?_
              intro v6 w6 h6 k6
              rw [HROW.out] at h6
              obtain ⟨A6, c6, rfl, -, -⟩ := h6.form (n := i + 1) (rowsR_len _ _)
              have B6 := hide (((BG4.out.keep k5)).low k6 (by omega))
              have T6 : Turn (fun k => k = g ∨ zz ≤ k) u w6 := (HT4.out.trans (Turn.of_below _ k5)).trans ⟨k6.os, k6.tape, k6.output, k6.size, fun k _ hn => k6.block k (by omega)⟩
              have O6 := hide h6
              clear k5 k6 h6 a0 a1 a2 a3 g0 g1 g2 g3
              have a0 := B6.out.cell 0
              have g0 := B6.out.frozen 0
              have a1 := B6.out.cell 1
              have g1 := B6.out.frozen 1
              have a2 := B6.out.cell 2
              have g2 := B6.out.frozen 2
              have a3 := B6.out.cell 3
              have g3 := B6.out.frozen 3
              dsimp only [Array.toList, List.getElem?_cons_zero, List.getElem?_cons_succ] at a0 a1 a2 a3
              go_wp2_with fail
              have ts : Turn (fun k => k = g) w6 (w6.setCell ⟨g, 3, none⟩ (.slice A6 (i + 1) c6)) := (Turn.of_grown (grown_set w6 g 3 _)).mono (fun j e => by simpa using e)
              have BN := hide (B6.out.stored 3 (.slice A6 (i + 1) c6))
              have ON := hide (O6.out.turnB ts (fun k hk e => by have e : k = g := e; omega))
              have TN := hide (T6.trans (ts.mono (fun k e => .inl e)))
              go_roundw
              case rel => exact ⟨i + 1, p + 20, A6, c6, by omega, by go_num, hide (by have := HP.out; omega), BN, ON, TN⟩
              case measure => simp [intOf]; omega
            · have hez : ((s3 : Int) != (s4 : Int)) = true := by simp; omega
              have HROW : Hid (rowsR b i ++ [[]] = rowsR b (i + 1)) := hide (by rw [rowsR, HCH.out, if_neg he])
              clear he
              go_wp2_with (at_builtin; refine halt ?_)
              refine ⟨?_⟩
              have k5 := below_alloc W4 (.cells #[.slice none 0 0] 23)
              refine wpList_append_mrow rfl (.tmp 108) (.tmp 110) rfl zz (.slice A' i c') _ rfl (HO4.out.keep k5) W4.heap.size (.slice none 0 0) [] rfl (cell_newAt _ _ _ rfl) (World.ownsRow_nil _ _ _ _) (by rw [rowsR_len]; omega) (by have := k5.size; have := HZ4.out; omega) ?_
              intro v6 w6 h6 k6
              rw [HROW.out] at h6
              obtain ⟨A6, c6, rfl, -, -⟩ := h6.form (n := i + 1) (rowsR_len _ _)
              have B6 := hide (((BG4.out.keep k5)).low k6 (by omega))
              have T6 : Turn (fun k => k = g ∨ zz ≤ k) u w6 := (HT4.out.trans (Turn.of_below _ k5)).trans ⟨k6.os, k6.tape, k6.output, k6.size, fun k _ hn => k6.block k (by omega)⟩
              have O6 := hide h6
              clear k5 k6 h6 a0 a1 a2 a3 g0 g1 g2 g3
              have a0 := B6.out.cell 0
              have g0 := B6.out.frozen 0
              have a1 := B6.out.cell 1
              have g1 := B6.out.frozen 1
              have a2 := B6.out.cell 2
              have g2 := B6.out.frozen 2
              have a3 := B6.out.cell 3
              have g3 := B6.out.frozen 3
              dsimp only [Array.toList, List.getElem?_cons_zero, List.getElem?_cons_succ] at a0 a1 a2 a3
              go_wp2_with fail
              have ts : Turn (fun k => k = g) w6 (w6.setCell ⟨g, 3, none⟩ (.slice A6 (i + 1) c6)) := (Turn.of_grown (grown_set w6 g 3 _)).mono (fun j e => by simpa using e)
              have BN := hide (B6.out.stored 3 (.slice A6 (i + 1) c6))
              have ON := hide (O6.out.turnB ts (fun k hk e => by have e : k = g := e; omega))
              have TN := hide (T6.trans (ts.mono (fun k e => .inl e)))
              go_roundw
              case rel => exact ⟨i + 1, p + 20, A6, c6, by omega, by go_num, hide (by have := HP.out; omega), BN, ON, TN⟩
              case measure => simp [intOf]; omega
          · obtain rfl : i = N := by omega
            have hpz : ¬ (p : Int) < (n : Int) := by omega
            have BX := hide (B0.out.turn HT3.out (fun e => by have := HZ.out; have := KU.out.size; rcases e with e | e <;> omega))
            have KW := hide (KU.out.trans (HT3.out.below KU.out.size (fun k e => by have := HZ.out; have := KU.out.size; rcases e with e | e <;> omega)))
            clear hp hnn hlt
            have a0 := BG3.out.cell 0
            have g0 := BG3.out.frozen 0
            have a1 := BG3.out.cell 1
            have g1 := BG3.out.frozen 1
            have a2 := BG3.out.cell 2
            have g2 := BG3.out.frozen 2
            have a3 := BG3.out.cell 3
            have g3 := BG3.out.frozen 3
            dsimp only [Array.toList, List.getElem?_cons_zero, List.getElem?_cons_succ] at a0 a1 a2 a3
            have q0 := BX.out.cell 0
            have f0 := BX.out.frozen 0
            have q1 := BX.out.cell 1
            have f1 := BX.out.frozen 1
            have q2 := BX.out.cell 2
            have f2 := BX.out.frozen 2
            have q3 := BX.out.cell 3
            have f3 := BX.out.frozen 3
            dsimp only [Array.toList, List.getElem?_cons_zero, List.getElem?_cons_succ] at q0 q1 q2 q3
            go_wp2_with fail
            obtain ⟨b9, t9⟩ := put4S BX.out (.int .i64 (x4 : Int)) (.int .i64 (x8 : Int)) (.int .i64 (x12 : Int)) (.slice A' i c') _ rfl
            have k9 := KW.out.trans (t9.below KW.out.size (fun k e => by have e : k = w.heap.size := e; omega))
            have o9 := HO3.out.turnB t9 (fun k hk e => by have e : k = w.heap.size := e; omega)
            clear q0 q1 q2 q3 f0 f1 f2 f3
            generalize (((wr.setCell ⟨w.heap.size, 0, none⟩ (.int .i64 (x4 : Int))).setCell ⟨w.heap.size, 1, none⟩ (.int .i64 (x8 : Int))).setCell ⟨w.heap.size, 2, none⟩ (.int .i64 (x12 : Int))).setCell ⟨w.heap.size, 3, none⟩ (.slice A' i c') = W9 at *
            have q0 := b9.cell 0
            have f0 := b9.frozen 0
            have q1 := b9.cell 1
            have f1 := b9.frozen 1
            have q2 := b9.cell 2
            have f2 := b9.frozen 2
            have q3 := b9.cell 3
            have f3 := b9.frozen 3
            dsimp only [Array.toList, List.getElem?_cons_zero, List.getElem?_cons_succ] at q0 q1 q2 q3
            refine bodyPost_ret (v := .tuple #[.agg #[.int .i64 (x4 : Int), .int .i64 (x8 : Int), .int .i64 (x12 : Int), .slice A' i c'], .int .i64 0]) (by simp [results, Try.results75, go_sem, q0, q1, q2, q3]) rfl (rreadAns_ok HR.out (o9.more (by omega)) k9)
      · rw [if_pos (by simpa using hk)] at hr2
        have HR := hide hr2
        have hcs : (2147483647 : Int) < (x4 : Int) ∨ (¬ (2147483647 : Int) < (x4 : Int) ∧ (2147483647 : Int) < (x8 : Int)) ∨ (¬ (2147483647 : Int) < (x4 : Int) ∧ ¬ (2147483647 : Int) < (x8 : Int) ∧ (x12 : Int) < 1) ∨ (¬ (2147483647 : Int) < (x4 : Int) ∧ ¬ (2147483647 : Int) < (x8 : Int) ∧ ¬ (x12 : Int) < 1 ∧ (4194304 : Int) < (x12 : Int)) := by
          unfold okHead at hk
          omega
        clear hr2 hk
        rcases hcs with h1 | ⟨h1, h2⟩ | ⟨h1, h2, h3⟩ | ⟨h1, h2, h3, h4⟩
        · go_wp2_with fail
          obtain ⟨b9, t9⟩ := put4S B0.out (.int .i64 0) (.int .i64 0) (.int .i64 0) (.slice none 0 0) _ rfl
          have k9 := KU.out.trans (t9.below KU.out.size (fun k e => by have e : k = w.heap.size := e; omega))
          clear q0 q1 q2 q3 f0 f1 f2 f3
          generalize (((u.setCell ⟨w.heap.size, 0, none⟩ (.int .i64 0)).setCell ⟨w.heap.size, 1, none⟩ (.int .i64 0)).setCell ⟨w.heap.size, 2, none⟩ (.int .i64 0)).setCell ⟨w.heap.size, 3, none⟩ (.slice none 0 0) = W9 at *
          have q0 := b9.cell 0
          have f0 := b9.frozen 0
          have q1 := b9.cell 1
          have f1 := b9.frozen 1
          have q2 := b9.cell 2
          have f2 := b9.frozen 2
          have q3 := b9.cell 3
          have f3 := b9.frozen 3
          dsimp only [Array.toList, List.getElem?_cons_zero, List.getElem?_cons_succ] at q0 q1 q2 q3
          refine bodyPost_ret (v := .tuple #[.agg #[.int .i64 0, .int .i64 0, .int .i64 0, .slice none 0 0], .int .i64 1]) (by simp [results, Try.results75, go_sem, q0, q1, q2, q3]) rfl (rreadAns_err HR.out k9)
        · go_wp2_with fail
          obtain ⟨b9, t9⟩ := put4S B0.out (.int .i64 0) (.int .i64 0) (.int .i64 0) (.slice none 0 0) _ rfl
          have k9 := KU.out.trans (t9.below KU.out.size (fun k e => by have e : k = w.heap.size := e; omega))
          clear q0 q1 q2 q3 f0 f1 f2 f3
          generalize (((u.setCell ⟨w.heap.size, 0, none⟩ (.int .i64 0)).setCell ⟨w.heap.size, 1, none⟩ (.int .i64 0)).setCell ⟨w.heap.size, 2, none⟩ (.int .i64 0)).setCell ⟨w.heap.size, 3, none⟩ (.slice none 0 0) = W9 at *
          have q0 := b9.cell 0
          have f0 := b9.frozen 0
          have q1 := b9.cell 1
          have f1 := b9.frozen 1
          have q2 := b9.cell 2
          have f2 := b9.frozen 2
          have q3 := b9.cell 3
          have f3 := b9.frozen 3
          dsimp only [Array.toList, List.getElem?_cons_zero, List.getElem?_cons_succ] at q0 q1 q2 q3
          refine bodyPost_ret (v := .tuple #[.agg #[.int .i64 0, .int .i64 0, .int .i64 0, .slice none 0 0], .int .i64 1]) (by simp [results, Try.results75, go_sem, q0, q1, q2, q3]) rfl (rreadAns_err HR.out k9)
        · go_wp2_with fail
          obtain ⟨b9, t9⟩ := put4S B0.out (.int .i64 0) (.int .i64 0) (.int .i64 0) (.slice none 0 0) _ rfl
          have k9 := KU.out.trans (t9.below KU.out.size (fun k e => by have e : k = w.heap.size := e; omega))
          clear q0 q1 q2 q3 f0 f1 f2 f3
          generalize (((u.setCell ⟨w.heap.size, 0, none⟩ (.int .i64 0)).setCell ⟨w.heap.size, 1, none⟩ (.int .i64 0)).setCell ⟨w.heap.size, 2, none⟩ (.int .i64 0)).setCell ⟨w.heap.size, 3, none⟩ (.slice none 0 0) = W9 at *
          have q0 := b9.cell 0
          have f0 := b9.frozen 0
          have q1 := b9.cell 1
          have f1 := b9.frozen 1
          have q2 := b9.cell 2
          have f2 := b9.frozen 2
          have q3 := b9.cell 3
          have f3 := b9.frozen 3
          dsimp only [Array.toList, List.getElem?_cons_zero, List.getElem?_cons_succ] at q0 q1 q2 q3
          refine bodyPost_ret (v := .tuple #[.agg #[.int .i64 0, .int .i64 0, .int .i64 0, .slice none 0 0], .int .i64 1]) (by simp [results, Try.results75, go_sem, q0, q1, q2, q3]) rfl (rreadAns_err HR.out k9)
        · go_wp2_with fail
          obtain ⟨b9, t9⟩ := put4S B0.out (.int .i64 0) (.int .i64 0) (.int .i64 0) (.slice none 0 0) _ rfl
          have k9 := KU.out.trans (t9.below KU.out.size (fun k e => by have e : k = w.heap.size := e; omega))
          clear q0 q1 q2 q3 f0 f1 f2 f3
          generalize (((u.setCell ⟨w.heap.size, 0, none⟩ (.int .i64 0)).setCell ⟨w.heap.size, 1, none⟩ (.int .i64 0)).setCell ⟨w.heap.size, 2, none⟩ (.int .i64 0)).setCell ⟨w.heap.size, 3, none⟩ (.slice none 0 0) = W9 at *
          have q0 := b9.cell 0
          have f0 := b9.frozen 0
          have q1 := b9.cell 1
          have f1 := b9.frozen 1
          have q2 := b9.cell 2
          have f2 := b9.frozen 2
          have q3 := b9.cell 3
          have f3 := b9.frozen 3
          dsimp only [Array.toList, List.getElem?_cons_zero, List.getElem?_cons_succ] at q0 q1 q2 q3
          refine bodyPost_ret (v := .tuple #[.agg #[.int .i64 0, .int .i64 0, .int .i64 0, .slice none 0 0], .int .i64 1]) (by simp [results, Try.results75, go_sem, q0, q1, q2, q3]) rfl (rreadAns_err HR.out k9)
  · have hne : ((s1 : Int) != (s2 : Int)) = true := by simp; omega
    have hr2 := HR.out
    rw [if_pos hs] at hr2
    have HR := hide hr2
    clear hr2 hs
    have q0 := BU.out.cell 0
    have f0 := BU.out.frozen 0
    have q1 := BU.out.cell 1
    have f1 := BU.out.frozen 1
    have q2 := BU.out.cell 2
    have f2 := BU.out.frozen 2
    have q3 := BU.out.cell 3
    have f3 := BU.out.frozen 3
    dsimp only [Array.toList, List.getElem?_cons_zero, List.getElem?_cons_succ] at q0 q1 q2 q3
    go_wp2_with fail
    obtain ⟨b9, t9⟩ := put4S BU.out (.int .i64 0) (.int .i64 0) (.int .i64 0) (.slice none 0 0) _ rfl
    have k9 := KU.out.trans (t9.below KU.out.size (fun k e => by have e : k = w.heap.size := e; omega))
    clear q0 q1 q2 q3 f0 f1 f2 f3
    generalize (((V2.setCell ⟨w.heap.size, 0, none⟩ (.int .i64 0)).setCell ⟨w.heap.size, 1, none⟩ (.int .i64 0)).setCell ⟨w.heap.size, 2, none⟩ (.int .i64 0)).setCell ⟨w.heap.size, 3, none⟩ (.slice none 0 0) = W9 at *
    have q0 := b9.cell 0
    have f0 := b9.frozen 0
    have q1 := b9.cell 1
    have f1 := b9.frozen 1
    have q2 := b9.cell 2
    have f2 := b9.frozen 2
    have q3 := b9.cell 3
    have f3 := b9.frozen 3
    dsimp only [Array.toList, List.getElem?_cons_zero, List.getElem?_cons_succ] at q0 q1 q2 q3
    refine bodyPost_ret (v := .tuple #[.agg #[.int .i64 0, .int .i64 0, .int .i64 0, .slice none 0 0], .int .i64 4]) (by simp [results, Try.results75, go_sem, q0, q1, q2, q3]) rfl (rreadAns_err HR.out k9)
end Go.Proofs.Ytehgjkckhjggbaa
