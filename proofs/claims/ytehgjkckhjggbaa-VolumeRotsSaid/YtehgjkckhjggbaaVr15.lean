/- The contract of needle.read: what a head tells, and whether Encode makes it. No condition but the widths. The contract of needle.read where the head's length may not be: it says no. No condition but the widths. -/
import Derived.Test.YtehgjkckhjggbaaVr11
import Derived.Test.YtehgjkckhjggbaaVr7
import Derived.Test.YtehgjkckhjggbaaVr12
import Derived.Deep.CutBlock
import Derived.Test.YtehgjkckhjggbaaVr3
namespace Go.Proofs.Ytehgjkckhjggbaa
open Go.RowKit
/-- What is known of the three blocks of the call's own: the head's, the answer's, the needle's. -/
structure Rdr (w W : World) (b1 b2 b5 : Nat) (H : List Nat) (N : List Value) : Prop where
  base : b1 = w.heap.size
  two : b2 = b1 + 1
  five : b5 = b1 + 2
  lt : b5 < W.heap.size
  head : W.heap[b1]? = some (.cells (u8s H).toArray 141 (0, 0))
  ans : Blk W b1 35 b2 [.int .u64 0, .int .u32 0, .bool false, .slice none 0 0]
  ndl : Blk W b1 35 b5 N
  below : Below b1 w W
theorem rdr_new (w : World) (H : List Nat) (C : Array Value) (hC : C = (u8s H).toArray) :
    Rdr w (((w.alloc (.cells C 141)).alloc (.cells #[.int .u64 0, .int .u32 0, .bool false, .slice none 0 0] 35)).alloc (.cells #[.int .u64 0, .int .u32 0, .bool false, .slice none 0 0] 35)) w.heap.size (w.heap.size + 1) (w.heap.size + 1 + 1) H [.int .u64 0, .int .u32 0, .bool false, .slice none 0 0] := by
  subst hC
  obtain ⟨o0, h0⟩ : ∃ o, o = Obj.cells (u8s H).toArray 141 := ⟨_, rfl⟩
  have s1 : (w.alloc o0).heap.size = w.heap.size + 1 := by simp
  obtain ⟨o1, h1⟩ : ∃ o, o = Obj.cells #[.int .u64 0, .int .u32 0, .bool false, .slice none 0 0] 35 := ⟨_, rfl⟩
  have s2 : ((w.alloc o0).alloc o1).heap.size = w.heap.size + 1 + 1 := by simp
  rw [← h0, ← h1]
  refine ⟨rfl, rfl, rfl, by simp, ?_, ⟨by omega, #[.int .u64 0, .int .u32 0, .bool false, .slice none 0 0], ?_, rfl⟩, ⟨by omega, #[.int .u64 0, .int .u32 0, .bool false, .slice none 0 0], ?_, rfl⟩, ?_⟩
  · rw [heap_old' _ _ _ (by omega), heap_old' _ _ _ (by omega), heap_alloc_new, h0]
  · rw [heap_old' _ _ _ (by omega), ← s1, heap_alloc_new, h1]
  · rw [← s2, heap_alloc_new, h1]
  · exact ((below_alloc w o0).trans ((below_alloc _ o1).mono (by omega))).trans ((below_alloc _ _).mono (by omega))
theorem Rdr.put {w W : World} {b1 b2 b5 : Nat} {H : List Nat} {N : List Value} (h : Rdr w W b1 b2 b5 H N) (i : Nat) (v : Value) : Rdr w (W.setCell ⟨b5, i, none⟩ v) b1 b2 b5 H (N.set i v) := by
  obtain ⟨h1, h2, h3, h4, h5, h6, h7, h8⟩ := h
  have k : Below b5 W (W.setCell ⟨b5, i, none⟩ v) := by
    have h0 : Below b5 W W := Below.refl _ _
    have hle : b5 ≤ (⟨b5, i, none⟩ : Addr).block := Nat.le_refl b5
    exact h0.setCell hle _
  refine ⟨h1, h2, h3, by simpa using h4, (k.block b1 (by omega)).trans h5, ?_, h7.stored i v, h8.trans (k.mono (by omega))⟩
  exact h6.kept (grown_set W b5 i v) (by intro e; simp at e; omega)
theorem Rdr.drawn {w W : World} {b1 b2 b5 : Nat} {H : List Nat} {N : List Value} (h : Rdr w W b1 b2 b5 H N) (n : Nat) : Rdr w (W.drewN n) b1 b2 b5 H N :=
  ⟨h.base, h.two, h.five, h.lt, h.head, h.ans.drewN n, h.ndl.drewN n, below_drewN h.below n⟩
theorem Rdr.isB {w W : World} {b1 b2 b5 : Nat} {H : List Nat} {N : List Value} (h : Rdr w W b1 b2 b5 H N) (hl : H.length = 24) (k m : Nat) (hm : k + m = 24) : IsB W (.slice (some ⟨b1, k, none⟩) m m) (H.drop k) := by
  have := isB_in h.head k m m (by omega) (Nat.le_refl _) (by omega)
  rwa [List.take_of_length_le (by rw [List.length_drop]; omega)] at this
/-- Four cells of one block are stored. -/
theorem put4_ {w : World} {B g : Nat} {e : TypeId} {a0 a1 a2 a3 : Value} (h : Blk w B e g [a0, a1, a2, a3]) (v0 v1 v2 v3 : Value) (W : World) (hW : W = (((w.setCell ⟨g, 0, none⟩ v0).setCell ⟨g, 1, none⟩ v1).setCell ⟨g, 2, none⟩ v2).setCell ⟨g, 3, none⟩ v3) :
    Blk W B e g [v0, v1, v2, v3] ∧ (∀ k, k ≠ g → W.heap[k]? = w.heap[k]?) ∧ (∀ b i, b ≠ g → W.cell? ⟨b, i, none⟩ = w.cell? ⟨b, i, none⟩) ∧ Below B w W := by
  subst hW
  have o : ∀ (u : World) (i : Nat) (v : Value) (k : Nat), k ≠ g → (u.setCell ⟨g, i, none⟩ v).heap[k]? = u.heap[k]? := fun u i v k hk => heap_setCell_other u ⟨g, i, none⟩ k v (fun e => hk (by simp at e; exact e))
  have hh : ∀ k, k ≠ g → ((((w.setCell ⟨g, 0, none⟩ v0).setCell ⟨g, 1, none⟩ v1).setCell ⟨g, 2, none⟩ v2).setCell ⟨g, 3, none⟩ v3).heap[k]? = w.heap[k]? := fun k hk => by rw [o _ _ _ _ hk, o _ _ _ _ hk, o _ _ _ _ hk, o _ _ _ _ hk]
  have hB := h.1
  refine ⟨(((h.stored 0 v0).stored 1 v1).stored 2 v2).stored 3 v3, hh, fun b i hb => ?_, ?_⟩
  · unfold World.cell?
    rw [hh b hb]
  · exact ((((Below.refl B w).setCell (p := ⟨g, 0, none⟩) hB v0).setCell (p := ⟨g, 1, none⟩) hB v1).setCell (p := ⟨g, 2, none⟩) hB v2).setCell (p := ⟨g, 3, none⟩) hB v3
theorem Try.guard_head : Try.prog.eqGuardType Try.prog.depth 141 = false := by kernel_rfl
set_option maxRecDepth 100000 in
set_option maxHeartbeats 3200000 in
theorem read_ok (H : List Nat) (w : World) (hl : H.length = 24) (hb : ∀ x ∈ H, x < 256) (ho : hLen H ≤ 65536 ∧ ¬ (hDead H = true ∧ 0 < hLen H)) :
    Calls Try.prog 120 #[.agg (u8s H).toArray] w fun e w' => e = .returned (.tuple #[.agg #[.int .u64 (hKey H : Nat), .int .u32 (hCook H : Nat), .bool (hDead H), .slice none 0 0], .int .i64 (hLen H : Nat), .bool (decide (H = head24 (hKey H) (hCook H) (hDead H) (hLen H)))]) ∧ Below w.heap.size w w' := by
  obtain ⟨C, hC⟩ : ∃ C, C = (u8s H).toArray := ⟨_, rfl⟩
  rw [← hC]
  have HC := hide hC
  clear hC
  have hkl := hKey_lt hb
  have hcl := hCook_lt hb
  obtain ⟨key, hkey⟩ : ∃ k, k = hKey H := ⟨_, rfl⟩
  obtain ⟨cook, hcook⟩ : ∃ k, k = hCook H := ⟨_, rfl⟩
  obtain ⟨len, hlen⟩ : ∃ k, k = hLen H := ⟨_, rfl⟩
  obtain ⟨d, hd⟩ : ∃ d, d = hDead H := ⟨_, rfl⟩
  rw [← hkey] at hkl
  rw [← hcook] at hcl
  rw [← hlen, ← hd] at ho
  rw [← hkey, ← hcook, ← hlen, ← hd]
  obtain ⟨q, hq⟩ : ∃ q : Bool, q = decide (H = head24 key cook d len) := ⟨_, rfl⟩
  rw [← hq]
  obtain ⟨y, hy⟩ : ∃ y, y = H.getD 2 0 := ⟨_, rfl⟩
  have hyd : ((y : Int) == 1) = d := by
    rw [hd, hy]
    unfold hDead
    by_cases h : H.getD 2 0 = 1
    · rw [h]; rfl
    · have e1 : (H.getD 2 0 == 1) = false := by simpa using h
      rw [e1]
      simp only [beq_eq_false_iff_ne, ne_eq]
      omega
  have HL := hide hl
  have HB := hide hb
  have HE := hide (And.intro hkey (And.intro hcook (And.intro hlen (And.intro hd (And.intro hq hy)))))
  have B4 : Hid (∀ x ∈ H.drop 4, x < 256) := hide (fun x hx => hb x (List.mem_of_mem_drop hx))
  have B12 : Hid (∀ x ∈ H.drop 12, x < 256) := hide (fun x hx => hb x (List.mem_of_mem_drop hx))
  have B16 : Hid (∀ x ∈ H.drop 16, x < 256) := hide (fun x hx => hb x (List.mem_of_mem_drop hx))
  clear hl hb hkey hcook hlen hd hq hy
  have r0 := rdr_new w H C HC.out
  go_enter Try.func120, Try.ntmps120
  go_upto_region 2 with (fail)
  generalize (((w.alloc (.cells C 141)).alloc (.cells #[.int .u64 0, .int .u32 0, .bool false, .slice none 0 0] 35)).alloc (.cells #[.int .u64 0, .int .u32 0, .bool false, .slice none 0 0] 35)) = W at r0 ⊢
  obtain ⟨b5, hb5⟩ : ∃ b, b = w.heap.size + 1 + 1 := ⟨_, rfl⟩
  rw [← hb5] at r0 ⊢
  obtain ⟨b2, hb2⟩ : ∃ b, b = w.heap.size + 1 := ⟨_, rfl⟩
  rw [← hb2] at r0 ⊢
  obtain ⟨b1, hb1⟩ : ∃ b, b = w.heap.size := ⟨_, rfl⟩
  rw [← hb1] at r0 ⊢
  have HB1 := hide hb1
  clear hb5 hb2 hb1
  have x2 : W.cell? ⟨b1, 2, none⟩ = some (.int .u8 (y : Int)) := by
    rw [cell_of_row W b1 2 _ _ _ r0.head, u8s_at H 2 (by rw [HL.out]; decide), HE.out.2.2.2.2.2]
  have n2 := r0.ndl.cell 2
  have f2 := r0.ndl.frozen 2
  have R1 := hide (r0.put 2 (.bool d))
  clear r0
  dsimp only [List.getElem?_cons_succ, List.getElem?_cons_zero] at n2
  go_wp2_with fail
  generalize W.setCell ⟨b5, 2, none⟩ (.bool d) = W1 at R1 ⊢
  clear x2 n2 f2
  refine (get64_any (some ⟨b1, 4, none⟩) 20 20 (H.drop 4) W1 (R1.out.isB HL.out 4 20 rfl).rd (by rw [List.length_drop, HL.out]) B4.out (by decide) (by decide) (by decide)).mono ?_
  rintro e w1 ⟨rfl, rfl⟩
  rw [show foldV ((H.drop 4).take 8) = key from HE.out.1.symm]
  have n0 := R1.out.ndl.cell 0
  have f0 := R1.out.ndl.frozen 0
  have R2 := hide (R1.out.put 0 (.int .u64 (key : Int)))
  dsimp only [List.set_cons_succ, List.set_cons_zero, List.getElem?_cons_succ, List.getElem?_cons_zero] at n0
  go_wp2_with fail
  generalize W1.setCell ⟨b5, 0, none⟩ (.int .u64 (key : Int)) = W2 at R2 ⊢
  clear n0 f0 R1
  refine (get32_any (some ⟨b1, 12, none⟩) 12 12 (H.drop 12) W2 (R2.out.isB HL.out 12 12 rfl).rd (by rw [List.length_drop, HL.out]) B12.out (by decide) (by decide)).mono ?_
  rintro e w1 ⟨rfl, d2, rfl⟩
  rw [show val32 (H.drop 12) = cook from HE.out.2.1.symm]
  have n1 := R2.out.ndl.cell 1
  have f1 := R2.out.ndl.frozen 1
  dsimp only [List.set_cons_succ, List.set_cons_zero, List.getElem?_cons_succ, List.getElem?_cons_zero] at n1
  go_wp2_with fail
  generalize hW3 : (W2.drewN d2).setCell ⟨b5, 1, none⟩ (.int .u32 (cook : Int)) = W3
  have R3 : Hid (Rdr w W3 b1 b2 b5 H [.int .u64 (key : Int), .int .u32 (cook : Int), .bool d, .slice none 0 0]) := hide (by rw [← hW3]; exact (R2.out.drawn d2).put 1 (.int .u32 (cook : Int)))
  clear n1 f1 R2 hW3
  refine (get32_any (some ⟨b1, 16, none⟩) 8 8 (H.drop 16) W3 (R3.out.isB HL.out 16 8 rfl).rd (by rw [List.length_drop, HL.out]) B16.out (by decide) (by decide)).mono ?_
  rintro e w1 ⟨rfl, d3, rfl⟩
  rw [show val32 (H.drop 16) = len from HE.out.2.2.1.symm]
  have n2 := R3.out.ndl.cell 2
  dsimp only [List.set_cons_succ, List.set_cons_zero, List.getElem?_cons_succ, List.getElem?_cons_zero] at n2
  have hlz : ¬ ((65536 : Int) < (len : Int)) := by omega
  have hgo : d = true ∧ ¬ ((0 : Int) < (len : Int)) ∨ d = false := by
    rcases d
    · exact .inr rfl
    · exact .inl ⟨rfl, fun h => ho.2 ⟨rfl, by omega⟩⟩
  have LEN : Hid (len ≤ 65536) := hide ho.1
  clear ho hyd
  rcases hgo with ⟨rfl, hz⟩ | rfl
  · go_wp2_with fail
    have R4 := hide (R3.out.drawn d3)
    generalize W3.drewN d3 = V at R4 ⊢
    clear n2
    have v0 := R4.out.ndl.cell 0
    have v1 := R4.out.ndl.cell 1
    have v2 := R4.out.ndl.cell 2
    have v3 := R4.out.ndl.cell 3
    dsimp only [List.set_cons_succ, List.set_cons_zero, List.getElem?_cons_succ, List.getElem?_cons_zero] at v0 v1 v2 v3
    have hC24 : C.size = 24 := by rw [HC.out]; exact len24 HL.out
    have hhd : V.heap[b1]? = some (.cells C 141 (0, 0)) := by rw [HC.out]; exact R4.out.head
    have lt5 := R4.out.lt
    have R4L : Hid (b1 < V.heap.size ∧ b2 < V.heap.size ∧ b5 < V.heap.size) := hide (by have h1 := R4.out.two; have h2 := R4.out.five; omega)
    clear lt5
    refine Ways.start (fun W => W.heap[b1]? = some (.cells C 141 (0, 0)) ∧ W.cell? ⟨b5, 0, none⟩ = some (.int .u64 (key : Int)) ∧ W.cell? ⟨b5, 1, none⟩ = some (.int .u32 (cook : Int)) ∧ W.cell? ⟨b5, 2, none⟩ = some (.bool true) ∧ W.cell? ⟨b5, 3, none⟩ = some (.slice none 0 0)) 9 10 #[false, false, false, false, false, false, false, false, false, false] (by kernel_rfl) (by kernel_rfl) (by kernel_rfl) ?_
    have hHeld := And.intro hhd (And.intro v0 (And.intro v1 (And.intro v2 v3)))
    have HD := hide hHeld
    clear hhd v0 v1 v2 v3
    refine' Ways.take (i := 0) (oi := ⟨_, _, _, _, _, _⟩) (v := _) rfl (by kernel_rfl) (by kernel_rfl) (by kernel_rfl) (by kernel_rfl) (fun _ _ _ h => h) hHeld (Or.inl ⟨rfl, ?_⟩) ?_
    rotate_left
    · (intro W hW; (try dsimp only at hW); obtain ⟨hh, x0, x1, x2, x3⟩ := hW; go_simp; (try with_reducible rfl))
    try simp only [Act.put, List.setIfInBounds_toArray, List.set_cons_zero, List.set_cons_succ]
    refine' Ways.take (i := 1) (oi := ⟨_, _, _, _, _, _⟩) (v := _) rfl (by kernel_rfl) (by kernel_rfl) (by kernel_rfl) (by kernel_rfl) (fun _ _ _ h => h) hHeld (Or.inl ⟨rfl, ?_⟩) ?_
    rotate_left
    · (intro W hW; (try dsimp only at hW); obtain ⟨hh, x0, x1, x2, x3⟩ := hW; go_simp; (try with_reducible rfl))
    try simp only [Act.put, List.setIfInBounds_toArray, List.set_cons_zero, List.set_cons_succ]
    refine' Ways.take (i := 2) (oi := ⟨_, _, _, _, _, _⟩) (v := .agg C) rfl (by kernel_rfl) (by kernel_rfl) (by kernel_rfl) (by kernel_rfl) (fun _ _ _ h => h) hHeld (Or.inl ⟨rfl, ?_⟩) ?_
    · intro W hW
      obtain ⟨hh, x0, x1, x2, x3⟩ := hW
      unfold execOp
      simp [Instr.loadAt, Instr.sureAddr, Act.eval, run_loadVar_row W b1 141 141 C (0, 0) _ hh Try.underlying141 rfl (by rw [Try.info_head, hC24])]
    try simp only [Act.put, List.setIfInBounds_toArray, List.set_cons_zero, List.set_cons_succ]
    refine' Ways.take (i := 3) (oi := ⟨_, _, _, _, _, _⟩) (v := _) rfl (by kernel_rfl) (by kernel_rfl) (by kernel_rfl) (by kernel_rfl) (fun _ _ _ h => h) hHeld (Or.inl ⟨rfl, ?_⟩) ?_
    rotate_left
    · (intro W hW; (try dsimp only at hW); obtain ⟨hh, x0, x1, x2, x3⟩ := hW; go_simp; (try with_reducible rfl))
    try simp only [Act.put, List.setIfInBounds_toArray, List.set_cons_zero, List.set_cons_succ]
    refine' Ways.take (i := 4) (oi := ⟨_, _, _, _, _, _⟩) (v := _) rfl (by kernel_rfl) (by kernel_rfl) (by kernel_rfl) (by kernel_rfl) (fun _ _ _ h => h) hHeld (Or.inl ⟨rfl, ?_⟩) ?_
    rotate_left
    · (intro W hW; (try dsimp only at hW); obtain ⟨hh, x0, x1, x2, x3⟩ := hW; go_simp; (try with_reducible rfl))
    try simp only [Act.put, List.setIfInBounds_toArray, List.set_cons_zero, List.set_cons_succ]
    refine Ways.one (i := 5) (by kernel_rfl) rfl (fun K hK => ?_)
    go_simp
    go_at_call 83
    obtain ⟨G, hG⟩ : ∃ G, G = head24 key cook true len := ⟨_, rfl⟩
    have hGl : G.length = 24 := by rw [hG]; exact head24_len _ _ _ _
    have hqG : decide (H = G) = q := by rw [hG]; exact HE.out.2.2.2.2.1.symm
    refine (headOf_any key cook true none 0 0 len V.drew hkl hcl (by have := LEN.out; omega)).mono ?_
    rw [← hG]
    rintro e w9 ⟨rfl, k9⟩
    have HG := hide (And.intro hGl hqG)
    clear hG hGl hqG
    have K9 : Below V.heap.size V w9 := ⟨k9.os, k9.tape, k9.output, k9.size, k9.block⟩
    have hh := (K9.block b1 R4L.out.1).trans HD.out.1
    have x0 := (K9.cell (p := ⟨b5, 0, none⟩) R4L.out.2.2).trans HD.out.2.1
    have x1 := (K9.cell (p := ⟨b5, 1, none⟩) R4L.out.2.2).trans HD.out.2.2.1
    have x2 := (K9.cell (p := ⟨b5, 2, none⟩) R4L.out.2.2).trans HD.out.2.2.2.1
    have x3 := (K9.cell (p := ⟨b5, 3, none⟩) R4L.out.2.2).trans HD.out.2.2.2.2
    have NE : Hid (b2 ≠ b1 ∧ b2 ≠ b5) := hide (by have h1 := R4.out.two; have h2 := R4.out.five; omega)
    have KA := hide (K9.mono (show b1 ≤ V.heap.size by have := R4L.out.1; omega))
    have AN := hide (R4.out.ans.keep K9)
    refine hK.out _ _ ⟨hh, x0, x1, x2, x3⟩ ?_
    clear hK hHeld k9
    have hHeld := And.intro hh (And.intro x0 (And.intro x1 (And.intro x2 x3)))
    have HD9 := hide hHeld
    clear hh x0 x1 x2 x3
    try simp only [List.setIfInBounds_toArray, List.set_cons_zero, List.set_cons_succ]
    refine' Ways.take (i := 6) (oi := ⟨_, _, _, _, _, _⟩) (v := .bool q) rfl (by kernel_rfl) (by kernel_rfl) (by kernel_rfl) (by kernel_rfl) (fun _ _ _ h => h) hHeld (Or.inl ⟨rfl, ?_⟩) ?_
    · intro W hW
      have he : (binOp .eql 141 (.agg C) (.agg (u8s G).toArray)).run Try.prog W = .ok (.bool q) W := by rw [HC.out, run_eql_arr Try.underlying141 HL.out HG.out.1, HG.out.2]
      unfold execOp
      simp [Act.eval, eqGuard, he, Sem.run_bind]
    try simp only [Act.put, List.setIfInBounds_toArray, List.set_cons_zero, List.set_cons_succ]
    have a0 := AN.out.cell 0
    have a1 := AN.out.cell 1
    have a2 := AN.out.cell 2
    have a3 := AN.out.cell 3
    have g0 := AN.out.frozen 0
    have g1 := AN.out.frozen 1
    have g2 := AN.out.frozen 2
    have g3 := AN.out.frozen 3
    dsimp only [List.getElem?_cons_succ, List.getElem?_cons_zero] at a0 a1 a2 a3
    have hput := put4_ AN.out (.int .u64 (key : Int)) (.int .u32 (cook : Int)) (.bool true) (.slice none 0 0) _ rfl
    generalize hX : (((w9.setCell ⟨b2, 0, none⟩ (.int .u64 (key : Int))).setCell ⟨b2, 1, none⟩ (.int .u32 (cook : Int))).setCell ⟨b2, 2, none⟩ (.bool true)).setCell ⟨b2, 3, none⟩ (.slice none 0 0) = X at hput
    have HX := hide hX
    have HP := hide hput
    clear hX hput hHeld
    refine Ways.one (i := 7) (by kernel_rfl) rfl (fun K hK => ?_)
    go_simp
    rw [HX.out]
    clear a0 a1 a2 a3 g0 g1 g2 g3 HX
    have NX := HP.out.2.2.1
    have hHeld := And.intro ((HP.out.2.1 b1 (Ne.symm NE.out.1)).trans HD9.out.1) (And.intro ((NX b5 0 (Ne.symm NE.out.2)).trans HD9.out.2.1) (And.intro ((NX b5 1 (Ne.symm NE.out.2)).trans HD9.out.2.2.1) (And.intro ((NX b5 2 (Ne.symm NE.out.2)).trans HD9.out.2.2.2.1) ((NX b5 3 (Ne.symm NE.out.2)).trans HD9.out.2.2.2.2))))
    refine hK.out _ _ hHeld ?_
    clear hK NX
    try simp only [List.setIfInBounds_toArray, List.set_cons_zero, List.set_cons_succ]
    refine Ways.one (i := 8) (by kernel_rfl) rfl (fun K hK => ?_)
    go_simp
    refine hK.out _ _ hHeld ?_
    clear hK hHeld
    try simp only [List.setIfInBounds_toArray, List.set_cons_zero, List.set_cons_succ]
    refine Ways.last (by kernel_rfl) rfl (by kernel_rfl) (fun K hK => ?_)
    go_simp
    refine hK.out _ _ ?_
    clear hK
    have KF := hide ((R4.out.below.trans KA.out).trans HP.out.2.2.2)
    have q0 := HP.out.1.cell 0
    have q1 := HP.out.1.cell 1
    have q2 := HP.out.1.cell 2
    have q3 := HP.out.1.cell 3
    dsimp only [List.getElem?_cons_succ, List.getElem?_cons_zero] at q0 q1 q2 q3
    go_wp2_with fail
    refine bodyPost_ret (v := .tuple #[.agg #[.int .u64 (key : Int), .int .u32 (cook : Int), .bool true, .slice none 0 0], .int .i64 (len : Int), .bool q]) (by simp [results, Try.results120, go_sem, q0, q1, q2, q3]) rfl ⟨rfl, by rw [← HB1.out]; exact KF.out⟩
  · go_wp2_with fail
    have R4 := hide (R3.out.drawn d3)
    generalize W3.drewN d3 = V at R4 ⊢
    clear n2
    have v0 := R4.out.ndl.cell 0
    have v1 := R4.out.ndl.cell 1
    have v2 := R4.out.ndl.cell 2
    have v3 := R4.out.ndl.cell 3
    dsimp only [List.set_cons_succ, List.set_cons_zero, List.getElem?_cons_succ, List.getElem?_cons_zero] at v0 v1 v2 v3
    have hC24 : C.size = 24 := by rw [HC.out]; exact len24 HL.out
    have hhd : V.heap[b1]? = some (.cells C 141 (0, 0)) := by rw [HC.out]; exact R4.out.head
    have lt5 := R4.out.lt
    have R4L : Hid (b1 < V.heap.size ∧ b2 < V.heap.size ∧ b5 < V.heap.size) := hide (by have h1 := R4.out.two; have h2 := R4.out.five; omega)
    clear lt5
    refine Ways.start (fun W => W.heap[b1]? = some (.cells C 141 (0, 0)) ∧ W.cell? ⟨b5, 0, none⟩ = some (.int .u64 (key : Int)) ∧ W.cell? ⟨b5, 1, none⟩ = some (.int .u32 (cook : Int)) ∧ W.cell? ⟨b5, 2, none⟩ = some (.bool false) ∧ W.cell? ⟨b5, 3, none⟩ = some (.slice none 0 0)) 9 10 #[false, false, false, false, false, false, false, false, false, false] (by kernel_rfl) (by kernel_rfl) (by kernel_rfl) ?_
    have hHeld := And.intro hhd (And.intro v0 (And.intro v1 (And.intro v2 v3)))
    have HD := hide hHeld
    clear hhd v0 v1 v2 v3
    refine' Ways.take (i := 0) (oi := ⟨_, _, _, _, _, _⟩) (v := _) rfl (by kernel_rfl) (by kernel_rfl) (by kernel_rfl) (by kernel_rfl) (fun _ _ _ h => h) hHeld (Or.inl ⟨rfl, ?_⟩) ?_
    rotate_left
    · (intro W hW; (try dsimp only at hW); obtain ⟨hh, x0, x1, x2, x3⟩ := hW; go_simp; (try with_reducible rfl))
    try simp only [Act.put, List.setIfInBounds_toArray, List.set_cons_zero, List.set_cons_succ]
    refine' Ways.take (i := 1) (oi := ⟨_, _, _, _, _, _⟩) (v := _) rfl (by kernel_rfl) (by kernel_rfl) (by kernel_rfl) (by kernel_rfl) (fun _ _ _ h => h) hHeld (Or.inl ⟨rfl, ?_⟩) ?_
    rotate_left
    · (intro W hW; (try dsimp only at hW); obtain ⟨hh, x0, x1, x2, x3⟩ := hW; go_simp; (try with_reducible rfl))
    try simp only [Act.put, List.setIfInBounds_toArray, List.set_cons_zero, List.set_cons_succ]
    refine' Ways.take (i := 2) (oi := ⟨_, _, _, _, _, _⟩) (v := .agg C) rfl (by kernel_rfl) (by kernel_rfl) (by kernel_rfl) (by kernel_rfl) (fun _ _ _ h => h) hHeld (Or.inl ⟨rfl, ?_⟩) ?_
    · intro W hW
      obtain ⟨hh, x0, x1, x2, x3⟩ := hW
      unfold execOp
      simp [Instr.loadAt, Instr.sureAddr, Act.eval, run_loadVar_row W b1 141 141 C (0, 0) _ hh Try.underlying141 rfl (by rw [Try.info_head, hC24])]
    try simp only [Act.put, List.setIfInBounds_toArray, List.set_cons_zero, List.set_cons_succ]
    refine' Ways.take (i := 3) (oi := ⟨_, _, _, _, _, _⟩) (v := _) rfl (by kernel_rfl) (by kernel_rfl) (by kernel_rfl) (by kernel_rfl) (fun _ _ _ h => h) hHeld (Or.inl ⟨rfl, ?_⟩) ?_
    rotate_left
    · (intro W hW; (try dsimp only at hW); obtain ⟨hh, x0, x1, x2, x3⟩ := hW; go_simp; (try with_reducible rfl))
    try simp only [Act.put, List.setIfInBounds_toArray, List.set_cons_zero, List.set_cons_succ]
    refine' Ways.take (i := 4) (oi := ⟨_, _, _, _, _, _⟩) (v := _) rfl (by kernel_rfl) (by kernel_rfl) (by kernel_rfl) (by kernel_rfl) (fun _ _ _ h => h) hHeld (Or.inl ⟨rfl, ?_⟩) ?_
    rotate_left
    · (intro W hW; (try dsimp only at hW); obtain ⟨hh, x0, x1, x2, x3⟩ := hW; go_simp; (try with_reducible rfl))
    try simp only [Act.put, List.setIfInBounds_toArray, List.set_cons_zero, List.set_cons_succ]
    refine Ways.one (i := 5) (by kernel_rfl) rfl (fun K hK => ?_)
    go_simp
    go_at_call 83
    obtain ⟨G, hG⟩ : ∃ G, G = head24 key cook false len := ⟨_, rfl⟩
    have hGl : G.length = 24 := by rw [hG]; exact head24_len _ _ _ _
    have hqG : decide (H = G) = q := by rw [hG]; exact HE.out.2.2.2.2.1.symm
    refine (headOf_any key cook false none 0 0 len V.drew hkl hcl (by have := LEN.out; omega)).mono ?_
    rw [← hG]
    rintro e w9 ⟨rfl, k9⟩
    have HG := hide (And.intro hGl hqG)
    clear hG hGl hqG
    have K9 : Below V.heap.size V w9 := ⟨k9.os, k9.tape, k9.output, k9.size, k9.block⟩
    have hh := (K9.block b1 R4L.out.1).trans HD.out.1
    have x0 := (K9.cell (p := ⟨b5, 0, none⟩) R4L.out.2.2).trans HD.out.2.1
    have x1 := (K9.cell (p := ⟨b5, 1, none⟩) R4L.out.2.2).trans HD.out.2.2.1
    have x2 := (K9.cell (p := ⟨b5, 2, none⟩) R4L.out.2.2).trans HD.out.2.2.2.1
    have x3 := (K9.cell (p := ⟨b5, 3, none⟩) R4L.out.2.2).trans HD.out.2.2.2.2
    have NE : Hid (b2 ≠ b1 ∧ b2 ≠ b5) := hide (by have h1 := R4.out.two; have h2 := R4.out.five; omega)
    have KA := hide (K9.mono (show b1 ≤ V.heap.size by have := R4L.out.1; omega))
    have AN := hide (R4.out.ans.keep K9)
    refine hK.out _ _ ⟨hh, x0, x1, x2, x3⟩ ?_
    clear hK hHeld k9
    have hHeld := And.intro hh (And.intro x0 (And.intro x1 (And.intro x2 x3)))
    have HD9 := hide hHeld
    clear hh x0 x1 x2 x3
    try simp only [List.setIfInBounds_toArray, List.set_cons_zero, List.set_cons_succ]
    refine' Ways.take (i := 6) (oi := ⟨_, _, _, _, _, _⟩) (v := .bool q) rfl (by kernel_rfl) (by kernel_rfl) (by kernel_rfl) (by kernel_rfl) (fun _ _ _ h => h) hHeld (Or.inl ⟨rfl, ?_⟩) ?_
    · intro W hW
      have he : (binOp .eql 141 (.agg C) (.agg (u8s G).toArray)).run Try.prog W = .ok (.bool q) W := by rw [HC.out, run_eql_arr Try.underlying141 HL.out HG.out.1, HG.out.2]
      unfold execOp
      simp [Act.eval, eqGuard, he, Sem.run_bind]
    try simp only [Act.put, List.setIfInBounds_toArray, List.set_cons_zero, List.set_cons_succ]
    have a0 := AN.out.cell 0
    have a1 := AN.out.cell 1
    have a2 := AN.out.cell 2
    have a3 := AN.out.cell 3
    have g0 := AN.out.frozen 0
    have g1 := AN.out.frozen 1
    have g2 := AN.out.frozen 2
    have g3 := AN.out.frozen 3
    dsimp only [List.getElem?_cons_succ, List.getElem?_cons_zero] at a0 a1 a2 a3
    have hput := put4_ AN.out (.int .u64 (key : Int)) (.int .u32 (cook : Int)) (.bool false) (.slice none 0 0) _ rfl
    generalize hX : (((w9.setCell ⟨b2, 0, none⟩ (.int .u64 (key : Int))).setCell ⟨b2, 1, none⟩ (.int .u32 (cook : Int))).setCell ⟨b2, 2, none⟩ (.bool false)).setCell ⟨b2, 3, none⟩ (.slice none 0 0) = X at hput
    have HX := hide hX
    have HP := hide hput
    clear hX hput hHeld
    refine Ways.one (i := 7) (by kernel_rfl) rfl (fun K hK => ?_)
    go_simp
    rw [HX.out]
    clear a0 a1 a2 a3 g0 g1 g2 g3 HX
    have NX := HP.out.2.2.1
    have hHeld := And.intro ((HP.out.2.1 b1 (Ne.symm NE.out.1)).trans HD9.out.1) (And.intro ((NX b5 0 (Ne.symm NE.out.2)).trans HD9.out.2.1) (And.intro ((NX b5 1 (Ne.symm NE.out.2)).trans HD9.out.2.2.1) (And.intro ((NX b5 2 (Ne.symm NE.out.2)).trans HD9.out.2.2.2.1) ((NX b5 3 (Ne.symm NE.out.2)).trans HD9.out.2.2.2.2))))
    refine hK.out _ _ hHeld ?_
    clear hK NX
    try simp only [List.setIfInBounds_toArray, List.set_cons_zero, List.set_cons_succ]
    refine Ways.one (i := 8) (by kernel_rfl) rfl (fun K hK => ?_)
    go_simp
    refine hK.out _ _ hHeld ?_
    clear hK hHeld
    try simp only [List.setIfInBounds_toArray, List.set_cons_zero, List.set_cons_succ]
    refine Ways.last (by kernel_rfl) rfl (by kernel_rfl) (fun K hK => ?_)
    go_simp
    refine hK.out _ _ ?_
    clear hK
    have KF := hide ((R4.out.below.trans KA.out).trans HP.out.2.2.2)
    have q0 := HP.out.1.cell 0
    have q1 := HP.out.1.cell 1
    have q2 := HP.out.1.cell 2
    have q3 := HP.out.1.cell 3
    dsimp only [List.getElem?_cons_succ, List.getElem?_cons_zero] at q0 q1 q2 q3
    go_wp2_with fail
    refine bodyPost_ret (v := .tuple #[.agg #[.int .u64 (key : Int), .int .u32 (cook : Int), .bool false, .slice none 0 0], .int .i64 (len : Int), .bool q]) (by simp [results, Try.results120, go_sem, q0, q1, q2, q3]) rfl ⟨rfl, by rw [← HB1.out]; exact KF.out⟩
end Go.Proofs.Ytehgjkckhjggbaa
namespace Go.Proofs.Ytehgjkckhjggbaa
open Go.RowKit
set_option maxRecDepth 100000 in
set_option maxHeartbeats 3200000 in
theorem read_bad (H : List Nat) (w : World) (hl : H.length = 24) (hb : ∀ x ∈ H, x < 256) (ho : ¬ (hLen H ≤ 65536 ∧ ¬ (hDead H = true ∧ 0 < hLen H))) :
    Calls Try.prog 120 #[.agg (u8s H).toArray] w fun e w' => e = .returned (.tuple #[.agg #[.int .u64 0, .int .u32 0, .bool false, .slice none 0 0], .int .i64 0, .bool false]) ∧ Below w.heap.size w w' := by
  obtain ⟨C, hC⟩ : ∃ C, C = (u8s H).toArray := ⟨_, rfl⟩
  rw [← hC]
  have HC := hide hC
  clear hC
  have hkl := hKey_lt hb
  have hcl := hCook_lt hb
  obtain ⟨key, hkey⟩ : ∃ k, k = hKey H := ⟨_, rfl⟩
  obtain ⟨cook, hcook⟩ : ∃ k, k = hCook H := ⟨_, rfl⟩
  obtain ⟨len, hlen⟩ : ∃ k, k = hLen H := ⟨_, rfl⟩
  obtain ⟨d, hd⟩ : ∃ d, d = hDead H := ⟨_, rfl⟩
  rw [← hkey] at hkl
  rw [← hcook] at hcl
  rw [← hlen, ← hd] at ho
  obtain ⟨q, hq⟩ : ∃ q : Bool, q = true := ⟨_, rfl⟩
  obtain ⟨y, hy⟩ : ∃ y, y = H.getD 2 0 := ⟨_, rfl⟩
  have hyd : ((y : Int) == 1) = d := by
    rw [hd, hy]
    unfold hDead
    by_cases h : H.getD 2 0 = 1
    · rw [h]; rfl
    · have e1 : (H.getD 2 0 == 1) = false := by simpa using h
      rw [e1]
      simp only [beq_eq_false_iff_ne, ne_eq]
      omega
  have HL := hide hl
  have HB := hide hb
  have HE := hide (And.intro hkey (And.intro hcook (And.intro hlen (And.intro hd (And.intro hq hy)))))
  have B4 : Hid (∀ x ∈ H.drop 4, x < 256) := hide (fun x hx => hb x (List.mem_of_mem_drop hx))
  have B12 : Hid (∀ x ∈ H.drop 12, x < 256) := hide (fun x hx => hb x (List.mem_of_mem_drop hx))
  have B16 : Hid (∀ x ∈ H.drop 16, x < 256) := hide (fun x hx => hb x (List.mem_of_mem_drop hx))
  clear hl hb hkey hcook hlen hd hq hy
  have r0 := rdr_new w H C HC.out
  go_enter Try.func120, Try.ntmps120
  go_upto_region 2 with (fail)
  generalize (((w.alloc (.cells C 141)).alloc (.cells #[.int .u64 0, .int .u32 0, .bool false, .slice none 0 0] 35)).alloc (.cells #[.int .u64 0, .int .u32 0, .bool false, .slice none 0 0] 35)) = W at r0 ⊢
  obtain ⟨b5, hb5⟩ : ∃ b, b = w.heap.size + 1 + 1 := ⟨_, rfl⟩
  rw [← hb5] at r0 ⊢
  obtain ⟨b2, hb2⟩ : ∃ b, b = w.heap.size + 1 := ⟨_, rfl⟩
  rw [← hb2] at r0 ⊢
  obtain ⟨b1, hb1⟩ : ∃ b, b = w.heap.size := ⟨_, rfl⟩
  rw [← hb1] at r0 ⊢
  have HB1 := hide hb1
  clear hb5 hb2 hb1
  have x2 : W.cell? ⟨b1, 2, none⟩ = some (.int .u8 (y : Int)) := by
    rw [cell_of_row W b1 2 _ _ _ r0.head, u8s_at H 2 (by rw [HL.out]; decide), HE.out.2.2.2.2.2]
  have n2 := r0.ndl.cell 2
  have f2 := r0.ndl.frozen 2
  have R1 := hide (r0.put 2 (.bool d))
  clear r0
  dsimp only [List.getElem?_cons_succ, List.getElem?_cons_zero] at n2
  go_wp2_with fail
  generalize W.setCell ⟨b5, 2, none⟩ (.bool d) = W1 at R1 ⊢
  clear x2 n2 f2
  refine (get64_any (some ⟨b1, 4, none⟩) 20 20 (H.drop 4) W1 (R1.out.isB HL.out 4 20 rfl).rd (by rw [List.length_drop, HL.out]) B4.out (by decide) (by decide) (by decide)).mono ?_
  rintro e w1 ⟨rfl, rfl⟩
  rw [show foldV ((H.drop 4).take 8) = key from HE.out.1.symm]
  have n0 := R1.out.ndl.cell 0
  have f0 := R1.out.ndl.frozen 0
  have R2 := hide (R1.out.put 0 (.int .u64 (key : Int)))
  dsimp only [List.set_cons_succ, List.set_cons_zero, List.getElem?_cons_succ, List.getElem?_cons_zero] at n0
  go_wp2_with fail
  generalize W1.setCell ⟨b5, 0, none⟩ (.int .u64 (key : Int)) = W2 at R2 ⊢
  clear n0 f0 R1
  refine (get32_any (some ⟨b1, 12, none⟩) 12 12 (H.drop 12) W2 (R2.out.isB HL.out 12 12 rfl).rd (by rw [List.length_drop, HL.out]) B12.out (by decide) (by decide)).mono ?_
  rintro e w1 ⟨rfl, d2, rfl⟩
  rw [show val32 (H.drop 12) = cook from HE.out.2.1.symm]
  have n1 := R2.out.ndl.cell 1
  have f1 := R2.out.ndl.frozen 1
  dsimp only [List.set_cons_succ, List.set_cons_zero, List.getElem?_cons_succ, List.getElem?_cons_zero] at n1
  go_wp2_with fail
  generalize hW3 : (W2.drewN d2).setCell ⟨b5, 1, none⟩ (.int .u32 (cook : Int)) = W3
  have R3 : Hid (Rdr w W3 b1 b2 b5 H [.int .u64 (key : Int), .int .u32 (cook : Int), .bool d, .slice none 0 0]) := hide (by rw [← hW3]; exact (R2.out.drawn d2).put 1 (.int .u32 (cook : Int)))
  clear n1 f1 R2 hW3
  refine (get32_any (some ⟨b1, 16, none⟩) 8 8 (H.drop 16) W3 (R3.out.isB HL.out 16 8 rfl).rd (by rw [List.length_drop, HL.out]) B16.out (by decide) (by decide)).mono ?_
  rintro e w1 ⟨rfl, d3, rfl⟩
  rw [show val32 (H.drop 16) = len from HE.out.2.2.1.symm]
  have n2 := R3.out.ndl.cell 2
  dsimp only [List.set_cons_succ, List.set_cons_zero, List.getElem?_cons_succ, List.getElem?_cons_zero] at n2
  have hgo : (65536 : Int) < (len : Int) ∨ ¬ ((65536 : Int) < (len : Int)) ∧ d = true ∧ (0 : Int) < (len : Int) := by
    by_cases h1 : len ≤ 65536
    · refine .inr ⟨by omega, ?_⟩
      by_cases h2 : d = true ∧ 0 < len
      · exact ⟨h2.1, by omega⟩
      · exact absurd ⟨h1, h2⟩ ho
    · exact .inl (by omega)
  have R4 := hide (R3.out.drawn d3)
  have n2' := (R3.out.drawn d3).ndl.cell 2
  have hput := put4_ (R3.out.drawn d3).ans (.int .u64 0) (.int .u32 0) (.bool false) (.slice none 0 0) _ rfl
  generalize W3.drewN d3 = V at R4 hput n2' ⊢
  generalize hX : (((V.setCell ⟨b2, 0, none⟩ (.int .u64 0)).setCell ⟨b2, 1, none⟩ (.int .u32 0)).setCell ⟨b2, 2, none⟩ (.bool false)).setCell ⟨b2, 3, none⟩ (.slice none 0 0) = X at hput
  have HX := hide hX
  have HP := hide hput
  clear ho hyd hX hput n2
  dsimp only [List.set_cons_succ, List.set_cons_zero, List.getElem?_cons_succ, List.getElem?_cons_zero] at n2'
  have a0 := R4.out.ans.cell 0
  have a1 := R4.out.ans.cell 1
  have a2 := R4.out.ans.cell 2
  have a3 := R4.out.ans.cell 3
  have g0 := R4.out.ans.frozen 0
  have g1 := R4.out.ans.frozen 1
  have g2 := R4.out.ans.frozen 2
  have g3 := R4.out.ans.frozen 3
  dsimp only [List.getElem?_cons_succ, List.getElem?_cons_zero] at a0 a1 a2 a3
  have KF := hide (R4.out.below.trans HP.out.2.2.2)
  have q0 := HP.out.1.cell 0
  have q1 := HP.out.1.cell 1
  have q2 := HP.out.1.cell 2
  have q3 := HP.out.1.cell 3
  dsimp only [List.getElem?_cons_succ, List.getElem?_cons_zero] at q0 q1 q2 q3
  rcases hgo with hz | ⟨hz, rfl, hz2⟩
  all_goals
    go_wp2_with fail
    rw [HX.out]
    refine bodyPost_ret (v := .tuple #[.agg #[.int .u64 0, .int .u32 0, .bool false, .slice none 0 0], .int .i64 0, .bool false]) (by simp [results, Try.results120, go_sem, q0, q1, q2, q3]) rfl ⟨rfl, by rw [← HB1.out]; exact KF.out⟩
end Go.Proofs.Ytehgjkckhjggbaa
