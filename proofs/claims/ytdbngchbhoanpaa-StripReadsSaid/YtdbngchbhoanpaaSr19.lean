/- The contract of the reader's place: three numbers, a cookie, a flag, or as much as is left of them. Condition: at most 1000000000 bytes. -/
import Derived.Test.YtdbngchbhoanpaaSr18
import Derived.Test.YtdbngchbhoanpaaSr13
namespace Go.Proofs.Ytdbngchbhoanpaa
open Go.RowKit
attribute [local go_sem] Oper.semAt_some
def plcR (rest : List Nat) : Plc × List Nat :=
  let r1 := rest.drop (numR rest)
  let r2 := r1.drop (numR r1)
  let r3 := r2.drop (numR r2)
  (⟨(rvl 0 0 rest).1, IntKind.i64.wrap ((rvl 0 0 r1).1 : Nat), IntKind.i64.wrap ((rvl 0 0 r2).1 : Nat), if 4 ≤ (r3.take 4).length then val32 (r3.take 4) else 0, ((r3.drop 4).getD 0 0 : Int) == 1⟩, (r3.drop 4).drop 1)
theorem RdAt.keep {w w' : World} {B g : Nat} {rest : List Nat} (h : RdAt w B g rest) (k : Below w.heap.size w w') : RdAt w' B g rest := by
  obtain ⟨A, n, c, h1, h2, h3⟩ := h.out
  exact ⟨⟨A, n, c, h1.keep k, h2.keep k, h3⟩⟩
theorem RdAt.lt {w : World} {B g : Nat} {rest : List Nat} (h : RdAt w B g rest) : g < w.heap.size := by
  obtain ⟨A, n, c, h1, _⟩ := h.out
  exact h1.lt
theorem isB_offT {w w' : World} {z : Nat} {cs : List Value} {v : Value} {xs : List Nat} (hi : IsB w v xs) (hb : Blk w 0 36 z cs) (t : Turn (fun j => j = z) w w') (hc : ∀ o, o < 5 → ∀ y, cs[o]? ≠ some (.int .u8 y)) (h5 : cs.length = 5) : IsB w' v xs := by
  refine isB_turnU hi t (fun j e o u hu y => ?_)
  subst e
  rw [hb.cell o] at hu
  intro he
  subst he
  rcases Nat.lt_or_ge o 5 with ho | ho
  · exact hc o ho y hu
  · rw [List.getElem?_eq_none (by omega)] at hu; cases hu
theorem RdAt.setP {w : World} {B g z k : Nat} {cs : List Value} {u : Value} {rest : List Nat} (h : RdAt w B g rest) (hb : Blk w 0 36 z cs) (hne : g ≠ z) (hc : ∀ o, o < 5 → ∀ y, cs[o]? ≠ some (.int .u8 y)) (h5 : cs.length = 5) : RdAt (w.setCell ⟨z, k, none⟩ u) B g rest := by
  obtain ⟨A, n, c, h1, h2, h3⟩ := h.out
  have ts : Turn (fun j => j = z) w (w.setCell ⟨z, k, none⟩ u) := (Turn.of_grown (grown_set w z k u)).mono (fun j e => by simpa using e)
  exact ⟨⟨A, n, c, h1.turn ts hne, isB_offT h2 hb ts hc h5, h3⟩⟩
theorem no8 {key : Int} {a m : Int} {ck : Int} {dd : Bool} : ∀ o, o < 5 → ∀ y, [Value.int .u64 key, .int .i64 a, .int .i64 m, .int .u32 ck, .bool dd][o]? ≠ some (.int .u8 y) := by
  intro o ho y h
  match o, ho with
  | 0, _ => cases h
  | 1, _ => cases h
  | 2, _ => cases h
  | 3, _ => cases h
  | 4, _ => cases h
theorem no8' {key : Int} {a m : Int} {ck : Int} {dd : Bool} : ∀ (o : Nat) (y : Int), [Value.int .u64 key, .int .i64 a, .int .i64 m, .int .u32 ck, .bool dd][o]? ≠ some (Value.int .u8 y) := by
  intro o y h
  rcases Nat.lt_or_ge o 5 with ho | ho
  · exact no8 o ho y h
  · rw [List.getElem?_eq_none (by simpa using ho)] at h; cases h
theorem RdAt.turn2 {w w' : World} {B g z1 z0 : Nat} {cs1 cs0 : List Value} {rest : List Nat} (h : RdAt w B g rest) (t : Turn (fun j => j = z1 ∨ j = z0) w w') (h1 : Blk w 0 36 z1 cs1) (h0 : Blk w 0 36 z0 cs0)
    (n1 : ∀ (o : Nat) (y : Int), cs1[o]? ≠ some (Value.int .u8 y)) (n0 : ∀ (o : Nat) (y : Int), cs0[o]? ≠ some (Value.int .u8 y)) (hg1 : ¬ g = z1) (hg0 : ¬ g = z0) : RdAt w' B g rest := by
  obtain ⟨A, n, c, b1, i1, r1⟩ := h.out
  refine ⟨⟨A, n, c, b1.turn t (fun e => e.elim hg1 hg0), isB_turnU i1 t (fun j e o u hu y he => ?_), r1⟩⟩
  subst he
  rcases e with e | e
  · subst e; rw [h1.cell o] at hu; exact n1 o y hu
  · subst e; rw [h0.cell o] at hu; exact n0 o y hu
theorem set_ts (w : World) (z k : Nat) (u : Value) : Turn (fun j => j = z) w (w.setCell ⟨z, k, none⟩ u) := (Turn.of_grown (grown_set w z k u)).mono (fun j e => by simpa using e)
theorem get32_len (A : Option Addr) (n c : Nat) (xs : List Nat) (w : World) (hA : Rd w A xs) (hn : n = xs.length) (hb : ∀ x ∈ xs, x < 256) (ln : n ≤ 9223372036854775807) :
    Calls Try.prog 40 #[.slice A n c] w fun e w' => (∃ er, e = .returned (.tuple #[.int .u32 ((if 4 ≤ xs.length then val32 xs else 0 : Nat) : Int), er])) ∧ ∃ d, w' = w.drewN d := by
  by_cases h4 : 4 ≤ n
  · rw [if_pos (by rw [← hn]; exact h4)]
    refine (get32_any A n c xs w hA hn hb h4 ln).mono ?_
    rintro e w1 ⟨rfl, d, rfl⟩
    exact ⟨⟨_, rfl⟩, d, rfl⟩
  · rw [if_neg (by rw [← hn]; exact h4)]
    refine (get32_short A n c w (by omega)).mono ?_
    rintro e w1 ⟨rfl, rfl⟩
    exact ⟨⟨_, rfl⟩, 0, rfl⟩
set_option maxRecDepth 100000 in
set_option maxHeartbeats 64000000 in
theorem place_anyR (B g : Nat) (rest : List Nat) (w : World) (h : RdAt w B g rest) (hb : ∀ x ∈ rest, x < 256) (h9 : rest.length ≤ 1000000000) :
    Calls Try.prog 43 #[.pointer (some ⟨g, 0, none⟩)] w fun e w' => e = .returned (plcV (plcR rest).1) ∧ RdAt w' B g (plcR rest).2 ∧ Turn (fun j => j = g) w w' := by
  have k0 := below_alloc w (.cells #[.int .u64 0, .int .i64 0, .int .i64 0, .int .u32 0, .bool false] 36)
  have NA := hide (fun (r : List Nat) (w : World) (h : RdAt w B g r) (hr : ∀ x ∈ r, x < 256) (h9 : r.length ≤ 1000000000) => number_anyR B g r w h hr h9 (by have := (rvl_le r 0 0 (by omega) (by decide)).2.1; omega))
  have H0 := hide (h.keep k0)
  have hgz := h.lt
  have BZ := hide (Blk.new w (B := 0) 36 #[.int .u64 0, .int .i64 0, .int .i64 0, .int .u32 0, .bool false] (Nat.zero_le _))
  have TW := hide (Turn.of_below (fun j => j = g) k0)
  obtain ⟨r1, e1⟩ : ∃ r, r = rest.drop (numR rest) := ⟨_, rfl⟩
  obtain ⟨r2, e2⟩ : ∃ r, r = r1.drop (numR r1) := ⟨_, rfl⟩
  obtain ⟨r3, e3⟩ : ∃ r, r = r2.drop (numR r2) := ⟨_, rfl⟩
  have hb1 : ∀ x ∈ r1, x < 256 := by rw [e1]; exact fun x hx => hb x (List.mem_of_mem_drop hx)
  have hb2 : ∀ x ∈ r2, x < 256 := by rw [e2]; exact fun x hx => hb1 x (List.mem_of_mem_drop hx)
  have hb3 : ∀ x ∈ r3, x < 256 := by rw [e3]; exact fun x hx => hb2 x (List.mem_of_mem_drop hx)
  have l1 : r1.length ≤ 1000000000 := by rw [e1, List.length_drop]; omega
  have l2 : r2.length ≤ 1000000000 := by rw [e2, List.length_drop]; omega
  have l3 : r3.length ≤ 1000000000 := by rw [e3, List.length_drop]; omega
  have hp : plcR rest = (⟨(rvl 0 0 rest).1, IntKind.i64.wrap ((rvl 0 0 r1).1 : Nat), IntKind.i64.wrap ((rvl 0 0 r2).1 : Nat), if 4 ≤ (r3.take 4).length then val32 (r3.take 4) else 0, ((r3.drop 4).getD 0 0 : Int) == 1⟩, (r3.drop 4).drop 1) := by
    rw [e3, e2, e1]
    rfl
  rw [hp]
  have C0 := hide (fun (w : World) (h : RdAt w B g rest) => NA.out rest w h hb h9)
  have C1 := hide (fun (w : World) (h : RdAt w B g r1) => NA.out r1 w h hb1 l1)
  have C2 := hide (fun (w : World) (h : RdAt w B g r2) => NA.out r2 w h hb2 l2)
  rw [← e1] at C0
  rw [← e2] at C1
  rw [← e3] at C2
  obtain ⟨v0, hv0⟩ : ∃ v, v = (rvl 0 0 rest).1 := ⟨_, rfl⟩
  obtain ⟨v1, hv1⟩ : ∃ v, v = (rvl 0 0 r1).1 := ⟨_, rfl⟩
  obtain ⟨v2, hv2⟩ : ∃ v, v = (rvl 0 0 r2).1 := ⟨_, rfl⟩
  rw [← hv0] at C0 ⊢
  rw [← hv1] at C1 ⊢
  rw [← hv2] at C2 ⊢
  obtain ⟨y1, hy1⟩ : ∃ y, IntKind.i64.wrap (v1 : Int) = y := ⟨_, rfl⟩
  obtain ⟨y2, hy2⟩ : ∃ y, IntKind.i64.wrap (v2 : Int) = y := ⟨_, rfl⟩
  rw [hy1, hy2]
  obtain ⟨r4, hr4⟩ : ∃ r, r = r3.drop 4 := ⟨_, rfl⟩
  obtain ⟨ck, hck⟩ : ∃ x, x = (if 4 ≤ (r3.take 4).length then val32 (r3.take 4) else 0) := ⟨_, rfl⟩
  obtain ⟨fl, hfl⟩ : ∃ x, x = ((r4.getD 0 0 : Int) == 1) := ⟨_, rfl⟩
  rw [← hr4, ← hck, ← hfl]
  have HR4 := hide hr4
  have HCK := hide hck
  have HFL := hide hfl
  have hb4 : ∀ x ∈ r4, x < 256 := by rw [hr4]; exact fun x hx => hb3 x (List.mem_of_mem_drop hx)
  clear hr4 hck hfl
  clear k0 h hb NA e1 e2 e3 hb1 hb2 l1 l2 hv0 hv1 hv2 hp
  go_enter Try.func43, Try.ntmps43
  go_wp2_with fail
  refine (C0.out _ H0.out).mono ?_
  rintro e w1 ⟨rfl, h1, t1⟩
  have BZ1 := hide (BZ.out.turn t1 (by omega))
  have TW1 := hide (TW.out.trans t1)
  have H1 := hide h1
  clear h1 t1 BZ TW H0
  go_wp2_with fail
  refine (C1.out _ H1.out).mono ?_
  rintro e w2 ⟨rfl, h2, t2⟩
  have BZ2 := hide (BZ1.out.turn t2 (by omega))
  have TW2 := hide (TW1.out.trans t2)
  have H2 := hide h2
  clear h2 t2 BZ1 TW1 H1
  go_wp2_with fail
  refine (C2.out _ H2.out).mono ?_
  rintro e w3 ⟨rfl, h3, t3⟩
  have BZ3 := hide (BZ2.out.turn t3 (by omega))
  have TW3 := hide (TW2.out.trans t3)
  have H3 := hide h3
  clear h3 t3 BZ2 TW2 H2
  go_wp2_with fail
  obtain ⟨z1, hz1⟩ : ∃ z, z = w3.heap.size := ⟨_, rfl⟩
  have k4 := below_alloc w3 (.cells #[.int .u64 (v0 : Int), .int .i64 y1, .int .i64 y2, .int .u32 0, .bool false] 36)
  have B4 := hide (Blk.new w3 (B := 0) 36 #[.int .u64 (v0 : Int), .int .i64 y1, .int .i64 y2, .int .u32 0, .bool false] (Nat.zero_le _))
  have H4 := hide (H3.out.keep k4)
  have BZ4 : Hid (Blk _ 0 36 w.heap.size [.int .u64 0, .int .i64 0, .int .i64 0, .int .u32 0, .bool false]) := hide (BZ3.out.keep k4)
  have TW4 := hide (TW3.out.trans (Turn.of_below _ k4))
  have hgz1 : w.heap.size < z1 := by have := BZ3.out.lt; omega
  rw [← hz1] at B4 ⊢
  clear k4 BZ3 TW3 H3 hz1
  generalize w3.alloc (.cells #[.int .u64 (v0 : Int), .int .i64 y1, .int .i64 y2, .int .u32 0, .bool false] 36) = W4 at *
  refine (take_any B g 4 r3 W4 H4.out (by omega)).mono ?_
  rintro e w5 ⟨A5, n5, c5, rfl, i5, l5, h5, t5⟩
  have B5 := hide (B4.out.turn t5 (by omega))
  have BZ5 := hide (BZ4.out.turn t5 (by omega))
  have TW5 := hide (TW4.out.trans t5)
  have H5 := hide h5
  have I5 := hide i5
  have L5 := hide l5
  rw [← HR4.out] at H5
  clear t5 h5 i5 l5 B4 H4 BZ4 TW4
  go_wp2_with fail
  refine (get32_len A5 n5 c5 (r3.take 4) w5 I5.out.rd L5.out.symm (fun x hx => hb3 x (List.mem_of_mem_take hx)) (by have := L5.out; rw [List.length_take] at this; omega)).mono ?_
  rw [← HCK.out]
  rintro e w6 ⟨⟨er, rfl⟩, d, rfl⟩
  have B6 := hide (B5.out.drewN d)
  have BZ6 := hide (BZ5.out.drewN d)
  have TW6 := hide (TW5.out.drewN d)
  have H6 : Hid (RdAt (w5.drewN d) B g r4) := hide (H5.out.keep (below_drewN (Below.refl _ _) d))
  clear I5 L5 B5 BZ5 TW5 H5
  generalize w5.drewN d = W6 at *
  have hne1 : ¬ g = z1 := by omega
  have a0 := B6.out.cell 0
  have g0 := B6.out.frozen 0
  have a1 := B6.out.cell 1
  have g1 := B6.out.frozen 1
  have a2 := B6.out.cell 2
  have g2 := B6.out.frozen 2
  have a3 := B6.out.cell 3
  have g3 := B6.out.frozen 3
  have a4 := B6.out.cell 4
  have g4 := B6.out.frozen 4
  dsimp only [Array.toList, List.set_cons_succ, List.set_cons_zero, List.getElem?_cons_zero, List.getElem?_cons_succ] at a0 a1 a2 a3 a4
  go_wp2_with fail
  have ts : Turn (fun j => j = z1) W6 (W6.setCell ⟨z1, 3, none⟩ (.int .u32 (ck : Int))) := (Turn.of_grown (grown_set W6 z1 3 _)).mono (fun j e => by simpa using e)
  have H7 := hide (H6.out.setP (k := 3) (u := .int .u32 (ck : Int)) B6.out hne1 no8 rfl)
  have B7 : Hid (Blk (W6.setCell ⟨z1, 3, none⟩ (.int .u32 (ck : Int))) 0 36 z1 [.int .u64 (v0 : Int), .int .i64 y1, .int .i64 y2, .int .u32 (ck : Int), .bool false]) := hide (B6.out.stored 3 (.int .u32 (ck : Int)))
  have BZ7 := hide (BZ6.out.turn ts (by omega))
  have TW7 : Hid (Turn (fun j => j = g) w (W6.setCell ⟨z1, 3, none⟩ (.int .u32 (ck : Int)))) := hide (TW6.out.then ts (fun j e => .inr (by have e : j = z1 := e; omega)))
  clear a0 a1 a2 a3 a4 g0 g1 g2 g3 g4 H6 B6 BZ6 TW6 ts
  generalize W6.setCell ⟨z1, 3, none⟩ (.int .u32 (ck : Int)) = W7 at *
  refine (take_any B g 1 r4 W7 H7.out (by omega)).mono ?_
  rintro e w8 ⟨A8, n8, c8, rfl, i8, l8, h8, t8⟩
  have B8 := hide (B7.out.turn t8 (fun e => hne1 e.symm))
  have BZ8 := hide (BZ7.out.turn t8 (by omega))
  have TW8 := hide (TW7.out.trans t8)
  have H8 := hide h8
  have I8 := hide i8
  have L8 := hide l8
  clear t8 h8 i8 l8 H7 B7 BZ7 TW7
  dsimp only
  rcases hr4 : r4 with _ | ⟨x, r5⟩
  · have hn8 : n8 = 0 := by rw [← L8.out, hr4]; rfl
    subst hn8
    have hfl0 := HFL.out
    rw [hr4] at hfl0
    have hfl : fl = false := hfl0
    clear hfl0
    subst hfl
    subst hr4
    have a0 := B8.out.cell 0
    have g0 := B8.out.frozen 0
    have a1 := B8.out.cell 1
    have g1 := B8.out.frozen 1
    have a2 := B8.out.cell 2
    have g2 := B8.out.frozen 2
    have a3 := B8.out.cell 3
    have g3 := B8.out.frozen 3
    have a4 := B8.out.cell 4
    have g4 := B8.out.frozen 4
    dsimp only [Array.toList, List.set_cons_succ, List.set_cons_zero, List.getElem?_cons_zero, List.getElem?_cons_succ] at a0 a1 a2 a3 a4
    have q0 := BZ8.out.cell 0
    have f0 := BZ8.out.frozen 0
    have q1 := BZ8.out.cell 1
    have f1 := BZ8.out.frozen 1
    have q2 := BZ8.out.cell 2
    have f2 := BZ8.out.frozen 2
    have q3 := BZ8.out.cell 3
    have f3 := BZ8.out.frozen 3
    have q4 := BZ8.out.cell 4
    have f4 := BZ8.out.frozen 4
    dsimp only [Array.toList, List.set_cons_succ, List.set_cons_zero, List.getElem?_cons_zero, List.getElem?_cons_succ] at q0 q1 q2 q3 q4
    go_wp2_with fail
    have b9 := ((((((BZ8.out.turn (set_ts w8 z1 4 (.bool false)) (by omega)).stored 0 (.int .u64 (v0 : Int))).stored 1 (.int .i64 y1)).stored 2 (.int .i64 y2)).stored 3 (.int .u32 (ck : Int))).stored 4 (.bool false))
    have t9 : Turn (fun j => j = z1 ∨ j = w.heap.size) w8 ((((((w8.setCell ⟨z1, 4, none⟩ (.bool false)).setCell ⟨w.heap.size, 0, none⟩ (.int .u64 (v0 : Int))).setCell ⟨w.heap.size, 1, none⟩ (.int .i64 y1)).setCell ⟨w.heap.size, 2, none⟩ (.int .i64 y2)).setCell ⟨w.heap.size, 3, none⟩ (.int .u32 (ck : Int))).setCell ⟨w.heap.size, 4, none⟩ (.bool false)) := (((((((set_ts w8 z1 4 (.bool false)).mono (fun j e => .inl e)).trans ((set_ts (w8.setCell ⟨z1, 4, none⟩ (.bool false)) w.heap.size 0 (.int .u64 (v0 : Int))).mono (fun j e => .inr e))).trans ((set_ts ((w8.setCell ⟨z1, 4, none⟩ (.bool false)).setCell ⟨w.heap.size, 0, none⟩ (.int .u64 (v0 : Int))) w.heap.size 1 (.int .i64 y1)).mono (fun j e => .inr e))).trans ((set_ts (((w8.setCell ⟨z1, 4, none⟩ (.bool false)).setCell ⟨w.heap.size, 0, none⟩ (.int .u64 (v0 : Int))).setCell ⟨w.heap.size, 1, none⟩ (.int .i64 y1)) w.heap.size 2 (.int .i64 y2)).mono (fun j e => .inr e))).trans ((set_ts ((((w8.setCell ⟨z1, 4, none⟩ (.bool false)).setCell ⟨w.heap.size, 0, none⟩ (.int .u64 (v0 : Int))).setCell ⟨w.heap.size, 1, none⟩ (.int .i64 y1)).setCell ⟨w.heap.size, 2, none⟩ (.int .i64 y2)) w.heap.size 3 (.int .u32 (ck : Int))).mono (fun j e => .inr e))).trans ((set_ts (((((w8.setCell ⟨z1, 4, none⟩ (.bool false)).setCell ⟨w.heap.size, 0, none⟩ (.int .u64 (v0 : Int))).setCell ⟨w.heap.size, 1, none⟩ (.int .i64 y1)).setCell ⟨w.heap.size, 2, none⟩ (.int .i64 y2)).setCell ⟨w.heap.size, 3, none⟩ (.int .u32 (ck : Int))) w.heap.size 4 (.bool false)).mono (fun j e => .inr e)))
    have h9 := H8.out.turn2 t9 B8.out BZ8.out no8' no8' hne1 (by omega)
    have w9 := TW8.out.then t9 (fun j e => .inr (by rcases e with e | e <;> omega))
    clear q0 q1 q2 q3 q4 f0 f1 f2 f3 f4 a0 a1 a2 a3 a4 g0 g1 g2 g3 g4 t9
    generalize ((((((w8.setCell ⟨z1, 4, none⟩ (.bool false)).setCell ⟨w.heap.size, 0, none⟩ (.int .u64 (v0 : Int))).setCell ⟨w.heap.size, 1, none⟩ (.int .i64 y1)).setCell ⟨w.heap.size, 2, none⟩ (.int .i64 y2)).setCell ⟨w.heap.size, 3, none⟩ (.int .u32 (ck : Int))).setCell ⟨w.heap.size, 4, none⟩ (.bool false)) = X9 at *
    have q0 := b9.cell 0
    have f0 := b9.frozen 0
    have q1 := b9.cell 1
    have f1 := b9.frozen 1
    have q2 := b9.cell 2
    have f2 := b9.frozen 2
    have q3 := b9.cell 3
    have f3 := b9.frozen 3
    have q4 := b9.cell 4
    have f4 := b9.frozen 4
    dsimp only [Array.toList, List.set_cons_succ, List.set_cons_zero, List.getElem?_cons_zero, List.getElem?_cons_succ] at q0 q1 q2 q3 q4
    refine bodyPost_ret (v := plcV ⟨v0, y1, y2, ck, false⟩) (by simp [results, Try.results43, go_sem, q0, q1, q2, q3, q4, plcV]) rfl ⟨rfl, h9, w9⟩
  · have hn8 : n8 = 1 := by rw [← L8.out, hr4]; rfl
    subst hn8
    have hfl0 := HFL.out
    rw [hr4] at hfl0
    have hfl : ((x : Int) == 1) = fl := hfl0.symm
    clear hfl0
    obtain ⟨b, o, rfl, hcx⟩ := I8.out.rd (by rw [hr4]; simp)
    have cx0 := hcx 0 (by rw [hr4]; simp)
    rw [hr4, Nat.add_zero] at cx0
    have cx : w8.cell? ⟨b, o, none⟩ = some (.int .u8 (x : Int)) := cx0
    clear cx0
    subst hr4
    clear hcx hb4 HFL HR4 HCK I8 L8 hb3
    by_cases hx1 : x = 1
    · subst hx1
      have hfl2 : fl = true := by rw [← hfl]; rfl
      clear hfl
      subst hfl2
      have cx1 : w8.cell? ⟨b, o, none⟩ = some (.int .u8 1) := cx
      clear cx
      have a0 := B8.out.cell 0
      have g0 := B8.out.frozen 0
      have a1 := B8.out.cell 1
      have g1 := B8.out.frozen 1
      have a2 := B8.out.cell 2
      have g2 := B8.out.frozen 2
      have a3 := B8.out.cell 3
      have g3 := B8.out.frozen 3
      have a4 := B8.out.cell 4
      have g4 := B8.out.frozen 4
      dsimp only [Array.toList, List.set_cons_succ, List.set_cons_zero, List.getElem?_cons_zero, List.getElem?_cons_succ] at a0 a1 a2 a3 a4
      have q0 := BZ8.out.cell 0
      have f0 := BZ8.out.frozen 0
      have q1 := BZ8.out.cell 1
      have f1 := BZ8.out.frozen 1
      have q2 := BZ8.out.cell 2
      have f2 := BZ8.out.frozen 2
      have q3 := BZ8.out.cell 3
      have f3 := BZ8.out.frozen 3
      have q4 := BZ8.out.cell 4
      have f4 := BZ8.out.frozen 4
      dsimp only [Array.toList, List.set_cons_succ, List.set_cons_zero, List.getElem?_cons_zero, List.getElem?_cons_succ] at q0 q1 q2 q3 q4
      go_wp2_with fail
      have b9 := ((((((BZ8.out.turn (set_ts w8 z1 4 (.bool true)) (by omega)).stored 0 (.int .u64 (v0 : Int))).stored 1 (.int .i64 y1)).stored 2 (.int .i64 y2)).stored 3 (.int .u32 (ck : Int))).stored 4 (.bool true))
      have t9 : Turn (fun j => j = z1 ∨ j = w.heap.size) w8 ((((((w8.setCell ⟨z1, 4, none⟩ (.bool true)).setCell ⟨w.heap.size, 0, none⟩ (.int .u64 (v0 : Int))).setCell ⟨w.heap.size, 1, none⟩ (.int .i64 y1)).setCell ⟨w.heap.size, 2, none⟩ (.int .i64 y2)).setCell ⟨w.heap.size, 3, none⟩ (.int .u32 (ck : Int))).setCell ⟨w.heap.size, 4, none⟩ (.bool true)) := (((((((set_ts w8 z1 4 (.bool true)).mono (fun j e => .inl e)).trans ((set_ts (w8.setCell ⟨z1, 4, none⟩ (.bool true)) w.heap.size 0 (.int .u64 (v0 : Int))).mono (fun j e => .inr e))).trans ((set_ts ((w8.setCell ⟨z1, 4, none⟩ (.bool true)).setCell ⟨w.heap.size, 0, none⟩ (.int .u64 (v0 : Int))) w.heap.size 1 (.int .i64 y1)).mono (fun j e => .inr e))).trans ((set_ts (((w8.setCell ⟨z1, 4, none⟩ (.bool true)).setCell ⟨w.heap.size, 0, none⟩ (.int .u64 (v0 : Int))).setCell ⟨w.heap.size, 1, none⟩ (.int .i64 y1)) w.heap.size 2 (.int .i64 y2)).mono (fun j e => .inr e))).trans ((set_ts ((((w8.setCell ⟨z1, 4, none⟩ (.bool true)).setCell ⟨w.heap.size, 0, none⟩ (.int .u64 (v0 : Int))).setCell ⟨w.heap.size, 1, none⟩ (.int .i64 y1)).setCell ⟨w.heap.size, 2, none⟩ (.int .i64 y2)) w.heap.size 3 (.int .u32 (ck : Int))).mono (fun j e => .inr e))).trans ((set_ts (((((w8.setCell ⟨z1, 4, none⟩ (.bool true)).setCell ⟨w.heap.size, 0, none⟩ (.int .u64 (v0 : Int))).setCell ⟨w.heap.size, 1, none⟩ (.int .i64 y1)).setCell ⟨w.heap.size, 2, none⟩ (.int .i64 y2)).setCell ⟨w.heap.size, 3, none⟩ (.int .u32 (ck : Int))) w.heap.size 4 (.bool true)).mono (fun j e => .inr e)))
      have h9 := H8.out.turn2 t9 B8.out BZ8.out no8' no8' hne1 (by omega)
      have w9 := TW8.out.then t9 (fun j e => .inr (by rcases e with e | e <;> omega))
      clear q0 q1 q2 q3 q4 f0 f1 f2 f3 f4 a0 a1 a2 a3 a4 g0 g1 g2 g3 g4 t9
      generalize ((((((w8.setCell ⟨z1, 4, none⟩ (.bool true)).setCell ⟨w.heap.size, 0, none⟩ (.int .u64 (v0 : Int))).setCell ⟨w.heap.size, 1, none⟩ (.int .i64 y1)).setCell ⟨w.heap.size, 2, none⟩ (.int .i64 y2)).setCell ⟨w.heap.size, 3, none⟩ (.int .u32 (ck : Int))).setCell ⟨w.heap.size, 4, none⟩ (.bool true)) = X9 at *
      have q0 := b9.cell 0
      have f0 := b9.frozen 0
      have q1 := b9.cell 1
      have f1 := b9.frozen 1
      have q2 := b9.cell 2
      have f2 := b9.frozen 2
      have q3 := b9.cell 3
      have f3 := b9.frozen 3
      have q4 := b9.cell 4
      have f4 := b9.frozen 4
      dsimp only [Array.toList, List.set_cons_succ, List.set_cons_zero, List.getElem?_cons_zero, List.getElem?_cons_succ] at q0 q1 q2 q3 q4
      refine bodyPost_ret (v := plcV ⟨v0, y1, y2, ck, true⟩) (by simp [results, Try.results43, go_sem, q0, q1, q2, q3, q4, plcV]) rfl ⟨rfl, h9, w9⟩
    · have hx2 : ((x : Int) == 1) = false := by rw [beq_eq_false_iff_ne]; omega
      have hfl2 : fl = false := by rw [← hfl, hx2]
      clear hfl
      subst hfl2
      clear hx1
      have a0 := B8.out.cell 0
      have g0 := B8.out.frozen 0
      have a1 := B8.out.cell 1
      have g1 := B8.out.frozen 1
      have a2 := B8.out.cell 2
      have g2 := B8.out.frozen 2
      have a3 := B8.out.cell 3
      have g3 := B8.out.frozen 3
      have a4 := B8.out.cell 4
      have g4 := B8.out.frozen 4
      dsimp only [Array.toList, List.set_cons_succ, List.set_cons_zero, List.getElem?_cons_zero, List.getElem?_cons_succ] at a0 a1 a2 a3 a4
      have q0 := BZ8.out.cell 0
      have f0 := BZ8.out.frozen 0
      have q1 := BZ8.out.cell 1
      have f1 := BZ8.out.frozen 1
      have q2 := BZ8.out.cell 2
      have f2 := BZ8.out.frozen 2
      have q3 := BZ8.out.cell 3
      have f3 := BZ8.out.frozen 3
      have q4 := BZ8.out.cell 4
      have f4 := BZ8.out.frozen 4
      dsimp only [Array.toList, List.set_cons_succ, List.set_cons_zero, List.getElem?_cons_zero, List.getElem?_cons_succ] at q0 q1 q2 q3 q4
      go_wp2_with fail
      have b9 := ((((((BZ8.out.turn (set_ts w8 z1 4 (.bool false)) (by omega)).stored 0 (.int .u64 (v0 : Int))).stored 1 (.int .i64 y1)).stored 2 (.int .i64 y2)).stored 3 (.int .u32 (ck : Int))).stored 4 (.bool false))
      have t9 : Turn (fun j => j = z1 ∨ j = w.heap.size) w8 ((((((w8.setCell ⟨z1, 4, none⟩ (.bool false)).setCell ⟨w.heap.size, 0, none⟩ (.int .u64 (v0 : Int))).setCell ⟨w.heap.size, 1, none⟩ (.int .i64 y1)).setCell ⟨w.heap.size, 2, none⟩ (.int .i64 y2)).setCell ⟨w.heap.size, 3, none⟩ (.int .u32 (ck : Int))).setCell ⟨w.heap.size, 4, none⟩ (.bool false)) := (((((((set_ts w8 z1 4 (.bool false)).mono (fun j e => .inl e)).trans ((set_ts (w8.setCell ⟨z1, 4, none⟩ (.bool false)) w.heap.size 0 (.int .u64 (v0 : Int))).mono (fun j e => .inr e))).trans ((set_ts ((w8.setCell ⟨z1, 4, none⟩ (.bool false)).setCell ⟨w.heap.size, 0, none⟩ (.int .u64 (v0 : Int))) w.heap.size 1 (.int .i64 y1)).mono (fun j e => .inr e))).trans ((set_ts (((w8.setCell ⟨z1, 4, none⟩ (.bool false)).setCell ⟨w.heap.size, 0, none⟩ (.int .u64 (v0 : Int))).setCell ⟨w.heap.size, 1, none⟩ (.int .i64 y1)) w.heap.size 2 (.int .i64 y2)).mono (fun j e => .inr e))).trans ((set_ts ((((w8.setCell ⟨z1, 4, none⟩ (.bool false)).setCell ⟨w.heap.size, 0, none⟩ (.int .u64 (v0 : Int))).setCell ⟨w.heap.size, 1, none⟩ (.int .i64 y1)).setCell ⟨w.heap.size, 2, none⟩ (.int .i64 y2)) w.heap.size 3 (.int .u32 (ck : Int))).mono (fun j e => .inr e))).trans ((set_ts (((((w8.setCell ⟨z1, 4, none⟩ (.bool false)).setCell ⟨w.heap.size, 0, none⟩ (.int .u64 (v0 : Int))).setCell ⟨w.heap.size, 1, none⟩ (.int .i64 y1)).setCell ⟨w.heap.size, 2, none⟩ (.int .i64 y2)).setCell ⟨w.heap.size, 3, none⟩ (.int .u32 (ck : Int))) w.heap.size 4 (.bool false)).mono (fun j e => .inr e)))
      have h9 := H8.out.turn2 t9 B8.out BZ8.out no8' no8' hne1 (by omega)
      have w9 := TW8.out.then t9 (fun j e => .inr (by rcases e with e | e <;> omega))
      clear q0 q1 q2 q3 q4 f0 f1 f2 f3 f4 a0 a1 a2 a3 a4 g0 g1 g2 g3 g4 t9
      generalize ((((((w8.setCell ⟨z1, 4, none⟩ (.bool false)).setCell ⟨w.heap.size, 0, none⟩ (.int .u64 (v0 : Int))).setCell ⟨w.heap.size, 1, none⟩ (.int .i64 y1)).setCell ⟨w.heap.size, 2, none⟩ (.int .i64 y2)).setCell ⟨w.heap.size, 3, none⟩ (.int .u32 (ck : Int))).setCell ⟨w.heap.size, 4, none⟩ (.bool false)) = X9 at *
      have q0 := b9.cell 0
      have f0 := b9.frozen 0
      have q1 := b9.cell 1
      have f1 := b9.frozen 1
      have q2 := b9.cell 2
      have f2 := b9.frozen 2
      have q3 := b9.cell 3
      have f3 := b9.frozen 3
      have q4 := b9.cell 4
      have f4 := b9.frozen 4
      dsimp only [Array.toList, List.set_cons_succ, List.set_cons_zero, List.getElem?_cons_zero, List.getElem?_cons_succ] at q0 q1 q2 q3 q4
      refine bodyPost_ret (v := plcV ⟨v0, y1, y2, ck, false⟩) (by simp [results, Try.results43, go_sem, q0, q1, q2, q3, q4, plcV]) rfl ⟨rfl, h9, w9⟩
end Go.Proofs.Ytdbngchbhoanpaa
