/- What shard keeps while one call goes on: a Code, and inverses of its rows under their numbers; the contract of inverse. Condition: at most 14 rows; the library's table lies as it was laid. The contract of shard's inverse: the inverse of k rows of the Code, kept under their numbers. Condition: at most 14 rows; the library's table lies as it was laid. Rows that fit at a place. It names nothing of the program. Any k rows of a Code have an inverse. It names nothing of the program. The contract of shard's weights: for each row of a set the numbers by which it is made of some k rows. Condition: at most 14 rows; the library's table lies as it was laid. The contract of shard's odd: the first place at which rows of a set do not fit one another. Condition: at most 14 rows; the library's table lies as it was laid. The contracts of shard's opened and openedWhole: the Code of k + m rows, and which of these are there. Condition: at most 1500 rows of at most 1500 numbers. Right of shard: whether all rows fit one another. Condition: at most 1500 rows of at most 1500 numbers; the library's table lies as it was laid. The contract of shard's from: rows from a place on. Condition: at most 14 rows, of one length, the place below it. What Wrong's loop tells, in the words of the paper; rows from a place on. It names nothing of the program. Wrong of shard: the one row that does not fit the others. Condition: at most 1500 rows of at most 1500 numbers; the library's table lies as it was laid. What Mend brings back, in the words of the paper; a list of rows that is filled in any order. It names nothing of the program. Mend of shard: all rows, where some are lost. Condition: at most 1500 rows of at most 1500 numbers; the library's table lies as it was laid. -/
import Derived.Test.YtpjocddeiehckaaDoorPr15
import Derived.Test.YtpjocddeiehckaaDoorPr10
import Derived.Test.YtpjocddeiehckaaDoorPr8
import Derived.Test.YtpjocddeiehckaaDoorPr5
import Derived.Test.YtpjocddeiehckaaDoorPr4
import Derived.Carry
namespace Go.Proofs.YtpjocddeiehckaaDoor
open Go.RowKit Go.WideMaps
attribute [local go_sem] Oper.semAt_some
/-- The inverse of the rows P of C. -/
def InvOf (C : ML) (k : Nat) (P : List Nat) (L : ML) : Prop := Shape L k k ∧ ∀ i, i < k → ∀ j, j < k → mm k (en (pick C P)) (en L) i j = dl i j
/-- What is kept under a key. -/
def Kept (w : World) (C : ML) (k : Nat) (x : MapEntry) : Prop := ∃ P A c L, x.key = numA P ∧ P.length = k ∧ (∀ i ∈ P, i < 14) ∧ x.val = .slice A k c ∧ IsM w A L ∧ InvOf C k P L
/-- The struct at cb: k, the rows of a Code, the map mb of inverses. -/
def CodeAt (w : World) (cb mb k b : Nat) : Prop := ∃ A c, Blk w 0 70 cb [.int .i64 (k : Int), .slice A (k + b) c, .map (some mb)] ∧ IsM w A (codeL k b) ∧
  ∃ es clock, w.heap[mb]? = some (.map es clock) ∧ ∀ x ∈ es.toList, Kept w (codeL k b) k x
theorem Kept.cells {w w' : World} {C : ML} {k : Nat} {x : MapEntry} (h : Kept w C k x) (c : Cells w w') : Kept w' C k x := by
  obtain ⟨P, A, q, L, h1, h2, h3, h4, h5, h6⟩ := h
  exact ⟨P, A, q, L, h1, h2, h3, h4, h5.cells c, h6⟩
theorem Blk.cells {w w' : World} {B : Nat} {e : TypeId} {g : Nat} {cs : List Value} (h : Blk w B e g cs) (c : Cells w w') : Blk w' B e g cs := by
  obtain ⟨hB, cur, hh, hc⟩ := h
  exact ⟨hB, cur, c _ _ _ _ hh, hc⟩
theorem CodeAt.lt {w : World} {cb mb k b : Nat} (h : CodeAt w cb mb k b) : cb < w.heap.size ∧ mb < w.heap.size := by
  obtain ⟨A, c, h1, _, es, clock, h2, _⟩ := h
  exact ⟨h1.lt, heap_lt h2⟩
/-- It stands where all cells and the map stand. -/
theorem CodeAt.cells {w w' : World} {cb mb k b : Nat} (h : CodeAt w cb mb k b) (c : Cells w w') (hm : w'.heap[mb]? = w.heap[mb]?) : CodeAt w' cb mb k b := by
  obtain ⟨A, q, h1, h2, es, clock, h3, h4⟩ := h
  exact ⟨A, q, h1.cells c, h2.cells c, es, clock, hm.trans h3, fun x hx => (h4 x hx).cells c⟩
theorem CodeAt.keep {w w' : World} {cb mb k b : Nat} (h : CodeAt w cb mb k b) (hb : Below w.heap.size w w') : CodeAt w' cb mb k b := h.cells (Cells.of_below hb) (hb.block mb h.lt.2)
theorem CodeAt.drewN {w : World} {cb mb k b : Nat} (h : CodeAt w cb mb k b) (d : Nat) : CodeAt (w.drewN d) cb mb k b := h
/-- A store under a new key leaves all cells as they were. -/
theorem Cells.putM {A : World} {l clock : Nat} {es : Array MapEntry} (hl : A.heap[l]? = some (.map es clock)) (o : Obj) : Cells A (A.putObj l o) := fun k cur e fr h => by
  rw [World.putObj_heap_other (fun q => by subst q; rw [hl] at h; cases h)]
  exact h
theorem CodeAt.insert {w : World} {cb mb k b : Nat} (h : CodeAt w cb mb k b) {es : Array MapEntry} {clock : Nat} (hm : w.heap[mb]? = some (.map es clock)) {x : MapEntry} (hx : Kept w (codeL k b) k x) (clock' : Nat) :
    CodeAt (w.putObj mb (.map (es.push x) clock')) cb mb k b := by
  obtain ⟨A, q, h1, h2, es', clock0, h3, h4⟩ := h
  rw [hm] at h3
  simp only [Option.some.injEq, Obj.map.injEq] at h3
  obtain ⟨rfl, rfl⟩ := h3
  have c := Cells.putM hm (.map (es.push x) clock')
  refine ⟨A, q, h1.cells c, h2.cells c, es.push x, clock', World.putObj_heap_same (heap_lt hm), fun y hy => ?_⟩
  rw [Array.toList_push] at hy
  rcases List.mem_append.1 hy with hy | hy
  · exact (h4 y hy).cells c
  · rw [List.mem_singleton] at hy
    subst hy
    exact hx.cells c
theorem codeL_shape (k b : Nat) : Shape (codeL k b) (k + b) k := by unfold codeL; exact laid_shape _ _ _
/-- Any k rows of a Code, and what Invert answers of them. -/
theorem pick_shape {k b : Nat} {P : List Nat} (hl : P.length = k) (hP : ∀ i ∈ P, i < k + b) : Shape (pick (codeL k b) P) k k := by
  have hc := codeL_shape k b
  refine ⟨by rw [pick_len, hl], fun r hr => ?_, fun r hr => ?_⟩
  · obtain ⟨t, ht, rfl⟩ := List.mem_map.1 hr
    exact (hc.row (hP t ht)).1
  · obtain ⟨t, ht, rfl⟩ := List.mem_map.1 hr
    exact (hc.row (hP t ht)).2
theorem pick_code {k b : Nat} {P : List Nat} {m : Nat} (hl : P.length = m) (hP : ∀ i ∈ P, i < k + b) : ∀ i, i < m → ∀ j, j < k → en (pick (codeL k b) P) i j = codeRow k (P.getD i 0) j := fun i hi j hj => by
  have e : en (pick (codeL k b) P) i j = en (codeL k b) (P.getD i 0) j := rowsAt_en (codeL k b) (by omega) j
  rw [e]
  unfold codeL
  exact laid_at _ (hP _ (getD_mem0 (by omega))) hj
theorem pick_inv {k b : Nat} {P : List Nat} {L : ML} {e : Int} (h1 : 1 ≤ k) (h14 : k + b ≤ 14) (hl : P.length = k) (hn : P.Nodup) (hP : ∀ i ∈ P, i < k + b) (h : invAns (pick (codeL k b) P) L e) : InvOf (codeL k b) k P L := by
  have hs : Sharp k (en (pick (codeL k b) P)) := by
    have h := code_sharp k P hl hn (fun l hl => by have := hP l hl; omega) (by omega)
    intro v hv
    refine h v (fun r hr => ?_)
    rw [← hv r hr]
    exact gs_congr (fun j hj => by rw [pick_code hl hP r hr j hj])
  exact (mend_inv h (pick_shape hl hP) h1 (by omega) hs).2
theorem kept_keys {w : World} {C : ML} {k : Nat} {es : Array MapEntry} (h : ∀ x ∈ es.toList, Kept w C k x) : ∀ x ∈ es.toList, ∃ l, keyOf Tryd.prog 95 x.key = some l := fun x hx => by
  obtain ⟨P, A, c, L, h1, _, h3, _⟩ := h x hx
  rw [h1]
  exact keyOf_num h3
end Go.Proofs.YtpjocddeiehckaaDoor
namespace Go.Proofs.YtpjocddeiehckaaDoor
open Go.RowKit Go.WideMaps
theorem numA_out (P : List Nat) : ∃ y0 y1 y2 y3 y4 y5 y6 y7 y8 y9 y10 y11 y12 y13 : Nat, numA P = .agg #[.int .i64 (y0 : Int), .int .i64 (y1 : Int), .int .i64 (y2 : Int), .int .i64 (y3 : Int), .int .i64 (y4 : Int), .int .i64 (y5 : Int), .int .i64 (y6 : Int), .int .i64 (y7 : Int), .int .i64 (y8 : Int), .int .i64 (y9 : Int), .int .i64 (y10 : Int), .int .i64 (y11 : Int), .int .i64 (y12 : Int), .int .i64 (y13 : Int)] := ⟨_, _, _, _, _, _, _, _, _, _, _, _, _, _, rfl⟩
set_option maxRecDepth 100000 in
set_option maxHeartbeats 3200000 in
theorem inverse_any (cb mb k b x : Nat) (w : World) (hc : CodeAt w cb mb k b) (hT : TabW w) (hx : x < 16384) (h1 : 1 ≤ k) (h14 : k + b ≤ 14) (hl : (digs x).length = k) (hP : ∀ i ∈ digs x, i < k + b) :
    Calls Tryd.prog 44 #[.pointer (some ⟨cb, 0, none⟩), .int .u64 (x : Int)] w fun e w' => ∃ A c L, e = .returned (.slice A k c) ∧ IsM w' A L ∧ InvOf (codeL k b) k (digs x) L ∧ CodeAt w' cb mb k b ∧ Turn (fun j => j = mb) w w' := by
  have HC := hide hc
  have HT := hide hT
  have HL := hide hl
  have HP := hide hP
  have HN := hide (numbers_any x w hx hT)
  clear hc hT hl hP
  go_enter Tryd.func44, Tryd.ntmps44
  go_wp2_with fail
  refine HN.out.mono ?_
  rintro e w1 ⟨rfl, k1⟩
  obtain ⟨y0, y1, y2, y3, y4, y5, y6, y7, y8, y9, y10, y11, y12, y13, hys⟩ := numA_out (digs x)
  rw [hys]
  have HYS := hide hys
  have C1 := hide (HC.out.keep k1)
  have T1 := hide (HT.out.below k1)
  have K1 := hide k1
  clear hys k1 HN HC HT
  go_wp2_with fail
  have k2 := below_alloc w1 (.cells #[.int .i64 (y0 : Int), .int .i64 (y1 : Int), .int .i64 (y2 : Int), .int .i64 (y3 : Int), .int .i64 (y4 : Int), .int .i64 (y5 : Int), .int .i64 (y6 : Int), .int .i64 (y7 : Int), .int .i64 (y8 : Int), .int .i64 (y9 : Int), .int .i64 (y10 : Int), .int .i64 (y11 : Int), .int .i64 (y12 : Int), .int .i64 (y13 : Int)] 95)
  have bk : Blk (w1.alloc (.cells #[.int .i64 (y0 : Int), .int .i64 (y1 : Int), .int .i64 (y2 : Int), .int .i64 (y3 : Int), .int .i64 (y4 : Int), .int .i64 (y5 : Int), .int .i64 (y6 : Int), .int .i64 (y7 : Int), .int .i64 (y8 : Int), .int .i64 (y9 : Int), .int .i64 (y10 : Int), .int .i64 (y11 : Int), .int .i64 (y12 : Int), .int .i64 (y13 : Int)] 95)) 0 95 w1.heap.size [.int .i64 (y0 : Int), .int .i64 (y1 : Int), .int .i64 (y2 : Int), .int .i64 (y3 : Int), .int .i64 (y4 : Int), .int .i64 (y5 : Int), .int .i64 (y6 : Int), .int .i64 (y7 : Int), .int .i64 (y8 : Int), .int .i64 (y9 : Int), .int .i64 (y10 : Int), .int .i64 (y11 : Int), .int .i64 (y12 : Int), .int .i64 (y13 : Int)] := Blk.new w1 (B := 0) 95 #[.int .i64 (y0 : Int), .int .i64 (y1 : Int), .int .i64 (y2 : Int), .int .i64 (y3 : Int), .int .i64 (y4 : Int), .int .i64 (y5 : Int), .int .i64 (y6 : Int), .int .i64 (y7 : Int), .int .i64 (y8 : Int), .int .i64 (y9 : Int), .int .i64 (y10 : Int), .int .i64 (y11 : Int), .int .i64 (y12 : Int), .int .i64 (y13 : Int)] (Nat.zero_le _)
  have C2 := hide (C1.out.keep k2)
  have T2 := hide (T1.out.below k2)
  have K2 := hide (K1.out.trans (k2.mono K1.out.size))
  obtain ⟨W2, hW2⟩ : ∃ W2, W2 = w1.alloc (.cells #[.int .i64 (y0 : Int), .int .i64 (y1 : Int), .int .i64 (y2 : Int), .int .i64 (y3 : Int), .int .i64 (y4 : Int), .int .i64 (y5 : Int), .int .i64 (y6 : Int), .int .i64 (y7 : Int), .int .i64 (y8 : Int), .int .i64 (y9 : Int), .int .i64 (y10 : Int), .int .i64 (y11 : Int), .int .i64 (y12 : Int), .int .i64 (y13 : Int)] 95) := ⟨_, rfl⟩
  obtain ⟨kb, hkb⟩ : ∃ kb, kb = w1.heap.size := ⟨_, rfl⟩
  rw [← hW2] at k2 bk C2 T2 K2 ⊢
  rw [← hkb] at bk ⊢
  clear hW2 C1 T1 K1 k2 hkb
  obtain ⟨A, cA, hcode, hrows, es, clock, hmap, hkept⟩ := C2.out
  have s2 : W2.cell? ⟨cb, 2, none⟩ = some (.map (some mb)) := hcode.cell 2
  have s1 : W2.cell? ⟨cb, 1, none⟩ = some (.slice A (k + b) cA) := hcode.cell 1
  have d0 : W2.cell? ⟨kb, 0, none⟩ = some (.int .i64 (y0 : Int)) := bk.cell 0
  have d1 : W2.cell? ⟨kb, 1, none⟩ = some (.int .i64 (y1 : Int)) := bk.cell 1
  have d2 : W2.cell? ⟨kb, 2, none⟩ = some (.int .i64 (y2 : Int)) := bk.cell 2
  have d3 : W2.cell? ⟨kb, 3, none⟩ = some (.int .i64 (y3 : Int)) := bk.cell 3
  have d4 : W2.cell? ⟨kb, 4, none⟩ = some (.int .i64 (y4 : Int)) := bk.cell 4
  have d5 : W2.cell? ⟨kb, 5, none⟩ = some (.int .i64 (y5 : Int)) := bk.cell 5
  have d6 : W2.cell? ⟨kb, 6, none⟩ = some (.int .i64 (y6 : Int)) := bk.cell 6
  have d7 : W2.cell? ⟨kb, 7, none⟩ = some (.int .i64 (y7 : Int)) := bk.cell 7
  have d8 : W2.cell? ⟨kb, 8, none⟩ = some (.int .i64 (y8 : Int)) := bk.cell 8
  have d9 : W2.cell? ⟨kb, 9, none⟩ = some (.int .i64 (y9 : Int)) := bk.cell 9
  have d10 : W2.cell? ⟨kb, 10, none⟩ = some (.int .i64 (y10 : Int)) := bk.cell 10
  have d11 : W2.cell? ⟨kb, 11, none⟩ = some (.int .i64 (y11 : Int)) := bk.cell 11
  have d12 : W2.cell? ⟨kb, 12, none⟩ = some (.int .i64 (y12 : Int)) := bk.cell 12
  have d13 : W2.cell? ⟨kb, 13, none⟩ = some (.int .i64 (y13 : Int)) := bk.cell 13
  have ht : Tryd.prog.underlying 68 = some (.map 95 22) := by kernel_rfl
  have hz : (zeroValue 22).run Tryd.prog W2.drew = .ok (.slice none 0 0) W2.drew := by kernel_rfl
  obtain ⟨kl, hkey⟩ := keyOf_num (P := digs x) (fun i hi => by have := HP.out i hi; omega)
  have hlk := map_lookup key_law ht hz (show W2.drew.heap[mb]? = some (.map es clock) from hmap) (kept_keys hkept) hkey
  rcases hlk with ⟨hf, hlk⟩ | ⟨y, hy, hlk, hyk⟩
  · rw [HYS.out] at hlk
    have HOF := hide (of_any x (k + b) cA A (codeL k b) W2.drew hx (T2.out.drewN 1) (hrows.drewN 1) (codeL_shape k b).high HP.out)
    have HKEY := hide hkey
    have HKE := hide hkept
    have HF := hide hf
    have HMAP := hide hmap
    have HHT := hide ht
    have BK := hide bk
    have HCD := hide hcode
    clear hkept hz ht hkey hmap hrows hcode bk hf
    go_wp2_with fail
    go_region
    clear hlk d0 d1 d2 d3 d4 d5 d6 d7 d8 d9 d10 d11 d12 d13
    go_wp2_with fail
    refine HOF.out.mono ?_
    rintro e w3 ⟨A3, c3, rfl, i3, -, k3⟩
    have HPS := pick_shape (k := k) (b := b) HL.out HP.out
    rw [HL.out]
    have k3 : Below W2.heap.size W2 w3 := ⟨k3.os, k3.tape, k3.output, k3.size, k3.block⟩
    have HIV := hide (inv_all A3 k c3 (pick (codeL k b) (digs x)) w3 i3 HPS.high (by omega) HPS.byte)
    have K3 := hide k3
    clear i3 HPS k3 HOF
    go_wp2_with fail
    refine HIV.out.mono ?_
    rintro e w4 ⟨v, L, E, rfl, o4, hinv, k4⟩
    have iv := pick_inv h1 h14 HL.out (digs_nodup x) HP.out hinv
    obtain ⟨A5, c5, rfl, i5, -⟩ := o4.form (n := k) iv.1.high
    have K4 := hide (K3.out.trans (k4.mono K3.out.size))
    have C4 := hide (C2.out.keep K4.out)
    have I5 := hide i5
    have IV := hide iv
    have b4 := BK.out.keep K4.out
    have hc4 := HCD.out.keep K4.out
    have s2 : w4.cell? ⟨cb, 2, none⟩ = some (.map (some mb)) := hc4.cell 2
    have d0 : w4.cell? ⟨kb, 0, none⟩ = some (.int .i64 (y0 : Int)) := b4.cell 0
    have d1 : w4.cell? ⟨kb, 1, none⟩ = some (.int .i64 (y1 : Int)) := b4.cell 1
    have d2 : w4.cell? ⟨kb, 2, none⟩ = some (.int .i64 (y2 : Int)) := b4.cell 2
    have d3 : w4.cell? ⟨kb, 3, none⟩ = some (.int .i64 (y3 : Int)) := b4.cell 3
    have d4 : w4.cell? ⟨kb, 4, none⟩ = some (.int .i64 (y4 : Int)) := b4.cell 4
    have d5 : w4.cell? ⟨kb, 5, none⟩ = some (.int .i64 (y5 : Int)) := b4.cell 5
    have d6 : w4.cell? ⟨kb, 6, none⟩ = some (.int .i64 (y6 : Int)) := b4.cell 6
    have d7 : w4.cell? ⟨kb, 7, none⟩ = some (.int .i64 (y7 : Int)) := b4.cell 7
    have d8 : w4.cell? ⟨kb, 8, none⟩ = some (.int .i64 (y8 : Int)) := b4.cell 8
    have d9 : w4.cell? ⟨kb, 9, none⟩ = some (.int .i64 (y9 : Int)) := b4.cell 9
    have d10 : w4.cell? ⟨kb, 10, none⟩ = some (.int .i64 (y10 : Int)) := b4.cell 10
    have d11 : w4.cell? ⟨kb, 11, none⟩ = some (.int .i64 (y11 : Int)) := b4.cell 11
    have d12 : w4.cell? ⟨kb, 12, none⟩ = some (.int .i64 (y12 : Int)) := b4.cell 12
    have d13 : w4.cell? ⟨kb, 13, none⟩ = some (.int .i64 (y13 : Int)) := b4.cell 13
    have hm4 : w4.heap[mb]? = some (.map es clock) := (K4.out.block mb (heap_lt HMAP.out)).trans HMAP.out
    have hup := map_insert key_law HHT.out (show w4.drew.heap[mb]? = some (.map es clock) from hm4) HKEY.out (find_none key_law (kept_keys HKE.out) HKEY.out HF.out w4.drew) (.slice A5 k c5)
    have C5 := hide (CodeAt.insert (w := w4.drew) (C4.out.drewN 1) hm4 (x := { key := numA (digs x), val := .slice A5 k c5, born := clock }) ⟨digs x, A5, c5, L, rfl, HL.out, fun i hi => by have := HP.out i hi; omega, rfl, i5.drewN 1, iv⟩ (clock + 1))
    have I6 := hide (IsM.cells (w := w4.drew) (I5.out.drewN 1) (Cells.putM (A := w4.drew) hm4 (.map (es.push { key := numA (digs x), val := .slice A5 k c5, born := clock }) (clock + 1))))
    have T6 := hide (((Turn.of_below (fun j => j = mb) K2.out).trans ((Turn.of_below (fun j => j = mb) K4.out).drewN 1)).trans (Turn.put w4.drew mb (.map (es.push { key := numA (digs x), val := .slice A5 k c5, born := clock }) (clock + 1)) (S := fun j => j = mb) rfl))
    rw [HYS.out] at hup C5 I6 T6
    clear hc4 hinv o4 i5 k4 iv b4 HIV HCD BK
    go_wp2_with fail
    go_region
    obtain ⟨W6, hW6⟩ : ∃ W6, W6 = w4.drew.putObj mb (.map (es.push { key := .agg #[.int .i64 (y0 : Int), .int .i64 (y1 : Int), .int .i64 (y2 : Int), .int .i64 (y3 : Int), .int .i64 (y4 : Int), .int .i64 (y5 : Int), .int .i64 (y6 : Int), .int .i64 (y7 : Int), .int .i64 (y8 : Int), .int .i64 (y9 : Int), .int .i64 (y10 : Int), .int .i64 (y11 : Int), .int .i64 (y12 : Int), .int .i64 (y13 : Int)], val := .slice A5 k c5, born := clock }) (clock + 1)) := ⟨_, rfl⟩
    rw [← hW6] at C5 I6 T6 ⊢
    clear hup hW6
    go_wp2_with fail
    go_ret
    exact ⟨A5, c5, L, rfl, I6.out, IV.out, C5.out, T6.out⟩
  · obtain ⟨P, A5, c5, L, e1, e2, e3, e4, e5, e6⟩ := hkept y hy
    obtain rfl : P = digs x := numA_inj (e1.symm.trans hyk) (by rw [e2, HL.out]) (by omega)
    rw [e4, HYS.out] at hlk
    have IS := hide e5
    have IV := hide e6
    clear hkept hy hyk e1 e2 e3 e4 e5 e6 hz ht hkey hmap hrows hcode bk
    go_wp2_with fail
    go_region
    go_wp2_with fail
    go_ret
    exact ⟨A5, c5, L, rfl, IS.out.drewN 1, IV.out, C2.out.drewN 1, (Turn.of_below _ K2.out).drewN 1⟩
end Go.Proofs.YtpjocddeiehckaaDoor
namespace Go.Proofs.YtpjocddeiehckaaDoor
open Go.RowKit
/-- The rows P of W fit one another at the place a. -/
def placeFits (W : ML) (k : Nat) (P : List Nat) (a : Nat) : Prop := ∃ X : Nat → G, ∀ l ∈ P, gs k (fun j => codeRow k l j * X j) = en W l a
/-- By which numbers the rows Q are made of the rows P. -/
def WeightsOf (C : ML) (k : Nat) (P Q : List Nat) (V : ML) : Prop := Shape V Q.length k ∧ ∃ L, InvOf C k P L ∧ ∀ i, i < Q.length → ∀ j, j < k → en V i j = mm k (en (pick C Q)) (en L) i j
theorem pick_en (W : ML) {P : List Nat} {i : Nat} (h : i < P.length) (x : Nat) : en (pick W P) i x = en W (P.getD i 0) x := rowsAt_en W h x
theorem places {W V : ML} {k b a : Nat} {P Q : List Nat} (hV : WeightsOf (codeL k b) k P Q V) (h14 : k + b ≤ 14) (hl : P.length = k) (hn : P.Nodup) (hP : ∀ i ∈ P, i < k + b) (hQ : ∀ i ∈ Q, i < k + b) :
    (∀ i, i < Q.length → mm k (en V) (en (pick W P)) i a = en (pick W Q) i a) ↔ placeFits W k (P ++ Q) a := by
  obtain ⟨-, L, hL, hv⟩ := hV
  have hVW : ∀ i, i < Q.length → mm k (en V) (en (pick W P)) i a = mm k (en (pick (codeL k b) Q)) (mm k (en L) (en (pick W P))) i a := fun i hi => by
    rw [← mm_assoc]
    exact gs_congr (fun j hj => by rw [hv i hi j hj])
  have hCP : ∀ i, i < k → mm k (en (pick (codeL k b) P)) (mm k (en L) (en (pick W P))) i a = en W (P.getD i 0) a := fun i hi => by
    rw [← mm_assoc]
    have : mm k (mm k (en (pick (codeL k b) P)) (en L)) (en (pick W P)) i a = mm k dl (en (pick W P)) i a := gs_congr (fun j hj => by rw [hL.2 i hi j hj])
    rw [this, mm_one_left hi, pick_en W (by omega)]
  have rowC : ∀ (R : List Nat), (∀ i ∈ R, i < k + b) → ∀ i, i < R.length → ∀ (Y : Mat), mm k (en (pick (codeL k b) R)) Y i a = gs k (fun j => codeRow k (R.getD i 0) j * Y j a) := fun R hR i hi Y => gs_congr (fun j hj => by rw [pick_code rfl hR i hi j hj])
  constructor
  · intro h
    refine ⟨fun j => mm k (en L) (en (pick W P)) j a, fun l hl2 => ?_⟩
    rcases List.mem_append.1 hl2 with q | q
    · obtain ⟨i, hi, rfl⟩ := List.getElem_of_mem q
      have e : P.getD i 0 = P[i] := by simp [hi]
      rw [← e, ← rowC P hP i hi]
      exact hCP i (by omega)
    · obtain ⟨i, hi, rfl⟩ := List.getElem_of_mem q
      have e : Q.getD i 0 = Q[i] := by simp [hi]
      rw [← e, ← rowC Q hQ i hi, ← hVW i hi, h i hi, pick_en W hi]
  · rintro ⟨X, hX⟩ i hi
    have hs := code_sharp k P hl hn (fun l hl => by have := hP l hl; omega) (by omega)
    have hx : ∀ j, j < k → mm k (en L) (en (pick W P)) j a = X j := fun j hj => by
      refine G.eq_of (hs (fun j => mm k (en L) (en (pick W P)) j a + X j) (fun r hr => ?_) j hj)
      show gs k (fun j => codeRow k (P.getD r 0) j * (mm k (en L) (en (pick W P)) j a + X j)) = G.zero
      rw [gs_congr (g := fun j => codeRow k (P.getD r 0) j * mm k (en L) (en (pick W P)) j a + codeRow k (P.getD r 0) j * X j) (fun j _ => G.mul_add _ _ _), gs_add]
      have e1 := hCP r hr
      rw [rowC P hP r (by omega)] at e1
      rw [e1, hX _ (getD_mem0' (by omega)), G.add_self]
    rw [hVW i hi, rowC Q hQ i hi, gs_congr (g := fun j => codeRow k (Q.getD i 0) j * X j) (fun j hj => by rw [hx j hj]), hX _ (List.mem_append_right _ (getD_mem0 hi)), pick_en W hi]
  where getD_mem0' {P Q : List Nat} {i : Nat} (h : i < P.length) : P.getD i 0 ∈ P ++ Q := List.mem_append_left _ (getD_mem0 h)
/-- What odd tells. -/
def oddAns (W : ML) (k N : Nat) (P : List Nat) (at_ : Nat) (t : Bool) : Prop := (t = true ∧ at_ < N ∧ ¬ placeFits W k P at_ ∧ ∀ a, a < at_ → placeFits W k P a) ∨ (t = false ∧ at_ = 0 ∧ ∀ a, a < N → placeFits W k P a)
end Go.Proofs.YtpjocddeiehckaaDoor
namespace Go.Proofs.YtpjocddeiehckaaDoor
open Go.RowKit
theorem clear_all {n c : Nat} {a : Mat} (hc : c < n) : ∀ i, i ≤ n → (∃ W, Clear n c 0 a W) → ∃ W, Clear n c i a W
  | 0, _, h => h
  | i + 1, hi, h => by
    obtain ⟨W, hW⟩ := clear_all hc i (by omega) h
    by_cases e : i = c
    · exact ⟨W, hW.none (.inl e)⟩
    · by_cases z : en W i c = G.zero
      · exact ⟨W, hW.none (.inr z)⟩
      · exact ⟨_, hW.next hc (by omega) e⟩
theorem half_all {n : Nat} {a : Mat} (hs : Sharp n a) : ∀ c, c ≤ n → (∃ W, Half n 0 a W) → ∃ W, Half n c a W
  | 0, _, h => h
  | c + 1, hc, h => by
    obtain ⟨W, hW⟩ := half_all hs c (by omega) h
    have : ∃ p, c ≤ p ∧ p < n ∧ en W p c ≠ G.zero := by
      apply Classical.byContradiction
      intro q
      refine hW.flat (by omega) (fun i h1 h2 => ?_) hs
      apply Decidable.byContradiction
      intro z
      exact q ⟨i, h1, h2, z⟩
    obtain ⟨p, h1, h2, h3⟩ := this
    obtain ⟨W', hW'⟩ := clear_all (by omega) n (Nat.le_refl _) ⟨_, hW.clear h1 h2 h3⟩
    exact ⟨W', hW'.done⟩
theorem inv_exists {k b : Nat} {P : List Nat} (h14 : k + b ≤ 14) (hl : P.length = k) (hn : P.Nodup) (hP : ∀ i ∈ P, i < k + b) : ∃ L, InvOf (codeL k b) k P L := by
  have hs : Sharp k (en (pick (codeL k b) P)) := by
    have h := code_sharp k P hl hn (fun l hl => by have := hP l hl; omega) (by omega)
    intro v hv
    refine h v (fun r hr => ?_)
    rw [← hv r hr]
    exact gs_congr (fun j hj => by rw [pick_code hl hP r hr j hj])
  obtain ⟨W, hW⟩ := half_all hs k (Nat.le_refl _) ⟨_, besides_half⟩
  obtain ⟨h1, _, h3⟩ := hW.right
  exact ⟨_, h1, h3⟩
end Go.Proofs.YtpjocddeiehckaaDoor
namespace Go.Proofs.YtpjocddeiehckaaDoor
open Go.RowKit
theorem Cells.of_turn {w w' : World} {mb : Nat} (h : Turn (fun j => j = mb) w w') {es : Array MapEntry} {clock : Nat} (hm : w.heap[mb]? = some (.map es clock)) : Cells w w' := fun k cur e fr hk => h.at_ hk (fun q => by subst q; rw [hm] at hk; cases hk)
theorem CodeAt.cellsOf {w w' : World} {cb mb k b : Nat} (h : CodeAt w cb mb k b) (t : Turn (fun j => j = mb) w w') : Cells w w' := by
  obtain ⟨_, _, _, _, es, clock, hm, _⟩ := h
  exact Cells.of_turn t hm
theorem TabW.cells {w w' : World} (h : TabW w) (c : Cells w w') (hs : w.heap.size ≤ w'.heap.size) : TabW w' := ⟨Nat.lt_of_lt_of_le h.1 hs, fun i hi => c.cell (h.2 i hi)⟩
theorem pick_wide {k b : Nat} {Q : List Nat} (hQ : ∀ i ∈ Q, i < k + b) : Shape (pick (codeL k b) Q) Q.length k := by
  have hc := codeL_shape k b
  refine ⟨pick_len _ _, fun r hr => ?_, fun r hr => ?_⟩
  · obtain ⟨t, ht, rfl⟩ := List.mem_map.1 hr
    exact (hc.row (hQ t ht)).1
  · obtain ⟨t, ht, rfl⟩ := List.mem_map.1 hr
    exact (hc.row (hQ t ht)).2
set_option maxHeartbeats 3200000 in
theorem weights_any (cb mb k b x y : Nat) (w : World) (hc : CodeAt w cb mb k b) (hT : TabW w) (hx : x < 16384) (hy : y < 16384) (h1 : 1 ≤ k) (h14 : k + b ≤ 14) (hl : (digs x).length = k) (hP : ∀ i ∈ digs x, i < k + b) (hQ : ∀ i ∈ digs y, i < k + b) :
    Calls Tryd.prog 25 #[.pointer (some ⟨cb, 0, none⟩), .int .u64 (x : Int), .int .u64 (y : Int)] w fun e w' => ∃ A c V, e = .returned (.slice A (digs y).length c) ∧ IsM w' A V ∧ WeightsOf (codeL k b) k (digs x) (digs y) V ∧ CodeAt w' cb mb k b ∧ Turn (fun j => j = mb) w w' := by
  have HC := hide hc
  have HT := hide hT
  have HL := hide hl
  have HP := hide hP
  have HQ := hide hQ
  clear hc hT hl hP hQ
  by_cases y0 : y = 0
  · have e0 : digs y = [] := by rw [y0, digs_zero]
    have E0 := hide e0
    have f0 : ((y : Int) == 0) = true := by simp; omega
    clear y0 e0
    go_enter Tryd.func25, Tryd.ntmps25
    go_wp2_with fail
    go_ret
    rw [E0.out]
    obtain ⟨L, hL⟩ := inv_exists h14 HL.out (digs_nodup x) HP.out
    exact ⟨none, 0, [], rfl, ⟨[], fun h => absurd rfl h, rfl, fun i hi => absurd hi (Nat.not_lt_zero i)⟩, ⟨⟨rfl, fun r h => absurd h (by simp), fun r h => absurd h (by simp)⟩, L, hL, fun i hi => absurd hi (Nat.not_lt_zero i)⟩, HC.out, Turn.refl _ _⟩
  · have f0 : ((y : Int) == 0) = false := by simp; omega
    have hne := digs_pos hy y0
    have HNE := hide hne
    obtain ⟨A, cA, hcode, hrows, es, clock, hmap, hkept⟩ := HC.out
    have s1 : w.cell? ⟨cb, 1, none⟩ = some (.slice A (k + b) cA) := hcode.cell 1
    have HOF := hide (of_any y (k + b) cA A (codeL k b) w hy HT.out hrows (codeL_shape k b).high HQ.out)
    have HMAP := hide hmap
    clear y0 hne hcode hrows hmap hkept
    go_enter Tryd.func25, Tryd.ntmps25
    go_wp2_with fail
    refine HOF.out.mono ?_
    rintro e w3 ⟨A3, c3, rfl, i3, -, k3⟩
    have I3 := hide i3
    have C3 := hide (HC.out.keep k3)
    have HIV := hide (inverse_any cb mb k b x w3 C3.out (HT.out.below k3) hx h1 h14 HL.out HP.out)
    have K3 := hide k3
    clear i3 k3 HOF
    go_wp2_with fail
    refine HIV.out.mono ?_
    rintro e w4 ⟨A4, c4, L, rfl, i4, iv, cc4, t4⟩
    have I4 := hide i4
    have IV := hide iv
    have C4 := hide cc4
    have T4 := hide t4
    have I3' := hide (I3.out.cells (C3.out.cellsOf t4))
    have hSQ := pick_wide (k := k) (b := b) HQ.out
    have h14y := digs_len y
    have hML := hide (mul_all A3 A4 (digs y).length k c3 c4 (pick (codeL k b) (digs y)) L w4 I3'.out i4 hSQ.high iv.1.high (by omega) (by omega) hSQ.byte iv.1.byte)
    have hq1 : 1 ≤ (digs y).length := List.length_pos_iff.2 HNE.out
    have ngood : ¬ mulBad (pick (codeL k b) (digs y)) L := by
      rintro (q | q | q)
      · rw [hSQ.isMt hq1 (by omega) h1 (by omega)] at q; cases q
      · rw [iv.1.isMt h1 (by omega) h1 (by omega)] at q; cases q
      · exact q (by rw [hSQ.len_at 0 (by omega), iv.1.high])
    have eR : mulR (pick (codeL k b) (digs y)) L = mulL (pick (codeL k b) (digs y)) L (digs y).length k k := by
      unfold mulR
      rw [if_neg ngood, hSQ.high, iv.1.high, iv.1.len_at 0 (by omega)]
    rw [eR] at hML
    have SQ := hide hSQ
    clear i4 iv cc4 t4 hSQ eR ngood HIV I3
    go_wp2_with fail
    refine hML.out.mono ?_
    rintro e w5 ⟨v, rfl, o5, k5⟩
    have hlen : (mulL (pick (codeL k b) (digs y)) L (digs y).length k k).length = (digs y).length := by unfold mulL; rw [laid_len]
    obtain ⟨A5, c5, rfl, i5, -⟩ := o5.form (n := (digs y).length) hlen
    have I5 := hide i5
    have HLN := hide hlen
    have C5 := hide (C4.out.keep k5)
    have T5 := hide (((Turn.of_below (fun j => j = mb) K3.out).trans T4.out).trans (Turn.of_below _ k5))
    clear o5 i5 hlen k5
    go_wp2_with fail
    go_ret
    refine ⟨A5, c5, _, rfl, I5.out, ⟨by unfold mulL; exact laid_shape _ _ _, L, IV.out, fun i hi j hj => by unfold mulL; exact laid_at _ hi hj⟩, C5.out, T5.out⟩
end Go.Proofs.YtpjocddeiehckaaDoor
namespace Go.Proofs.YtpjocddeiehckaaDoor
open Go.RowKit
attribute [local go_sem] Oper.semAt_some
theorem filter_drop {xs : List Nat} (h : xs.Nodup) (k : Nat) : xs.filter (fun i => decide (i ∉ xs.take k)) = xs.drop k := by
  have hd : ∀ i ∈ xs.drop k, i ∉ xs.take k := fun i hj hi => by
    have e : xs = xs.take k ++ xs.drop k := (List.take_append_drop k xs).symm
    rw [e] at h
    exact (List.nodup_append.1 h).2.2 i hi i hj rfl
  have s : ∀ ys : List Nat, (∀ i ∈ ys, i ∈ xs.take k) → ys.filter (fun i => decide (i ∉ xs.take k)) = [] := fun ys hys => List.filter_eq_nil_iff.2 (fun i hi => by simp [hys i hi])
  have s2 : ∀ ys : List Nat, (∀ i ∈ ys, i ∉ xs.take k) → ys.filter (fun i => decide (i ∉ xs.take k)) = ys := fun ys hys => List.filter_eq_self.2 (fun i hi => by simp [hys i hi])
  have : xs.filter (fun i => decide (i ∉ xs.take k)) = (xs.take k).filter (fun i => decide (i ∉ xs.take k)) ++ (xs.drop k).filter (fun i => decide (i ∉ xs.take k)) := by
    rw [← List.filter_append, List.take_append_drop]
  rw [this, s2 _ hd, s _ (fun i hi => hi), List.nil_append]
theorem IsM.turnC {S : Nat → Prop} {w w' : World} {A : Option Addr} {xss : ML} (h : IsM w A xss) (t : Turn S w w') (hS : ∀ j, S j → ∀ o v, w.cell? ⟨j, o, none⟩ = some v → (∀ A n c, v ≠ .slice A n c) ∧ ∀ y, v ≠ .int .u8 y) : IsM w' A xss := by
  have key : ∀ (b o : Nat) (x : Value), w.cell? ⟨b, o, none⟩ = some x → ((∃ A n c, x = .slice A n c) ∨ ∃ y, x = .int .u8 y) → w'.cell? ⟨b, o, none⟩ = some x := fun b o x hx hk => by
    refine t.cell hx (fun hs => ?_)
    have := hS b hs o x hx
    rcases hk with ⟨A, n, c, e⟩ | ⟨y, e⟩
    · exact this.1 _ _ _ e
    · exact this.2 _ e
  obtain ⟨vs, r, l, hr⟩ := h
  have isl : ∀ i, i < vs.length → ∃ A n c, vs.getD i (.slice none 0 0) = .slice A n c := fun i hi => by
    obtain ⟨A, c, q, _⟩ := hr i hi
    exact ⟨A, _, c, q⟩
  refine ⟨vs, fun hne => ?_, l, fun i hi => ?_⟩
  · obtain ⟨b, off, e1, hc⟩ := r hne
    exact ⟨b, off, e1, fun i hi => key _ _ _ (hc i hi) (.inl (isl i hi))⟩
  · obtain ⟨A', c, q, rd, z⟩ := hr i hi
    refine ⟨A', c, q, fun hne => ?_, z⟩
    obtain ⟨b, off, e1, hc⟩ := rd hne
    exact ⟨b, off, e1, fun j hj => key _ _ _ (hc j hj) (.inr ⟨_, rfl⟩)⟩
/-- What a region may leave by that neither panics nor lets out. -/
def onlyN (Q : Exit → Act → World → Prop) : Exit → Act → World → Prop
  | .normal, a, w => Q .normal a w
  | _, _, _ => False
theorem onlyN_of {Q : Exit → Act → World → Prop} {e : Exit} {a : Act} {w : World} (h : onlyN Q e a w) : Q e a w := by
  cases e <;> first | exact h | exact h.elim
theorem onlyN_out {Q : Exit → Act → World → Prop} : ¬ LetsOut (onlyN Q) := fun ⟨_, _, h⟩ => h
theorem only_n {Q : Exit → Act → World → Prop} {a : Act} {w : World} (h : Q .normal a w) : onlyN Q .normal a w := h
/-- A region in a round that draws its order, does not panic and whose loads may all be taken first. -/
theorem held_only {P : Program} {F : Fence} {n : Nat} (hF : IsW F) {ops : Array Oper} {Q : Exit → Act → World → Prop} {id : Nat} {a : Act} {w : World} (S : World → Prop) (k : Nat) (l : Array Bool) (hn : ops.size = k) (hl : Array.replicate k false = l) (hm : P.follows .mixedOrders = true)
    (hd : ops.all (fun o : Oper => match o.op with | .defer _ => false | _ => true) = true) (h : wpAnyH P .any ops (onlyN Q) S k l a w.drew) : (Code.region id ops true).wpIn F n P Q a w :=
  wpIn_mono (held_in hF S k l hn hl hm hd onlyN_out h) (fun _ _ _ h => onlyN_of h)
theorem blk_one {w : World} {g : Nat} {e : TypeId} {v : Value} (h : Blk w 0 e g [v]) {o : Nat} {x : Value} (hx : w.cell? ⟨g, o, none⟩ = some x) : x = v := by
  rw [h.cell] at hx
  rcases Nat.eq_zero_or_pos o with q | q
  · rw [q] at hx; cases hx; rfl
  · rw [List.getElem?_eq_none (by simp; omega)] at hx; cases hx
theorem CodeAt.turnC {S : Nat → Prop} {w w' : World} {cb mb k b : Nat} (h : CodeAt w cb mb k b) (t : Turn S w w') (hc : ¬ S cb) (hm : ¬ S mb) (hS : ∀ j, S j → ∀ o v, w.cell? ⟨j, o, none⟩ = some v → (∀ A n c, v ≠ .slice A n c) ∧ ∀ y, v ≠ .int .u8 y) : CodeAt w' cb mb k b := by
  have hlt := h.lt
  obtain ⟨A, c, h1, h2, es, clock, h3, h4⟩ := h
  refine ⟨A, c, h1.turn t hc, h2.turnC t hS, es, clock, (t.block mb hlt.2 hm).trans h3, fun x hx => ?_⟩
  obtain ⟨P, A', q, L, q1, q2, q3, q4, q5, q6⟩ := h4 x hx
  exact ⟨P, A', q, L, q1, q2, q3, q4, q5.turnC t hS, q6⟩
set_option maxRecDepth 100000 in
set_option maxHeartbeats 6400000 in
theorem odd8_any (cb mb k b x c N : Nat) (A : Option Addr) (W : ML) (w : World) (hc : CodeAt w cb mb k b) (hT : TabW w) (hx : x < 16384) (h1 : 1 ≤ k) (h14 : k + b ≤ 14) (hl : k ≤ (digs x).length) (hP : ∀ i ∈ digs x, i < k + b)
    (hA : IsM w A W) (hn : W.length = k + b) (hbW : ∀ r ∈ W, ∀ y ∈ r, y < 256) (hN : ∀ i ∈ digs x, (W.getD i []).length = N) (hN2 : N ≤ 1000000) :
    Calls Tryd.prog 35 #[.pointer (some ⟨cb, 0, none⟩), .slice A (k + b) c, .int .u64 (x : Int)] w fun e w' => ∃ (at_ : Nat) (t : Bool), e = .returned (.tuple #[.int .i64 (at_ : Int), .bool t]) ∧ oddAns W k N (digs x) at_ t ∧ CodeAt w' cb mb k b ∧ Turn (fun j => j = mb) w w' := by
  have hPk : ∀ i ∈ (digs x).take k, i < k + b := fun i hi => hP i (List.mem_of_mem_take hi)
  have hQk : ∀ i ∈ (digs x).drop k, i < k + b := fun i hi => hP i (List.mem_of_mem_drop hi)
  have hlk : ((digs x).take k).length = k := by rw [List.length_take]; omega
  have hsP : Shape (pick W ((digs x).take k)) k N := ⟨by rw [pick_len, hlk], fun r hr => by
      obtain ⟨t, ht, rfl⟩ := List.mem_map.1 hr
      exact hN t (List.mem_of_mem_take ht), fun r hr => by
      obtain ⟨t, ht, rfl⟩ := List.mem_map.1 hr
      exact hbW _ (mem_getD (by rw [hn]; exact hPk t ht))⟩
  have hsQ : Shape (pick W ((digs x).drop k)) ((digs x).drop k).length N := ⟨by rw [pick_len], fun r hr => by
      obtain ⟨t, ht, rfl⟩ := List.mem_map.1 hr
      exact hN t (List.mem_of_mem_drop ht), fun r hr => by
      obtain ⟨t, ht, rfl⟩ := List.mem_map.1 hr
      exact hbW _ (mem_getD (by rw [hn]; exact hQk t ht))⟩
  have HC := hide hc
  have HT := hide hT
  have HA := hide hA
  have HN := hide hn
  have SP := hide hsP
  have SQ := hide hsQ
  have HPK := hide hPk
  have HQK := hide hQk
  have HLK := hide hlk
  clear hc hT hA hn hsP hsQ hPk hQk hlk hN hbW hP
  refine calls_marks Tryd.func35 rfl ?_
  simp only [Tryd.ntmps35, List.size_toArray, List.length_cons, List.length_nil, Nat.reduceAdd, Nat.reduceSub, Array.replicate_succ, Array.replicate_zero, List.push_toArray, List.append_toArray, List.nil_append, List.cons_append]
  obtain ⟨_, _, hcode, -⟩ := HC.out
  have ba : Below w.heap.size w ((w.alloc (.cells #[.int .i64 0] 3)).alloc (.cells #[.bool false] 4)) := (below_alloc _ _).trans ((below_alloc _ _).mono (by simp))
  have s0 : ((w.alloc (.cells #[.int .i64 0] 3)).alloc (.cells #[.bool false] 4)).cell? ⟨cb, 0, none⟩ = some (.int .i64 (k : Int)) := (hcode.keep ba).cell 0
  clear hcode
  go_wp2_with fail
  have l6 : Blk ((w.alloc (.cells #[.int .i64 0] 3)).alloc (.cells #[.bool false] 4)) 0 3 w.heap.size [.int .i64 0] := (Blk.new w (B := 0) _ #[.int .i64 0] (Nat.zero_le _)).keep (below_alloc _ _)
  have l7 : Blk ((w.alloc (.cells #[.int .i64 0] 3)).alloc (.cells #[.bool false] 4)) 0 4 (w.heap.size + 1) [.bool false] := by
    have := Blk.new (w.alloc (.cells #[.int .i64 0] 3)) (B := 0) 4 #[.bool false] (Nat.zero_le _)
    rw [World.size_alloc] at this
    exact this
  have hs1 : ((w.alloc (.cells #[.int .i64 0] 3)).alloc (.cells #[.bool false] 4)).heap.size = w.heap.size + 2 := by simp
  obtain ⟨W1, hW1⟩ : ∃ W1, W1 = (w.alloc (.cells #[.int .i64 0] 3)).alloc (.cells #[.bool false] 4) := ⟨_, rfl⟩
  rw [← hW1] at ba l6 l7 hs1 ⊢
  obtain ⟨z, hz⟩ : ∃ z, z = w.heap.size := ⟨_, rfl⟩
  rw [← hz] at l6 l7 hs1 ⊢
  have HZ := hide hz
  have K1 := hide ba
  have L6 := hide l6
  have L7 := hide l7
  have HS1 := hide hs1
  have HF := hide (first8_any x k W1 hx hl)
  clear ba l6 l7 hs1 hW1 hz s0
  refine HF.out.mono ?_
  rintro e w1 ⟨x1, rfl, hx1, hd1, rfl⟩
  have an := andNot_set hx hx1
  have hd2 : digs (x &&& (18446744073709551615 - x1)) = (digs x).drop k := by
    rw [digs_less x hx1, hd1]
    exact filter_drop (digs_nodup x) k
  have hx2 : x &&& (18446744073709551615 - x1) < 16384 := and_lt hx
  obtain ⟨x2, hx2e⟩ : ∃ x2, x2 = x &&& (18446744073709551615 - x1) := ⟨_, rfl⟩
  rw [← hx2e] at an hd2 hx2
  have C1 := HC.out.keep K1.out
  have HWT := hide (weights_any cb mb k b x1 x2 W1 C1 (HT.out.below K1.out) hx1 hx2 h1 h14 (by rw [hd1]; exact HLK.out) (by rw [hd1]; exact HPK.out) (by rw [hd2]; exact HQK.out))
  have HD1 := hide hd1
  have HD2 := hide hd2
  have C1 := hide C1
  clear hd1 hd2 hx2e HF
  go_wp2_with fail
  refine HWT.out.mono ?_
  rintro e w2 ⟨AV, cV, V, rfl, iV, wV, c2, t2⟩
  have cl2 := C1.out.cellsOf t2
  have IV := hide iV
  have WV := hide wV
  have C2 := hide c2
  have T2 := hide t2
  have L6 := hide (L6.out.cells cl2)
  have L7 := hide (L7.out.cells cl2)
  have TB2 := (HT.out.below K1.out).cells cl2 t2.size
  have A2 := hide ((HA.out.below K1.out).cells cl2)
  have HOQ := hide (of_any x2 (k + b) c A W w2 hx2 TB2 A2.out HN.out (by rw [HD2.out]; exact HQK.out))
  have TB2 := hide TB2
  clear iV wV c2 t2 cl2 HWT
  go_wp2_with fail
  refine HOQ.out.mono ?_
  rintro e w3 ⟨AQ, cQ, rfl, iQ, -, k3⟩
  have IQ := hide iQ
  have K3 := hide k3
  have HS3 := hide k3.size
  clear iQ k3 HOQ
  have kb4 : Below w3.heap.size w3 ((w3.alloc (.cells #[.slice AV (digs x2).length cV] 22)).alloc (.cells #[.slice AQ (digs x2).length cQ] 22)) := (below_alloc _ _).trans ((below_alloc _ _).mono (by simp))
  have HOP := hide (of_any x1 (k + b) c A W ((w3.alloc (.cells #[.slice AV (digs x2).length cV] 22)).alloc (.cells #[.slice AQ (digs x2).length cQ] 22)) hx1 ((TB2.out.below K3.out).below kb4) ((A2.out.below K3.out).below kb4) HN.out (by rw [HD1.out]; exact HPK.out))
  obtain ⟨W4, hW4⟩ : ∃ W4, W4 = (w3.alloc (.cells #[.slice AV (digs x2).length cV] 22)).alloc (.cells #[.slice AQ (digs x2).length cQ] 22) := ⟨_, rfl⟩
  have hs4 : W4.heap.size = w3.heap.size + 2 := by rw [hW4]; simp
  have l10 : Blk W4 0 22 w3.heap.size [.slice AV (digs x2).length cV] := by rw [hW4]; exact (Blk.new w3 (B := 0) _ #[.slice AV (digs x2).length cV] (Nat.zero_le _)).keep (below_alloc _ _)
  have l11 : Blk W4 0 22 (w3.heap.size + 1) [.slice AQ (digs x2).length cQ] := by
    rw [hW4]
    have := Blk.new (w3.alloc (.cells #[.slice AV (digs x2).length cV] 22)) (B := 0) 22 #[.slice AQ (digs x2).length cQ] (Nat.zero_le _)
    rw [World.size_alloc] at this
    exact this
  rw [← hW4] at kb4 HOP
  have K24 := hide (K3.out.trans (kb4.mono K3.out.size))
  have IQ4 := hide (IQ.out.below kb4)
  clear IQ K3
  obtain ⟨m, hm⟩ : ∃ m, m = (digs x2).length := ⟨_, rfl⟩
  rw [← hm] at l10 l11
  have HM := hide (show m = ((digs x).drop k).length by rw [hm, HD2.out])
  rw [HD1.out, HLK.out] at HOP
  rw [HD2.out] at WV IQ4
  have hm14 : m ≤ 14 := by rw [hm]; exact digs_len x2
  obtain ⟨e10, he10⟩ : ∃ e10, e10 = w3.heap.size := ⟨_, rfl⟩
  rw [← he10] at l10 l11 hs4
  have L10 := hide l10
  have L11 := hide l11
  have HS4 := hide hs4
  have HE10 := hide he10
  clear kb4 l10 l11 hs4
  go_wp2_with fail
  rw [← hW4, ← he10, ← hm]
  clear hW4 hm he10
  refine HOP.out.mono ?_
  rintro e w5 ⟨AP, cP, rfl, iP, -, k5⟩
  have HCO := hide (columns_any AP k cP w5)
  have kx := below_alloc w5 (.cells #[.slice AP k cP] 22)
  have K26 := hide ((K24.out.trans (k5.mono K24.out.size)).trans (kx.mono (by have := K24.out.size; have := k5.size; omega)))
  have L10 := hide ((L10.out.keep k5).keep kx)
  have L11 := hide ((L11.out.keep k5).keep kx)
  have IQ6 := hide ((IQ4.out.below k5).below kx)
  have IP6 := hide (iP.below kx)
  have cx6 := cell_new_at w5 (.slice AP k cP) 22
  have hs6 : (w5.alloc (.cells #[.slice AP k cP] 22)).heap.size = w5.heap.size + 1 := by simp
  have h45 : W4.heap.size ≤ w5.heap.size := k5.size
  obtain ⟨W6, hW6⟩ : ∃ W6, W6 = w5.alloc (.cells #[.slice AP k cP] 22) := ⟨_, rfl⟩
  rw [← hW6] at HCO K26 L10 L11 IQ6 IP6 cx6 hs6
  have CX6 := hide cx6
  have HS6 := hide hs6
  clear iP k5 kx cx6 hs6 hW6 IQ4 HOP
  go_wp2_with fail
  refine HCO.out.mono ?_
  rintro e w6 ⟨rfl, rfl⟩
  clear HCO
  obtain ⟨Bx, hBx⟩ : ∃ Bx, Bx = w5.heap.size := ⟨_, rfl⟩
  rw [← hBx] at CX6 HS6 ⊢
  have L66 := hide (L6.out.keep K26.out)
  have L76 := hide (L7.out.keep K26.out)
  have C6 := hide (C2.out.keep K26.out)
  have IV6 := hide (IV.out.below K26.out)
  have hzz : z + 2 ≤ W1.heap.size := by have := HS1.out; omega
  have hz2 : W1.heap.size ≤ w2.heap.size := T2.out.size
  have hz3 : w2.heap.size ≤ e10 := by rw [HE10.out]; exact HS3.out
  have hz4 : W4.heap.size = e10 + 2 := HS4.out
  have hz5 : W4.heap.size ≤ Bx := by rw [hBx]; exact h45
  have hz6 : w6.heap.size = Bx + 1 := HS6.out
  clear hBx h45
  obtain ⟨Ok, hOk⟩ : ∃ Ok : Nat → Prop, Ok = fun a => ∀ q, q < m → mm k (en V) (en (pick W ((digs x).take k))) q a = en (pick W ((digs x).drop k)) q a := ⟨_, rfl⟩
  have hPL : ∀ a, Ok a ↔ placeFits W k (digs x) a := fun a => by
    have WV1 := WV.out
    rw [HD1.out] at WV1
    have := places (W := W) (a := a) WV1 h14 HLK.out ((List.take_sublist _ _).nodup (digs_nodup x)) HPK.out HQK.out
    rw [List.take_append_drop, ← HM.out] at this
    rw [hOk]
    exact this
  have HPL := hide hPL
  have HOK := hide hOk
  clear hOk hPL
  have nS6 : ∀ j, (j = z ∨ j = z + 1) → ∀ o v, w6.cell? ⟨j, o, none⟩ = some v → (∀ A n c, v ≠ .slice A n c) ∧ ∀ y, v ≠ .int .u8 y := fun j hj o v hv => by
    rcases hj with e | e
    · subst e
      rw [blk_one L66.out hv]
      exact ⟨(fun _ _ _ h => by cases h), (fun _ h => by cases h)⟩
    · subst e
      rw [blk_one L76.out hv]
      exact ⟨(fun _ _ _ h => by cases h), (fun _ h => by cases h)⟩
  have FIN := hide (show ∀ (U : World), Turn (fun j => j = z ∨ j = z + 1) w6 U → U.heap[w6.heap.size]? = some (.deferred (some [])) → CodeAt (U.putObj w6.heap.size (.deferred none)) cb mb k b ∧ Turn (fun j => j = mb) w (U.putObj w6.heap.size (.deferred none)) from fun U hT hK => by
    have hlt := HC.out.lt
    rw [← HZ.out] at hlt
    refine ⟨(C6.turnC hT (by rintro (e | e) <;> omega) (by rintro (e | e) <;> omega) nS6).cells (Cells.putD hK _) (World.putObj_heap_other (by omega)), ?_⟩
    refine Turn.putL ?_ (by rw [← HZ.out]; omega) _
    exact (((Turn.of_below _ K1.out).trans T2.out).trans (Turn.of_below _ K26.out)).then hT (fun j hj => .inr (by rw [← HZ.out]; rcases hj with e | e <;> omega)))
  clear nS6
  go_wp2_with fail
  refine wp_range (gf := 58) (pb := #[]) (lb := #[.pointer (some ⟨Bx, 0, none⟩)]) rfl (enters_of Tryd.func58 (by kernel_rfl) rfl)
    (R := colR (pick W ((digs x).take k)) k (w6.heap.size + 2)) (St := Below (w6.heap.size + 2)) (S := fun j => j = z ∨ j = z + 1) (N := N) ?seq ?sd ?sl ?st ?ps ?r
    (fun i A => Turn (fun j => j = z ∨ j = z + 1) w6 A ∧ Blk A 0 3 z [.int .i64 0] ∧ Blk A 0 4 (z + 1) [.bool false] ∧ ∀ a, a < i → Ok a)
    (fun c i A => c = .ret ∧ Turn (fun j => j = z ∨ j = z + 1) w6 A ∧ ∃ p, i = p + 1 ∧ (∀ a, a < p → Ok a) ∧ ¬ Ok p ∧ Blk A 0 3 z [.int .i64 (p : Int)] ∧ Blk A 0 4 (z + 1) [.bool true]) ?ci ?ix ?il ?ixl ?i0 ?round ?done ?stop
  case seq =>
    intro r
    have hs1 : ((w6.alloc (.deferred (some []))).alloc (.loop r)).heap.size = w6.heap.size + 2 := by simp
    have b61 : Below w6.heap.size w6 ((w6.alloc (.deferred (some []))).alloc (.loop r)) := (below_alloc _ _).trans ((below_alloc _ _).mono (by simp))
    have hlp : ((w6.alloc (.deferred (some []))).alloc (.loop r)).heap[w6.heap.size + 1]? = some (.loop r) := by
      have := World.alloc_heap_new (w6.alloc (.deferred (some []))) (.loop r)
      rwa [World.size_alloc] at this
    have := cols_seq AP k cP N Bx (pick W ((digs x).take k)) ((w6.alloc (.deferred (some []))).alloc (.loop r)) (fun j => (j = z ∨ j = z + 1) ∨ j = w6.heap.size + 1) h1 (by omega) hN2 SP.out
      ((b61.cell (p := ⟨Bx, 0, none⟩) (show Bx < w6.heap.size by omega)).trans CX6.out)
      (by rintro ((e | e) | e) <;> omega)
      (fun j h => by rw [hs1]; rcases h with (e | e) | e <;> omega)
      (fun A hA => (IP6.out.below b61).turnC hA (fun j hj o v hv => by
        rcases hj with (e | e) | e
        · subst e
          rw [blk_one (L66.out.keep b61) hv]
          exact ⟨(fun _ _ _ h => by cases h), (fun _ h => by cases h)⟩
        · subst e
          rw [blk_one (L76.out.keep b61) hv]
          exact ⟨(fun _ _ _ h => by cases h), (fun _ h => by cases h)⟩
        · subst e
          obtain ⟨_, _, _, hh⟩ := cells_of hv
          rw [hlp] at hh
          cases hh))
    rw [hs1] at this
    exact this
  case sd => rintro (e | e) <;> omega
  case sl => rintro (e | e) <;> omega
  case st => exact fun A B' j o h hj ho => (h.block j hj).trans ho
  case ps => rintro i vs A ⟨C, rfl, _⟩; rfl
  case r => rintro i vs A r r' ⟨C, rfl, hC⟩ hl; exact ⟨C, rfl, hC.put hl _⟩
  case ci => rintro i A B' ⟨hT, b1, b2, hf⟩ hb; exact ⟨hT.low hb (by omega), b1.low hb (by omega), b2.low hb (by omega), hf⟩
  case ix =>
    rintro c i A B' ⟨rfl, hT, p, e, h2, h3, h4, h5⟩ hb
    exact ⟨rfl, hT.low hb (by omega), p, e, h2, h3, h4.low hb (by omega), h5.low hb (by omega)⟩
  case il => rintro i A r r' ⟨hT, b1, b2, hf⟩ hl; exact ⟨hT.putL (by omega) _, b1.put hl _, b2.put hl _, hf⟩
  case ixl =>
    rintro c i A r r' ⟨rfl, hT, p, e, h2, h3, h4, h5⟩ hl
    exact ⟨rfl, hT.putL (by omega) _, p, e, h2, h3, h4.put hl _, h5.put hl _⟩
  case i0 =>
    intro r
    have b61 : Below w6.heap.size w6 ((w6.alloc (.deferred (some []))).alloc (.loop r)) := (below_alloc _ _).trans ((below_alloc _ _).mono (by simp))
    exact ⟨Turn.of_below _ b61, L66.out.keep b61, L76.out.keep b61, fun a h => absurd h (Nat.not_lt_zero a)⟩
  case round =>
    rintro l i vs U0 U hi ⟨hT, hb1, hb2, hok⟩ ⟨C, rfl, hC⟩ hlow
    have nS : ∀ j, (j = z ∨ j = z + 1) → ∀ o v, w6.cell? ⟨j, o, none⟩ = some v → (∀ A n c, v ≠ .slice A n c) ∧ ∀ y, v ≠ .int .u8 y := fun j hj o v hv => by
      rcases hj with e | e
      · subst e
        rw [blk_one L66.out hv]
        exact ⟨(fun _ _ _ h => by cases h), (fun _ h => by cases h)⟩
      · subst e
        rw [blk_one L76.out hv]
        exact ⟨(fun _ _ _ h => by cases h), (fun _ h => by cases h)⟩
    have IVU := hide (IV6.out.turnC hT nS)
    have IQU := hide (IQ6.out.turnC hT nS)
    have LA := hide (L10.out.turn hT (by rintro (e | e) <;> omega))
    have LB := hide (L11.out.turn hT (by rintro (e | e) <;> omega))
    have LZ := hide (show U.cell? ⟨e10 + 1, 0, none⟩ = some (.slice AQ m cQ) from LB.out.cell 0)
    have HB1 := hide hb1
    have HB2 := hide hb2
    have HTT := hide hT
    have HPrev := hide hok
    have HCC := hide hC
    have cB := LZ.out
    clear hT hok hC nS hb1 hb2
    gi_wp2
    refine ⟨trivial, ?_⟩
    gi_wp2
    gi_loopw [40] (fun p wr => ∃ t : Nat, t ≤ m ∧ p = .int .i64 (t : Int) ∧ Hid (Below U.heap.size U wr) ∧ Hid (∀ a, a < t → mm k (en V) (en (pick W ((digs x).take k))) a i = en (pick W ((digs x).drop k)) a i)) (fun p _ => m - (intOf p).toNat)
    case atStart => exact ⟨0, Nat.zero_le _, rfl, hide (Below.refl _ _), hide (fun a h => absurd h (Nat.not_lt_zero a))⟩
    case round =>
      obtain ⟨t, ht, rfl, htn, heq⟩ := hrel
      by_cases hlt : t < m
      · have htd := hide (show Below U.heap.size U wr.drew from ⟨htn.out.os, htn.out.tape, htn.out.output, htn.out.size, htn.out.block⟩)
        obtain ⟨bV, oV, Ar, cr, rfl, ck, ib, l1, m1⟩ := (IVU.out.below htn.out).at_ t (by rw [WV.out.1.high, ← HM.out]; exact hlt)
        have lt := WV.out.1.len_at t (by rw [← HM.out]; exact hlt)
        rw [lt] at ck ib l1
        obtain ⟨bQ, oQ, Aq, cq, rfl, ckq, ibq, l1q, m1q⟩ := (IQU.out.below htn.out).at_ t (by rw [SQ.out.high, ← HM.out]; exact hlt)
        have lq := SQ.out.len_at t (by rw [← HM.out]; exact hlt)
        rw [lq] at ckq ibq l1q
        have hmq := mem_getD (xss := pick W ((digs x).drop k)) (k := t) (by rw [SQ.out.high, ← HM.out]; exact hlt)
        obtain ⟨b3, o3, rfl, cn, hx3⟩ := at_place ibq.rd lq (SQ.out.byte _ hmq) i hi
        have hmem := mem_getD (xss := V) (k := t) (by rw [WV.out.1.high, ← HM.out]; exact hlt)
        have HDOT := hide (sdot_any Ar (some ⟨C, 0, none⟩) k cr k (V.getD t []) (colN (pick W ((digs x).take k)) k i) wr.drew (ib.rd.drewN 1) (col_rd (HCC.out.turn (Turn.of_below (fun _ => False) htd.out) (fun h => h)) (by omega)) lt (by simp [colN]) (WV.out.1.byte _ hmem) (colN_low SP.out i) (by omega))
        rw [dot_col WV.out.1 SP.out t i (by rw [← HM.out]; exact hlt) hi] at HDOT
        have ca : wr.drew.cell? ⟨e10, 0, none⟩ = some (.slice (some ⟨bV, oV, none⟩) m cV) := (LA.out.turn (Turn.of_below (fun _ => False) htd.out) (fun h => h)).cell 0
        have cdq := ckq
        obtain ⟨y, hy⟩ : ∃ y, y = ((pick W ((digs x).drop k)).getD t []).getD i 0 := ⟨_, rfl⟩
        have hye : y = (en (pick W ((digs x).drop k)) t i).n := by rw [hy]; exact SQ.out.num t i (by rw [← HM.out]; exact hlt)
        rw [← hy] at cn
        obtain ⟨v, hv⟩ : ∃ v, v = (mm k (en V) (en (pick W ((digs x).take k))) t i).n := ⟨_, rfl⟩
        rw [← hv] at HDOT
        have hcmp : (v = y) ↔ mm k (en V) (en (pick W ((digs x).take k))) t i = en (pick W ((digs x).drop k)) t i := by rw [hv, hye]; exact ⟨fun h => G.ext h, fun h => by rw [h]⟩
        have HCMP := hide hcmp
        have htm : (t : Int) < (m : Int) := by omega
        have hiN : (i : Int) < (N : Int) := by omega
        clear hv hye hy hcmp hmq hmem lt lq ib ibq
        gi_wp2
        refine held_only (isW_round l) (fun W' => W'.cell? ⟨e10, 0, none⟩ = some (.slice (some ⟨bV, oV, none⟩) m cV) ∧ W'.cell? ⟨bV, oV + t, none⟩ = some (.slice Ar k cr) ∧ W'.cell? ⟨b3, o3 + i, none⟩ = some (.int .u8 (y : Int))) 11 #[false, false, false, false, false, false, false, false, false, false, false] (by kernel_rfl) (by kernel_rfl) (by kernel_rfl) (by kernel_rfl) ?reg
        case reg =>
          have hHeld : wr.drew.cell? ⟨e10, 0, none⟩ = some (.slice (some ⟨bV, oV, none⟩) m cV) ∧ wr.drew.cell? ⟨bV, oV + t, none⟩ = some (.slice Ar k cr) ∧ wr.drew.cell? ⟨b3, o3 + i, none⟩ = some (.int .u8 (y : Int)) := ⟨ca, ck, cn⟩
          refine' wpAnyH_take (i := 0) (oi := ⟨_, _, _, _, _, _⟩) (v := _) rfl (by kernel_rfl) (by kernel_rfl) (by kernel_rfl) (fun _ _ _ h => h) (Or.inl ⟨rfl, ?_⟩) hHeld ?_
          rotate_left
          · (intro W hW; (try dsimp only at hW); go_simp; (try with_reducible rfl))
          try simp only [Act.put, List.setIfInBounds_toArray, List.set_cons_zero, List.set_cons_succ]
          refine' wpAnyH_take (i := 1) (oi := ⟨_, _, _, _, _, _⟩) (v := _) rfl (by kernel_rfl) (by kernel_rfl) (by kernel_rfl) (fun _ _ _ h => h) (Or.inl ⟨rfl, ?_⟩) hHeld ?_
          rotate_left
          · (intro W hW; (try dsimp only at hW); go_simp; (try with_reducible rfl))
          try simp only [Act.put, List.setIfInBounds_toArray, List.set_cons_zero, List.set_cons_succ]
          refine' wpAnyH_take (i := 2) (oi := ⟨_, _, _, _, _, _⟩) (v := _) rfl (by kernel_rfl) (by kernel_rfl) (by kernel_rfl) (fun _ _ _ h => h) (Or.inl ⟨rfl, ?_⟩) hHeld ?_
          rotate_left
          · (intro W hW; (try dsimp only at hW); go_simp; (try with_reducible rfl))
          try simp only [Act.put, List.setIfInBounds_toArray, List.set_cons_zero, List.set_cons_succ]
          refine' wpAnyH_take (i := 3) (oi := ⟨_, _, _, _, _, _⟩) (v := _) rfl (by kernel_rfl) (by kernel_rfl) (by kernel_rfl) (fun _ _ _ h => h) (Or.inl ⟨rfl, ?_⟩) hHeld ?_
          rotate_left
          · (intro W hW; (try dsimp only at hW); go_simp; (try with_reducible rfl))
          try simp only [Act.put, List.setIfInBounds_toArray, List.set_cons_zero, List.set_cons_succ]
          refine' wpAnyH_take (i := 4) (oi := ⟨_, _, _, _, _, _⟩) (v := _) rfl (by kernel_rfl) (by kernel_rfl) (by kernel_rfl) (fun _ _ _ h => h) (Or.inl ⟨rfl, ?_⟩) hHeld ?_
          rotate_left
          · (intro W hW; (try dsimp only at hW); go_simp; (try with_reducible rfl))
          try simp only [Act.put, List.setIfInBounds_toArray, List.set_cons_zero, List.set_cons_succ]
          refine' wpAnyH_take (i := 6) (oi := ⟨_, _, _, _, _, _⟩) (v := _) rfl (by kernel_rfl) (by kernel_rfl) (by kernel_rfl) (fun _ _ _ h => h) (Or.inl ⟨rfl, ?_⟩) hHeld ?_
          rotate_left
          · (intro W hW; (try dsimp only at hW); go_simp; (try with_reducible rfl))
          try simp only [Act.put, List.setIfInBounds_toArray, List.set_cons_zero, List.set_cons_succ]
          refine' wpAnyH_take (i := 7) (oi := ⟨_, _, _, _, _, _⟩) (v := _) rfl (by kernel_rfl) (by kernel_rfl) (by kernel_rfl) (fun _ _ _ h => h) (Or.inl ⟨rfl, ?_⟩) hHeld ?_
          rotate_left
          · (intro W hW; (try dsimp only at hW); go_simp; (try with_reducible rfl))
          try simp only [Act.put, List.setIfInBounds_toArray, List.set_cons_zero, List.set_cons_succ]
          refine' wpAnyH_take (i := 8) (oi := ⟨_, _, _, _, _, _⟩) (v := _) rfl (by kernel_rfl) (by kernel_rfl) (by kernel_rfl) (fun _ _ _ h => h) (Or.inl ⟨rfl, ?_⟩) hHeld ?_
          rotate_left
          · (intro W hW; (try dsimp only at hW); go_simp; (try with_reducible rfl))
          try simp only [Act.put, List.setIfInBounds_toArray, List.set_cons_zero, List.set_cons_succ]
          refine' wpAnyH_take (i := 9) (oi := ⟨_, _, _, _, _, _⟩) (v := _) rfl (by kernel_rfl) (by kernel_rfl) (by kernel_rfl) (fun _ _ _ h => h) (Or.inl ⟨rfl, ?_⟩) hHeld ?_
          rotate_left
          · (intro W hW; (try dsimp only at hW); go_simp; (try with_reducible rfl))
          try simp only [Act.put, List.setIfInBounds_toArray, List.set_cons_zero, List.set_cons_succ]
          refine held_one (i := 5) (by kernel_rfl) rfl (fun K hK => ?_)
          go_simp
          go_at_call 42
          refine HDOT.out.mono ?_
          rintro e w' ⟨rfl, rfl⟩
          refine hK.out _ _ hHeld ?_
          clear hK
          refine' wpAnyH_take (i := 10) (oi := ⟨_, _, _, _, _, _⟩) (v := _) rfl (by kernel_rfl) (by kernel_rfl) (by kernel_rfl) (fun _ _ _ h => h) (Or.inl ⟨rfl, ?_⟩) hHeld ?_
          rotate_left
          · (intro W hW; (try dsimp only at hW); go_simp; (try with_reducible rfl))
          try simp only [Act.put, List.setIfInBounds_toArray, List.set_cons_zero, List.set_cons_succ]
          refine wpAnyH_done (by kernel_rfl) ?_ _
          refine only_n ?_
          obtain ⟨W8, hW8⟩ : ∃ W8, W8 = wr.drew := ⟨_, rfl⟩
          rw [← hW8] at htd ⊢
          clear hHeld ca ck cn HDOT hW8
          by_cases e : v = y
          · have hn : ((v : Int) != (y : Int)) = false := by rw [e]; simp
            have EQ := HCMP.out.1 e
            gi_wp2
            go_roundw
            case rel => exact ⟨t + 1, by omega, by go_num, htd, hide (fun a ha => by
              by_cases q : a = t
              · rw [q]; exact EQ
              · exact heq.out a (by omega))⟩
            case measure => simp [intOf]; omega
          · have hn : ((v : Int) != (y : Int)) = true := by simp; omega
            have NE := fun h => e (HCMP.out.2 h)
            have zb1 := HB1.out.turn (Turn.of_below (fun _ => False) htd.out) (fun h => h)
            have zb2 := HB2.out.turn (Turn.of_below (fun _ => False) htd.out) (fun h => h)
            have g1 : W8.cell? ⟨z, 0, none⟩ = some (.int .i64 0) := zb1.cell 0
            have g2 : W8.cell? ⟨z + 1, 0, none⟩ = some (.bool false) := zb2.cell 0
            have f1 := zb1.frozen 0
            have f2 := zb2.frozen 0
            have R1 := hide ((zb1.stored 0 (.int .i64 (i : Int))).kept (grown_set _ (z + 1) 0 (.bool true)) (by simp))
            have R2 := hide ((zb2.kept (grown_set W8 z 0 (.int .i64 (i : Int))) (by simp)).stored 0 (.bool true))
            have TT := hide (show Turn (fun j => j = z ∨ j = z + 1) U ((W8.setCell ⟨z, 0, none⟩ (.int .i64 (i : Int))).setCell ⟨z + 1, 0, none⟩ (.bool true)) from (Turn.of_below _ htd.out).trans (((Turn.of_grown (grown_set W8 z 0 _)).mono (fun j e => .inl (by simpa using e))).trans ((Turn.of_grown (grown_set _ (z + 1) 0 _)).mono (fun j e => .inr (by simpa using e)))))
            clear zb1 zb2 HB1 HB2
            gi_wp2
            have HPP := HPrev.out
            have HO := HOK.out
            refine ⟨TT.out, rfl, HTT.out.trans TT.out, i, rfl, HPP, ?_, R1.out, R2.out⟩
            rw [HO]
            exact fun h => NE (h t (by omega))
      · obtain rfl : t = m := by omega
        have HO := HOK.out
        have HPP := HPrev.out
        have fin : ∀ a, a < i + 1 → Ok a := fun a ha => by
          by_cases q : a = i
          · rw [q, HO]
            exact heq.out
          · exact HPP a (by omega)
        have F := hide fin
        clear HO HPP fin
        gi_wp2
        exact ⟨Turn.of_below _ htn.out, HTT.out.trans (Turn.of_below _ htn.out), HB1.out.turn (Turn.of_below (fun _ => False) htn.out) (fun h => h), HB2.out.turn (Turn.of_below (fun _ => False) htn.out) (fun h => h), F.out⟩
  case done =>
    rintro U ⟨hT, b1, b2, hok⟩ hK
    have g1 : U.cell? ⟨z, 0, none⟩ = some (.int .i64 0) := b1.cell 0
    have g2 : U.cell? ⟨z + 1, 0, none⟩ = some (.bool false) := b2.cell 0
    have f1 := b1.frozen 0
    have f2 := b2.frozen 0
    have R1 := hide ((b1.stored 0 (.int .i64 0)).kept (grown_set _ (z + 1) 0 (.bool false)) (by simp))
    have R2 := hide ((b2.kept (grown_set U z 0 (.int .i64 0)) (by simp)).stored 0 (.bool false))
    have TT0 : Turn (fun j => j = z ∨ j = z + 1) U ((U.setCell ⟨z, 0, none⟩ (.int .i64 0)).setCell ⟨z + 1, 0, none⟩ (.bool false)) := ((Turn.of_grown (grown_set U z 0 _)).mono (fun j e => .inl (by simpa using e))).trans ((Turn.of_grown (grown_set _ (z + 1) 0 _)).mono (fun j e => .inr (by simpa using e)))
    have TT := hide (hT.trans TT0)
    have HK := hide (TT0.at_ hK (by rintro (e | e) <;> omega))
    have ANS := hide (show oddAns W k N (digs x) 0 false from .inr ⟨rfl, rfl, fun a ha => (HPL.out a).1 (hok a ha)⟩)
    clear hT b1 b2 hok TT0 hK
    go_wp2_with fail
    obtain ⟨U2, hU2⟩ : ∃ U2, U2 = (U.setCell ⟨z, 0, none⟩ (.int .i64 0)).setCell ⟨z + 1, 0, none⟩ (.bool false) := ⟨_, rfl⟩
    rw [← hU2] at R1 R2 TT HK ⊢
    have R1 := R1.out.putD HK.out (.deferred none)
    have R2 := R2.out.putD HK.out (.deferred none)
    have g1 := R1.cell 0
    have g2 := R2.cell 0
    refine ⟨by simp, .inl ⟨_, _, rfl, run_takeDeferred HK.out, ?_⟩⟩
    refine ⟨.tuple #[.int .i64 0, .bool false], ?_, 0, false, rfl, ANS.out, FIN.out U2 TT.out HK.out⟩
    simp [results, Tryd.results35, go_sem, g1, g2]
  case stop =>
    rintro c0 i U hi ⟨rfl, hT, p, rfl, hp, hn, b1, b2⟩ hK
    have HK := hide hK
    have TT := hide hT
    have ANS := hide (show oddAns W k N (digs x) p true from .inl ⟨rfl, by omega, fun h => hn ((HPL.out p).2 h), fun a ha => (HPL.out a).1 (hp a ha)⟩)
    have R1 := b1.putD HK.out (.deferred none)
    have R2 := b2.putD HK.out (.deferred none)
    have g1 := R1.cell 0
    have g2 := R2.cell 0
    clear hT hp hn b1 b2 R1 R2 hK
    go_wp2_with fail
    refine ⟨by simp, .inl ⟨_, _, rfl, run_takeDeferred HK.out, ?_⟩⟩
    refine ⟨.tuple #[.int .i64 (p : Int), .bool true], ?_, p, true, rfl, ANS.out, FIN.out U TT.out HK.out⟩
    simp [results, Tryd.results35, go_sem, g1, g2]
end Go.Proofs.YtpjocddeiehckaaDoor
namespace Go.Proofs.YtpjocddeiehckaaDoor
open Go.RowKit
attribute [local go_sem] Oper.semAt_some
theorem fits_even {W : ML} {k m : Int} (h : fitsOk W k m) : even W := h.2.2
set_option maxRecDepth 100000 in
set_option maxHeartbeats 3200000 in
theorem opened_any (A : Option Addr) (n c : Nat) (k m : Int) (W : ML) (w : World) (hS : SmallM w A n W) (hk : I64 k) (hm : I64 m) :
    Calls Tryd.prog 18 #[.slice A n c, .int .i64 k, .int .i64 m] w fun e w' => Below w.heap.size w w' ∧
      ((¬ fitsOk W k m ∧ e = .returned (.tuple #[.pointer none, .int .u64 0, .int .i64 1])) ∨
       (fitsOk W k m ∧ ∃ cb mb x : Nat, e = .returned (.tuple #[.pointer (some ⟨cb, 0, none⟩), .int .u64 (x : Int), .int .i64 0]) ∧ w.heap.size ≤ cb ∧ w.heap.size ≤ mb ∧ x < 16384 ∧ digs x = present W ∧ CodeAt w' cb mb k.toNat m.toNat)) := by
  obtain ⟨hA, hn, h15, hb, hl⟩ := hS
  have HA := hide hA
  have HN := hide hn
  have HC := hide (code_all k m w hk.1 hk.2 hm.1 hm.2)
  by_cases hbad : k < 1 ∨ m < 0 ∨ 14 < k + m
  · have e1 : codeE k m = 1 := if_pos hbad
    have NF := hide (show ¬ fitsOk W k m from fun h => by have := h.1; rw [e1] at this; cases this)
    rw [e1] at HC
    clear hA hn hb hl hm hk hbad e1
    go_enter Tryd.func18, Tryd.ntmps18
    go_wp2_with fail
    refine HC.out.mono ?_
    rintro e w1 ⟨v, rfl, o1, k1⟩
    go_wp2_with fail
    go_ret3
    exact ⟨k1, .inl ⟨NF.out, rfl⟩⟩
  · have e1 : codeE k m = 0 := if_neg hbad
    obtain ⟨b, rfl⟩ : ∃ b : Nat, m = (b : Int) := ⟨m.toNat, by omega⟩
    obtain ⟨a, rfl⟩ : ∃ a : Nat, k = (a : Int) := ⟨k.toNat, by omega⟩
    have e2 : codeR (a : Int) (b : Int) = codeL a b := by unfold codeR; rw [if_neg hbad, Int.toNat_natCast, Int.toNat_natCast]
    rw [e1, e2] at HC
    have h14 : a + b ≤ 14 := by omega
    have h1 : 1 ≤ a := by omega
    by_cases hlen : n = a + b
    · subst hlen
      have hfit : even W → fitsOk W (a : Int) (b : Int) := fun h => ⟨e1, by rw [hn]; omega, h⟩
      have HFIT := hide hfit
      clear hA hn hb hl hm hk hbad e1 e2 hfit
      go_enter Tryd.func18, Tryd.ntmps18
      have qm := @run_makeMap Tryd.prog
      go_wp2_with fail
      refine HC.out.mono ?_
      rintro e w1 ⟨v, rfl, o1, k1⟩
      have O1 := hide o1
      have K1 := hide k1
      have A1 := hide (HA.out.below k1)
      have HP := hide (present_any A (a + b) c W w1 A1.out HN.out (by omega))
      obtain ⟨A4, c4, rfl, -, -⟩ := o1.form (n := a + b) (by unfold codeL; rw [laid_len])
      clear o1 k1 HC
      go_wp2_with fail
      refine HP.out.mono ?_
      rintro e w2 ⟨v, rfl, hp, rfl⟩
      rcases hp with ⟨x, rfl, hset, hev⟩ | ⟨rfl, hev⟩
      · have hx := hset.1
        have hdx := present_digs hset (by rw [HN.out]; omega)
        have FIT := hide (HFIT.out hev)
        have HDX := hide hdx
        clear hset hev hdx HP
        go_wp2_with fail
        have k2 : Below w1.heap.size w1 ((w1.alloc (.map #[] 0)).alloc (.cells #[.int .i64 (a : Int), .slice A4 (a + b) c4, .map (some w1.heap.size)] 70)) := (below_alloc _ _).trans ((below_alloc _ _).mono (by simp))
        have bl := Blk.new (w1.alloc (.map #[] 0)) (B := 0) 70 #[.int .i64 (a : Int), .slice A4 (a + b) c4, .map (some w1.heap.size)] (Nat.zero_le _)
        rw [World.size_alloc] at bl
        have hmp : ((w1.alloc (.map #[] 0)).alloc (.cells #[.int .i64 (a : Int), .slice A4 (a + b) c4, .map (some w1.heap.size)] 70)).heap[w1.heap.size]? = some (.map #[] 0) := (Below.heap_alloc _ _ _ (by simp)).trans (World.alloc_heap_new w1 _)
        have him := O1.out.isM.1.below k2
        have hsz : w.heap.size ≤ w1.heap.size := K1.out.size
        go_ret3
        refine ⟨below_step K1.out k2, .inr ⟨FIT.out, w1.heap.size + 1, w1.heap.size, x, rfl, by omega, hsz, hx, HDX.out, ?_⟩⟩
        rw [Int.toNat_natCast, Int.toNat_natCast]
        exact ⟨_, _, bl, him, #[], 0, hmp, fun x h => absurd h (by simp)⟩
      · go_wp2_with fail
        go_ret3
        exact ⟨K1.out, .inl ⟨fun h => hev (fits_even h), rfl⟩⟩
    · have f2 : ((n : Int) != (a : Int) + (b : Int)) = true := by simp; omega
      have NF := hide (show ¬ fitsOk W (a : Int) (b : Int) from fun h => by have := h.2.1; rw [hn] at this; omega)
      clear hA hn hb hl hm hk hbad e1 e2
      go_enter Tryd.func18, Tryd.ntmps18
      go_wp2_with fail
      refine HC.out.mono ?_
      rintro e w1 ⟨v, rfl, o1, k1⟩
      go_wp2_with fail
      go_ret3
      exact ⟨k1, .inl ⟨NF.out, rfl⟩⟩
theorem fits_nat {W : ML} {k m : Int} (h : fitsOk W k m) : ∃ a b : Nat, k = (a : Int) ∧ m = (b : Int) ∧ 1 ≤ a ∧ a + b ≤ 14 ∧ W.length = a + b := by
  obtain ⟨h1, h2, h3⟩ := codeE_fits h.1
  have := h.2.1
  exact ⟨k.toNat, m.toNat, by omega, by omega, by omega, by omega, by omega⟩
set_option maxRecDepth 100000 in
set_option maxHeartbeats 3200000 in
theorem whole_any (A : Option Addr) (n c : Nat) (k m : Int) (W : ML) (w : World) (hS : SmallM w A n W) (hk : I64 k) (hm : I64 m) :
    Calls Tryd.prog 34 #[.slice A n c, .int .i64 k, .int .i64 m] w fun e w' => Below w.heap.size w w' ∧
      ((¬ fitsOk W k m ∧ e = .returned (.tuple #[.pointer none, .int .u64 0, .int .i64 1])) ∨
       (fitsOk W k m ∧ (∃ r ∈ W, r = []) ∧ ∃ cb x : Nat, e = .returned (.tuple #[.pointer (some ⟨cb, 0, none⟩), .int .u64 (x : Int), .int .i64 15])) ∨
       (fitsOk W k m ∧ (∀ r ∈ W, r ≠ []) ∧ ∃ cb mb x : Nat, e = .returned (.tuple #[.pointer (some ⟨cb, 0, none⟩), .int .u64 (x : Int), .int .i64 0]) ∧ w.heap.size ≤ cb ∧ w.heap.size ≤ mb ∧ x < 16384 ∧ digs x = present W ∧ CodeAt w' cb mb k.toNat m.toNat)) := by
  have HO := hide (opened_any A n c k m W w hS hk hm)
  have HL := hide hS.2.1
  clear hS hk hm
  go_enter Tryd.func34, Tryd.ntmps34
  go_wp2_with fail
  refine HO.out.mono ?_
  rintro e w1 ⟨k1, (⟨nf, rfl⟩ | ⟨hf, cb, mb, x, rfl, hcb, hmb, hx, hd, hcd⟩)⟩
  · have NF := hide nf
    clear HO nf
    go_wp2_with fail
    go_ret3
    exact ⟨k1, .inl ⟨NF.out, rfl⟩⟩
  · obtain ⟨a, b, rfl, rfl, h1, h14, hl⟩ := fits_nat hf
    have HX := hide (count_any x w1 hx)
    rw [hd] at HX
    have HF := hide hf
    have HD := hide hd
    have HCD := hide hcd
    obtain ⟨p, hp⟩ : ∃ p, p = (present W).length := ⟨_, rfl⟩
    rw [← hp] at HX
    have HP := hide hp
    clear HO hf hd hcd hp
    by_cases hlt : p < a + b
    · have hli : (p : Int) < (a : Int) + (b : Int) := by omega
      go_wp2_with fail
      refine HX.out.mono ?_
      rintro e w2 ⟨rfl, rfl⟩
      go_wp2_with fail
      go_ret3
      refine ⟨k1, .inr (.inl ⟨HF.out, present_some (D := W) (by rw [hl, ← HP.out]; exact hlt), cb, x, rfl⟩)⟩
    · have hli : ¬ (p : Int) < (a : Int) + (b : Int) := by omega
      go_wp2_with fail
      refine HX.out.mono ?_
      rintro e w2 ⟨rfl, rfl⟩
      go_wp2_with fail
      go_ret3
      exact ⟨k1, .inr (.inr ⟨HF.out, present_all (D := W) (by rw [hl, ← HP.out]; omega), cb, mb, x, rfl, hcb, hmb, hx, HD.out, HCD.out⟩)⟩
end Go.Proofs.YtpjocddeiehckaaDoor
namespace Go.Proofs.YtpjocddeiehckaaDoor
open Go.RowKit
attribute [local go_sem] Oper.semAt_some
theorem Full.shape {W : ML} {k b n : Nat} (h : Full W k b n) (hb : ∀ r ∈ W, ∀ x ∈ r, x < 256) : Shape W (k + b) n := ⟨h.high, h.wide, hb⟩
/-- A row of one and the same row of another, place by place. -/
theorem row_same {W V : ML} {m n l : Nat} (hW : Shape W m n) (hV : Shape V m n) (hl : l < m) (h : ∀ p, p < n → en W l p = en V l p) : W.getD l [] = V.getD l [] := by
  have a := hW.row hl
  have b := hV.row hl
  apply List.ext_getElem (by rw [a.1, b.1])
  intro p h1 h2
  have hp : p < n := by rw [← a.1]; exact h1
  have := congrArg G.n (h p hp)
  rw [hW.at_ hl, hV.at_ hl] at this
  have e1 : (W.getD l []).getD p 0 = (W.getD l [])[p] := getD_at h1
  have e2 : (V.getD l []).getD p 0 = (V.getD l [])[p] := getD_at h2
  rw [e1, e2] at this
  exact this
/-- Rows fit at every place when they are those of one word. -/
theorem fits_word {W : ML} {k b N : Nat} {P : List Nat} (hW : Shape W (k + b) N) (hP : ∀ l ∈ P, l < k + b) : (∀ p, p < N → placeFits W k P p) ↔ ∃ X, ∀ l ∈ P, W.getD l [] = (wordL k b N X).getD l [] := by
  constructor
  · intro h
    have h' : ∀ p, ∃ X : Nat → G, p < N → ∀ l ∈ P, gs k (fun j => codeRow k l j * X j) = en W l p := fun p => by
      by_cases hp : p < N
      · obtain ⟨X, hX⟩ := h p hp
        exact ⟨X, fun _ => hX⟩
      · exact ⟨fun _ => G.zero, fun q => absurd q hp⟩
    obtain ⟨X, hX⟩ := Classical.skolem.1 h'
    refine ⟨fun j p => X p j, fun l hl => row_same hW (wordL_shape _ _ _ _) (hP l hl) (fun p hp => ?_)⟩
    have e : en (wordL k b N (fun j p => X p j)) l p = word k (fun j p => X p j) l p := laid_at _ (hP l hl) hp
    rw [e, ← hX p hp l hl]
    rfl
  · rintro ⟨X, hX⟩ p hp
    refine ⟨fun j => X j p, fun l hl => ?_⟩
    have e : en (wordL k b N X) l p = word k X l p := laid_at _ (hP l hl) hp
    have e2 : en W l p = en (wordL k b N X) l p := by unfold en; rw [hX l hl]
    rw [e2, e]
    rfl
theorem placeFits.less {W : ML} {k a : Nat} {P Q : List Nat} (h : placeFits W k P a) (hQ : ∀ l ∈ Q, l ∈ P) : placeFits W k Q a := h.imp fun _ h l hl => h l (hQ l hl)
theorem full_fits {W : ML} {k b N : Nat} {P : List Nat} (h : Full W k b N) (hb : ∀ r ∈ W, ∀ x ∈ r, x < 256) (hP : ∀ l, l ∈ P ↔ l < k + b) : (∀ p, p < N → placeFits W k P p) ↔ fitting W k b N := by
  rw [fits_word (h.shape hb) (fun l hl => (hP l).1 hl)]
  exact ⟨fun ⟨X, hX⟩ => ⟨X, h.ext (wordL_len _ _ _ _) (fun l hl => hX l ((hP l).2 hl))⟩, fun ⟨X, hX⟩ => ⟨X, fun l _ => by rw [← hX]⟩⟩
/-- Rows that are all there. -/
theorem whole_full {W : ML} {a b : Nat} (hf : fitsOk W (a : Int) (b : Int)) (hne : ∀ r ∈ W, r ≠ []) (h1 : 1 ≤ a) (h14 : a + b ≤ 14) (hl : W.length = a + b) : Full W a b (W.getD 0 []).length ∧ ∀ l, l ∈ present W ↔ l < a + b := by
  obtain ⟨n, hn⟩ := hf.2.2
  have h0 : W.getD 0 [] ∈ W := mem_getD (by omega)
  have e0 := hn _ h0 (hne _ h0)
  refine ⟨⟨hl, fun r hr => by rw [e0]; exact hn r hr (hne r hr), ?_, h1, h14⟩, fun l => ?_⟩
  · have := hne _ h0
    rcases Nat.eq_zero_or_pos (W.getD 0 []).length with q | q
    · exact absurd (List.length_eq_zero_iff.1 q) this
    · exact q
  · rw [present_mem, hl]
    exact ⟨fun h => h.1, fun h => ⟨h, hne _ (mem_getD (by omega))⟩⟩
theorem present_length {W : ML} {a b : Nat} (hl : W.length = a + b) (h : ∀ r ∈ W, r ≠ []) : a ≤ (present W).length := by
  have e : present W = List.range W.length := List.filter_eq_self.2 (fun i hi => by
    have hi := List.mem_range.1 hi
    have hm := mem_getD (xss := W) (k := i) hi
    cases e : W.getD i [] with
    | nil => exact absurd e (h _ hm)
    | cons a b => rfl)
  rw [e, List.length_range]
  omega
set_option maxRecDepth 100000 in
set_option maxHeartbeats 3200000 in
theorem rightC : RightC := by
  intro A n c k m W w hS hk hm hT
  have HO := hide (whole_any A n c k m W w hS hk hm)
  have HS := hide hS
  have HT := hide hT
  clear hS hk hm hT
  go_enter Tryd.func14, Tryd.ntmps14
  go_wp2_with fail
  refine HO.out.mono ?_
  rintro e w1 ⟨k1, (⟨nf, rfl⟩ | ⟨hf, hr, cb, x, rfl⟩ | ⟨hf, hne, cb, mb, x, rfl, hcb, hmb, hx, hd, hcd⟩)⟩
  · have NF := hide nf
    have K1 := hide k1
    clear HO nf k1
    go_wp2_with fail
    go_ret2
    exact ⟨false, 1, rfl, .inl ⟨rfl, rfl, NF.out⟩, K1.out⟩
  · have HF := hide hf
    have HR := hide hr
    have K1 := hide k1
    clear HO hf hr k1
    go_wp2_with fail
    go_ret2
    exact ⟨false, 15, rfl, .inr ⟨HF.out, .inl ⟨rfl, rfl, HR.out⟩⟩, K1.out⟩
  · obtain ⟨a, b, rfl, rfl, h1, h14, hl⟩ := fits_nat hf
    rw [Int.toNat_natCast, Int.toNat_natCast] at hcd
    obtain ⟨hfull, hpr⟩ := whole_full hf hne h1 h14 hl
    have hby := HS.out.2.2.2.1
    obtain ⟨N, hN⟩ : ∃ N, N = (W.getD 0 []).length := ⟨_, rfl⟩
    rw [← hN] at hfull
    have hN2 : N ≤ 1500 := by rw [hN]; exact HS.out.2.2.2.2 _ (mem_getD (by omega))
    have hn : n = a + b := by rw [← HS.out.2.1, hl]
    subst hn
    have HODD := hide (odd8_any cb mb a b x c N A W w1 hcd (HT.out.below k1) hx h1 h14 (by rw [hd]; exact present_length hl hne) (fun i hi => (hpr i).1 (by rw [← hd]; exact hi)) (HS.out.1.below k1) hl hby (fun i hi => hfull.wide _ (mem_getD (by rw [hl]; exact (hpr i).1 (by rw [← hd]; exact hi)))) (by omega))
    rw [hd] at HODD
    have ALL := hide ((full_fits hfull hby hpr).trans (alike_all hfull).symm)
    have HF := hide hf
    have HNE := hide hne
    have K1 := hide k1
    have CB := hide hcb
    have MB := hide hmb
    clear HO hf hne k1 hcd hd hpr hby hN hfull hl hx hcb hmb
    go_wp2_with fail
    refine HODD.out.mono ?_
    rintro e w2 ⟨at_, t, rfl, ha, -, t2⟩
    have K2 := hide (K1.out.trans (t2.below (B := w.heap.size) K1.out.size (fun j e => by rw [e]; exact MB.out)))
    have HA := hide ha
    clear HODD ha t2
    go_wp2_with fail
    go_ret2
    refine ⟨!t, 0, rfl, .inr ⟨HF.out, .inr ⟨rfl, HNE.out, ?_⟩⟩, K2.out⟩
    rw [← ALL.out]
    rcases HA.out with ⟨rfl, q1, q2, -⟩ | ⟨rfl, -, q⟩
    · exact ⟨(fun h => by cases h), fun h => absurd (h at_ q1) q2⟩
    · exact ⟨fun _ => q, fun _ => rfl⟩
end Go.Proofs.YtpjocddeiehckaaDoor
namespace Go.Proofs.YtpjocddeiehckaaDoor
open Go.RowKit
attribute [local go_sem] Oper.semAt_some
theorem laid_set {us : List Value} {n q : Nat} (h : us.length = q) (hq : q < n) (v u : Value) : (us ++ List.replicate (n - q) u).set q v = us ++ [v] ++ List.replicate (n - (q + 1)) u := by
  rw [List.set_append_right _ _ (by omega), h, Nat.sub_self, show n - q = (n - (q + 1)) + 1 by omega, List.replicate_succ, List.set_cons_zero]
  simp
theorem laid_at2 {us : List Value} {n q : Nat} (h : us.length = q) (hq : q < n) (u : Value) : (us ++ List.replicate (n - q) u)[q]? = some u := by
  rw [List.getElem?_append_right (by omega), h, Nat.sub_self, List.getElem?_replicate, if_pos (by omega)]
/-- A block of slices that read as rows. -/
theorem blk_isM {w : World} {B g : Nat} {e : TypeId} {us : List Value} {xss : ML} (h : Blk w B e g us) (hl : us.length = xss.length) (hr : ∀ i, i < us.length → IsB w (us.getD i (.slice none 0 0)) (xss.getD i [])) : IsM w (some ⟨g, 0, none⟩) xss := by
  refine ⟨us, fun _ => ⟨g, 0, rfl, fun i hi => ?_⟩, hl, hr⟩
  rw [Nat.zero_add, h.cell]
  simp [hi]
theorem IsB.turnU {S : Nat → Prop} {w w' : World} {v : Value} {xs : List Nat} (h : IsB w v xs) (t : Turn S w w') (hS : ∀ j, S j → ∀ o u, w.cell? ⟨j, o, none⟩ = some u → ∀ y, u ≠ .int .u8 y) : IsB w' v xs := by
  obtain ⟨A', c, q, rd, z⟩ := h
  refine ⟨A', c, q, fun hne => ?_, z⟩
  obtain ⟨b, off, e1, hc⟩ := rd hne
  exact ⟨b, off, e1, fun j hj => t.cell (hc j hj) (fun hs => hS _ hs _ _ (hc j hj) _ rfl)⟩
set_option maxRecDepth 100000 in
set_option maxHeartbeats 3200000 in
theorem from8_any (A : Option Addr) (n c t N : Nat) (W : ML) (w : World) (hA : IsM w A W) (hn : W.length = n) (h1 : 1 ≤ n) (h14 : n ≤ 14) (hw : ∀ r ∈ W, r.length = N) (hb : ∀ r ∈ W, ∀ x ∈ r, x < 256) (ht : t < N) :
    Calls Tryd.prog 37 #[.slice A n c, .int .i64 (t : Int)] w fun e w' => ∃ g, e = .returned (.slice (some ⟨g, 0, none⟩) n n) ∧ w.heap.size ≤ g ∧ (∀ (S : Nat → Prop) (W' : World), Turn S w' W' → ¬ S g → (∀ j, S j → ∀ o u, w'.cell? ⟨j, o, none⟩ = some u → ∀ y, u ≠ .int .u8 y) → IsM W' (some ⟨g, 0, none⟩) (W.map (List.drop t))) ∧ Below w.heap.size w w' := by
  obtain ⟨i0, hi, hz0, hz1, hz2⟩ := info_parts Tryd.info_rows
  have HA := hide hA
  have HN := hide hn
  have HW := hide hw
  have HBY := hide hb
  clear hA hn hw hb
  go_enter Tryd.func37, Tryd.ntmps37
  go_wp2_with (at_make; refine halt ?_)
  refine ⟨?_⟩
  refine wpList_make_full _ rfl (.tmp 9) (.tmp 9) 22 rfl w.heap.size 34 i0 (.slice none 0 0) 1 Tryd.underlying22 hi hz0 hz1 .i64 .i64 n n n rfl rfl rfl rfl (by rw [hz2]; omega) (by unfold maxLen; omega) (Nat.le_refl _) ?_
  intro w2 h2' g2
  have o2 := made_nils h2'
  have k2 : Below w.heap.size w w2 := (Below.refl _ _).grown g2 (Nat.le_refl _) (by simp)
  obtain ⟨g, hg⟩ : ∃ g, g = w.heap.size := ⟨_, rfl⟩
  rw [← hg] at o2 ⊢
  have HG := hide hg
  have O2 := hide (show Blk w2 0 34 g (List.replicate n (.slice none 0 0)) from by first | exact o2.more (Nat.zero_le _) | exact ⟨Nat.zero_le _, o2.2⟩)
  have K2 := hide k2
  clear h2' g2 hi hz0 hz1 hz2 i0 o2 k2 hg
  go_wp2_with fail
  go_loopw [13] (fun p wr => ∃ q : Nat, q ≤ n ∧ p = .int .i64 (q : Int) ∧ Hid (Below w.heap.size w wr) ∧ Hid (∃ us, us.length = q ∧ Blk wr 0 34 g (us ++ List.replicate (n - q) (.slice none 0 0)) ∧ ∀ i, i < q → IsB w (us.getD i (.slice none 0 0)) ((W.getD i []).drop t))) (fun p _ => n - (intOf p).toNat)
  case atStart => exact ⟨0, Nat.zero_le _, rfl, K2, hide ⟨[], rfl, O2.out, fun i h => absurd h (Nat.not_lt_zero i)⟩⟩
  case round =>
    obtain ⟨q, hq, rfl, hk, hu⟩ := hrel
    by_cases hlt : q < n
    · have hmq := mem_getD (xss := W) (k := q) (by rw [HN.out]; exact hlt)
      obtain ⟨b, off, A', c', rfl, ck0, ib, l1, m1⟩ := HA.out.at_ q (by rw [HN.out]; exact hlt)
      rw [HW.out _ hmq] at ck0 ib l1
      obtain ⟨b3, o3, rfl, -, -⟩ := at_place ib.rd (HW.out _ hmq) (HBY.out _ hmq) t ht
      have ck := (hk.out.cell (cell_lt ck0)).trans ck0
      obtain ⟨us, hul, hub, hur⟩ := hu.out
      have c2 : wr.cell? ⟨g, q, none⟩ = some (.slice none 0 0) := (hub.cell q).trans (laid_at2 hul hlt _)
      have f2 := hub.frozen q
      have tl := ib.tailIs t (by omega)
      have NB := hub.stored q (.slice (some ⟨b3, o3 + t, none⟩) (N - t) (c' - t))
      rw [laid_set hul hlt] at NB
      have NU := hide (show ∃ us, us.length = q + 1 ∧ Blk (wr.setCell ⟨g, q, none⟩ (.slice (some ⟨b3, o3 + t, none⟩) (N - t) (c' - t))) 0 34 g (us ++ List.replicate (n - (q + 1)) (.slice none 0 0)) ∧ ∀ i, i < q + 1 → IsB w (us.getD i (.slice none 0 0)) ((W.getD i []).drop t) from ⟨_, by simp [hul], NB, fun i hi => by
        by_cases e : i = q
        · subst e
          have e2 : (us ++ [Value.slice (some ⟨b3, o3 + t, none⟩) (N - t) (c' - t)]).getD i (.slice none 0 0) = .slice (some ⟨b3, o3 + t, none⟩) (N - t) (c' - t) := by simp [← hul]
          rw [e2]
          exact tl
        · have e2 : (us ++ [Value.slice (some ⟨b3, o3 + t, none⟩) (N - t) (c' - t)]).getD i (.slice none 0 0) = us.getD i (.slice none 0 0) := by
            simp only [List.getD_eq_getElem?_getD]
            rw [List.getElem?_append_left (by omega)]
          rw [e2]
          exact hur i (by omega)⟩)
      have NK := hide (show Below w.heap.size w (wr.setCell ⟨g, q, none⟩ (.slice (some ⟨b3, o3 + t, none⟩) (N - t) (c' - t))) from hk.out.setCell (p := ⟨g, q, none⟩) (by rw [HG.out]; exact Nat.le_refl _) _)
      have hqi : (q : Int) < (n : Int) := by omega
      have htn : (t : Int) ≤ (N : Int) := by omega
      have htc : ¬ c' = t := by omega
      have htc2 : (t : Int) ≤ (c' : Int) := by omega
      clear hu hub hur tl NB ib hmq hk ck0
      go_wp2_with fail
      go_roundw
      case rel => exact ⟨q + 1, by omega, by go_num, NK, NU⟩
      case measure => simp [intOf]; omega
    · obtain rfl : q = n := by omega
      obtain ⟨us, hul, hub, hur⟩ := hu.out
      rw [Nat.sub_self, List.replicate_zero, List.append_nil] at hub
      have him := hide (show ∀ (S : Nat → Prop) (W' : World), Turn S wr W' → ¬ S g → (∀ j, S j → ∀ o u, wr.cell? ⟨j, o, none⟩ = some u → ∀ y, u ≠ .int .u8 y) → IsM W' (some ⟨g, 0, none⟩) (W.map (List.drop t)) from fun S W' hT hSg hSu => blk_isM (xss := W.map (List.drop t)) (hub.turn hT hSg) (by rw [hul, List.length_map, HN.out]) (fun i hi => by
        have e : (W.map (List.drop t)).getD i [] = (W.getD i []).drop t := by
          have : i < W.length := by rw [HN.out, ← hul]; exact hi
          simp [this]
        rw [e]
        exact ((hur i (by omega)).keep hk.out).turnU hT hSu))
      clear hub hur hu
      go_wp2_with fail
      go_ret
      exact ⟨g, rfl, by rw [HG.out]; exact Nat.le_refl _, him.out, hk.out⟩
end Go.Proofs.YtpjocddeiehckaaDoor
namespace Go.Proofs.YtpjocddeiehckaaDoor
open Go.RowKit
theorem drop_at (W : ML) (t l : Nat) : (W.map (List.drop t)).getD l [] = (W.getD l []).drop t := by
  rcases Nat.lt_or_ge l W.length with h | h
  · simp [h]
  · simp [h]
theorem en_drop (W : ML) (t l p : Nat) : en (W.map (List.drop t)) l p = en W l (t + p) := by
  unfold en
  rw [drop_at]
  congr 1
  simp
theorem placeFits_drop {W : ML} {k t p : Nat} {P : List Nat} : placeFits (W.map (List.drop t)) k P p ↔ placeFits W k P (t + p) := by
  unfold placeFits
  exact ⟨fun ⟨X, h⟩ => ⟨X, fun l hl => by rw [← en_drop]; exact h l hl⟩, fun ⟨X, h⟩ => ⟨X, fun l hl => by rw [en_drop]; exact h l hl⟩⟩
/-- All but one fit from a place on, where all fit ahead of it. -/
theorem but_iff {W : ML} {a b N t q : Nat} {P : List Nat} (h : Full W a b N) (hb : ∀ r ∈ W, ∀ x ∈ r, x < 256) (hb1 : 1 ≤ b) (hP : ∀ l, l ∈ P ↔ l < a + b) (ht : t < N) (hpre : ∀ p, p < t → placeFits W a P p) :
    (∀ p, p < N - t → placeFits (W.map (List.drop t)) a (P.filter (fun j => decide (j ≠ q))) p) ↔ alikeP (W.set q []) (a : Int) (b : Int) := by
  have hm : ∀ l, l ∈ P.filter (fun j => decide (j ≠ q)) ↔ l < a + b ∧ l ≠ q := fun l => by rw [List.mem_filter, hP]; simp
  rw [alike_but h hb1]
  have e1 : (∀ p, p < N - t → placeFits (W.map (List.drop t)) a (P.filter (fun j => decide (j ≠ q))) p) ↔ ∀ p, p < N → placeFits W a (P.filter (fun j => decide (j ≠ q))) p := by
    constructor
    · intro g p hp
      rcases Nat.lt_or_ge p t with q | q
      · exact (hpre p q).less (fun l hl => (List.mem_filter.1 hl).1)
      · have := placeFits_drop.1 (g (p - t) (by omega))
        rwa [show t + (p - t) = p by omega] at this
    · exact fun g p hp => placeFits_drop.2 (g (t + p) (by omega))
  rw [e1, fits_word (h.shape hb) (fun l hl => ((hm l).1 hl).1)]
  exact ⟨fun ⟨X, hX⟩ => ⟨X, fun l hl hne => hX l ((hm l).2 ⟨hl, hne⟩)⟩, fun ⟨X, hX⟩ => ⟨X, fun l hl => hX l ((hm l).1 hl).1 ((hm l).1 hl).2⟩⟩
/-- k rows fit at every place. -/
theorem k_fit (W : ML) {k a : Nat} {P : List Nat} (h14 : k ≤ 14) (hl : P.length = k) (hn : P.Nodup) (hP : ∀ i ∈ P, i < k) : placeFits W k P a := by
  obtain ⟨L, hL⟩ := inv_exists (k := k) (b := 0) (by omega) hl hn (fun i hi => by have := hP i hi; omega)
  have hV : WeightsOf (codeL k 0) k P [] [] := ⟨⟨rfl, (fun r hr => by cases hr), (fun r hr => by cases hr)⟩, L, hL, fun i hi => absurd hi (Nat.not_lt_zero i)⟩
  have := (places (W := W) (a := a) hV (by omega) hl hn (fun i hi => by have := hP i hi; omega) (fun i hi => by cases hi)).1 (fun i hi => absurd hi (Nat.not_lt_zero i))
  rwa [List.append_nil] at this
/-- Rows of k numbers stand where only blocks turn whose cells hold neither a slice of that length nor a byte. -/
theorem IsM.turnK {S : Nat → Prop} {w w' : World} {A : Option Addr} {xss : ML} {k : Nat} (h : IsM w A xss) (hk : ∀ r ∈ xss, r.length = k) (t : Turn S w w') (hS : ∀ j, S j → ∀ o v, w.cell? ⟨j, o, none⟩ = some v → (∀ A c, v ≠ .slice A k c) ∧ ∀ y, v ≠ .int .u8 y) : IsM w' A xss := by
  have key : ∀ (b o : Nat) (x : Value), w.cell? ⟨b, o, none⟩ = some x → ((∃ A c, x = .slice A k c) ∨ ∃ y, x = .int .u8 y) → w'.cell? ⟨b, o, none⟩ = some x := fun b o x hx hk => by
    refine t.cell hx (fun hs => ?_)
    have := hS b hs o x hx
    rcases hk with ⟨A, c, e⟩ | ⟨y, e⟩
    · exact this.1 _ _ e
    · exact this.2 _ e
  obtain ⟨vs, r, l, hr⟩ := h
  have isl : ∀ i, i < vs.length → ∃ A c, vs.getD i (.slice none 0 0) = .slice A k c := fun i hi => by
    obtain ⟨A, c, q, _⟩ := hr i hi
    rw [hk _ (mem_getD (by omega))] at q
    exact ⟨A, c, q⟩
  refine ⟨vs, fun hne => ?_, l, fun i hi => ?_⟩
  · obtain ⟨b, off, e1, hc⟩ := r hne
    exact ⟨b, off, e1, fun i hi => key _ _ _ (hc i hi) (.inl (isl i hi))⟩
  · obtain ⟨A', c, q, rd, z⟩ := hr i hi
    refine ⟨A', c, q, fun hne => ?_, z⟩
    obtain ⟨b, off, e1, hc⟩ := rd hne
    exact ⟨b, off, e1, fun j hj => key _ _ _ (hc j hj) (.inr ⟨_, rfl⟩)⟩
theorem CodeAt.turnK {S : Nat → Prop} {w w' : World} {cb mb k b : Nat} (h : CodeAt w cb mb k b) (t : Turn S w w') (hc : ¬ S cb) (hm : ¬ S mb) (hS : ∀ j, S j → ∀ o v, w.cell? ⟨j, o, none⟩ = some v → (∀ A c, v ≠ .slice A k c) ∧ ∀ y, v ≠ .int .u8 y) : CodeAt w' cb mb k b := by
  have hlt := h.lt
  obtain ⟨A, c, h1, h2, es, clock, h3, h4⟩ := h
  refine ⟨A, c, h1.turn t hc, h2.turnK (codeL_shape k b).wide t hS, es, clock, (t.block mb hlt.2 hm).trans h3, fun x hx => ?_⟩
  obtain ⟨P, A', q, L, q1, q2, q3, q4, q5, q6⟩ := h4 x hx
  exact ⟨P, A', q, L, q1, q2, q3, q4, q5.turnK q6.1.wide t hS, q6⟩
end Go.Proofs.YtpjocddeiehckaaDoor
namespace Go.Proofs.YtpjocddeiehckaaDoor
open Go.RowKit
attribute [local go_sem] Oper.semAt_some
theorem present_range {W : ML} (h : ∀ r ∈ W, r ≠ []) : present W = List.range W.length := List.filter_eq_self.2 (fun i hi => by
    have hi := List.mem_range.1 hi
    have hm := mem_getD (xss := W) (k := i) hi
    cases e : W.getD i [] with
    | nil => exact absurd e (h _ hm)
    | cons a b => rfl)
theorem filter_most (n i : Nat) (h : i < n) : n - 1 ≤ ((List.range n).filter (fun j => decide (j ≠ i))).length := by
  have e : (List.range n).filter (fun j => decide (j ≠ i)) = (List.range n).filter (· != i) := List.filter_congr (fun j _ => by by_cases q : j = i <;> simp [q])
  rw [e, ← List.nodup_range.erase_eq_filter, List.length_erase_of_mem (List.mem_range.2 h), List.length_range]
  exact Nat.le_refl _
theorem wrong_start (w : World) (A : Option Addr) (n c : Nat) :
    Below w.heap.size w (((w.alloc (.cells #[.slice A n c] 22)).alloc (.cells #[.int .i64 0] 3)).alloc (.cells #[.int .i64 0] 24)) ∧
    Blk (((w.alloc (.cells #[.slice A n c] 22)).alloc (.cells #[.int .i64 0] 3)).alloc (.cells #[.int .i64 0] 24)) 0 22 w.heap.size [.slice A n c] ∧
    Blk (((w.alloc (.cells #[.slice A n c] 22)).alloc (.cells #[.int .i64 0] 3)).alloc (.cells #[.int .i64 0] 24)) 0 3 (w.heap.size + 1) [.int .i64 0] ∧
    Blk (((w.alloc (.cells #[.slice A n c] 22)).alloc (.cells #[.int .i64 0] 3)).alloc (.cells #[.int .i64 0] 24)) 0 24 (w.heap.size + 1 + 1) [.int .i64 0] ∧
    (((w.alloc (.cells #[.slice A n c] 22)).alloc (.cells #[.int .i64 0] 3)).alloc (.cells #[.int .i64 0] 24)).heap.size = w.heap.size + 3 := by
  have e1 : (w.alloc (.cells #[.slice A n c] 22)).heap.size = w.heap.size + 1 := by simp
  have e2 : ((w.alloc (.cells #[.slice A n c] 22)).alloc (.cells #[.int .i64 0] 3)).heap.size = w.heap.size + 2 := by simp
  have b1 := below_alloc w (.cells #[.slice A n c] 22)
  have b2 := below_alloc (w.alloc (.cells #[.slice A n c] 22)) (.cells #[.int .i64 0] 3)
  have b3 := below_alloc ((w.alloc (.cells #[.slice A n c] 22)).alloc (.cells #[.int .i64 0] 3)) (.cells #[.int .i64 0] 24)
  refine ⟨(b1.trans (b2.mono (by omega))).trans (b3.mono (by omega)), ((Blk.new w (B := 0) _ #[.slice A n c] (Nat.zero_le _)).keep b2).keep b3, ?_, ?_, by simp⟩
  · have := (Blk.new (w.alloc (.cells #[.slice A n c] 22)) (B := 0) 3 #[.int .i64 0] (Nat.zero_le _)).keep b3
    rw [e1] at this
    exact this
  · have := Blk.new ((w.alloc (.cells #[.slice A n c] 22)).alloc (.cells #[.int .i64 0] 3)) (B := 0) 24 #[.int .i64 0] (Nat.zero_le _)
    rw [e2] at this
    exact this
theorem two_boxes (w : World) (u v : Value) (s t : TypeId) :
    Below w.heap.size w ((w.alloc (.cells #[u] s)).alloc (.cells #[v] t)) ∧ Blk ((w.alloc (.cells #[u] s)).alloc (.cells #[v] t)) 0 s w.heap.size [u] ∧ Blk ((w.alloc (.cells #[u] s)).alloc (.cells #[v] t)) 0 t (w.heap.size + 1) [v] ∧
    ((w.alloc (.cells #[u] s)).alloc (.cells #[v] t)).heap.size = w.heap.size + 2 := by
  have e1 : (w.alloc (.cells #[u] s)).heap.size = w.heap.size + 1 := by simp
  have b2 := below_alloc (w.alloc (.cells #[u] s)) (.cells #[v] t)
  refine ⟨(below_alloc w _).trans (b2.mono (by omega)), (Blk.new w (B := 0) _ #[u] (Nat.zero_le _)).keep b2, ?_, by simp⟩
  have := Blk.new (w.alloc (.cells #[u] s)) (B := 0) t #[v] (Nat.zero_le _)
  rw [e1] at this
  exact this
set_option maxRecDepth 100000 in
set_option maxHeartbeats 6400000 in
theorem wrongC : WrongC := by
  intro A n c k m W w hS hk hm hT
  have HS := hide hS
  have HT := hide hT
  have HI := hide (And.intro hk hm)
  clear hS hk hm hT
  refine calls_marks Tryd.func16 rfl ?_
  simp only [Tryd.ntmps16, List.size_toArray, List.length_cons, List.length_nil, Nat.reduceAdd, Nat.reduceSub, Array.replicate_succ, Array.replicate_zero, List.push_toArray, List.append_toArray, List.nil_append, List.cons_append]
  go_wp2_with fail
  obtain ⟨kb, b0, b1, b2, hs3⟩ := wrong_start w A n c
  obtain ⟨W3, hW3⟩ : ∃ W3, W3 = ((w.alloc (.cells #[.slice A n c] 22)).alloc (.cells #[.int .i64 0] 3)).alloc (.cells #[.int .i64 0] 24) := ⟨_, rfl⟩
  rw [← hW3] at kb b0 b1 b2 hs3 ⊢
  obtain ⟨z, hz⟩ : ∃ z, z = w.heap.size := ⟨_, rfl⟩
  rw [← hz] at b0 b1 b2 hs3 ⊢
  have HZ := hide hz
  have K3 := hide kb
  have B0 := hide b0
  have B1 := hide b1
  have B2 := hide b2
  have HS3 := hide hs3
  have HO := hide (whole_any A n c k m W W3 (HS.out.below kb) HI.out.1 HI.out.2)
  clear hW3 hz kb b0 b1 b2 hs3
  refine HO.out.mono ?_
  rintro e w1 ⟨k1, (⟨nf, rfl⟩ | ⟨hf, hr, cb, x, rfl⟩ | ⟨hf, hne, cb, mb, x, rfl, hcb, hmb, hx, hd, hcd⟩)⟩
  · have NF := hide nf
    clear nf
    obtain ⟨kb, -, -, -⟩ := two_boxes w1 (.pointer none) (.int .u64 0) 45 47
    have b1 := (B1.out.keep k1).keep kb
    have b2 := (B2.out.keep k1).keep kb
    have K1 := hide (K3.out.trans ((k1.trans (kb.mono k1.size)).mono K3.out.size))
    have c1 := b1.cell 0
    have c2 := b2.cell 0
    have f1 := b1.frozen 0
    have f2 := b2.frozen 0
    have r1 := hide ((b1.stored 0 (.int .i64 0)).kept (grown_set _ (z + 1 + 1) 0 (.int .i64 1)) (by simp))
    have r2 := hide ((b2.kept (grown_set _ (z + 1) 0 (.int .i64 0)) (by simp)).stored 0 (.int .i64 1))
    have kf := hide ((K1.out.setCell (p := ⟨z + 1, 0, none⟩) (by show w.heap.size ≤ z + 1; rw [← HZ.out]; omega) (.int .i64 0)).setCell (p := ⟨z + 1 + 1, 0, none⟩) (by show w.heap.size ≤ z + 1 + 1; rw [← HZ.out]; omega) (.int .i64 1))
    clear HO k1 kb b1 b2
    go_wp2_with fail
    obtain ⟨U, hU⟩ : ∃ U, U = (((w1.alloc (.cells #[.pointer none] 45)).alloc (.cells #[.int .u64 0] 47)).setCell ⟨z + 1, 0, none⟩ (.int .i64 0)).setCell ⟨z + 1 + 1, 0, none⟩ (.int .i64 1) := ⟨_, rfl⟩
    rw [← hU] at r1 r2 kf ⊢
    have g1 := r1.out.cell 0
    have g2 := r2.out.cell 0
    refine ⟨.tuple #[.int .i64 0, .int .i64 1], ?_, 0, 1, rfl, ⟨false, 1, .inl ⟨rfl, rfl, NF.out⟩, .inl ⟨by decide, rfl, rfl⟩⟩, kf.out⟩
    simp [results, Tryd.results16, go_sem, g1, g2]
  · have HF := hide hf
    have HR := hide hr
    clear hf hr
    obtain ⟨kb, -, -, -⟩ := two_boxes w1 (.pointer (some ⟨cb, 0, none⟩)) (.int .u64 (x : Int)) 45 47
    have b1 := (B1.out.keep k1).keep kb
    have b2 := (B2.out.keep k1).keep kb
    have K1 := hide (K3.out.trans ((k1.trans (kb.mono k1.size)).mono K3.out.size))
    have c1 := b1.cell 0
    have c2 := b2.cell 0
    have f1 := b1.frozen 0
    have f2 := b2.frozen 0
    have r1 := hide ((b1.stored 0 (.int .i64 0)).kept (grown_set _ (z + 1 + 1) 0 (.int .i64 15)) (by simp))
    have r2 := hide ((b2.kept (grown_set _ (z + 1) 0 (.int .i64 0)) (by simp)).stored 0 (.int .i64 15))
    have kf := hide ((K1.out.setCell (p := ⟨z + 1, 0, none⟩) (by show w.heap.size ≤ z + 1; rw [← HZ.out]; omega) (.int .i64 0)).setCell (p := ⟨z + 1 + 1, 0, none⟩) (by show w.heap.size ≤ z + 1 + 1; rw [← HZ.out]; omega) (.int .i64 15))
    clear HO k1 kb b1 b2
    go_wp2_with fail
    obtain ⟨U, hU⟩ : ∃ U, U = (((w1.alloc (.cells #[.pointer (some ⟨cb, 0, none⟩)] 45)).alloc (.cells #[.int .u64 (x : Int)] 47)).setCell ⟨z + 1, 0, none⟩ (.int .i64 0)).setCell ⟨z + 1 + 1, 0, none⟩ (.int .i64 15) := ⟨_, rfl⟩
    rw [← hU] at r1 r2 kf ⊢
    have g1 := r1.out.cell 0
    have g2 := r2.out.cell 0
    refine ⟨.tuple #[.int .i64 0, .int .i64 15], ?_, 0, 15, rfl, ⟨false, 15, .inr ⟨HF.out, .inl ⟨rfl, rfl, HR.out⟩⟩, .inl ⟨by decide, rfl, rfl⟩⟩, kf.out⟩
    simp [results, Tryd.results16, go_sem, g1, g2]
  · obtain ⟨a, b, rfl, rfl, h1, h14, hl⟩ := fits_nat hf
    rw [Int.toNat_natCast, Int.toNat_natCast] at hcd
    obtain ⟨hfull, hpr⟩ := whole_full hf hne h1 h14 hl
    have hby := HS.out.2.2.2.1
    obtain ⟨N, hN⟩ : ∃ N, N = (W.getD 0 []).length := ⟨_, rfl⟩
    rw [← hN] at hfull
    have hN2 : N ≤ 1500 := by rw [hN]; exact HS.out.2.2.2.2 _ (mem_getD (by omega))
    have hn : n = a + b := by rw [← HS.out.2.1, hl]
    subst hn
    obtain ⟨kb, b8, b9, hs6⟩ := two_boxes w1 (.pointer (some ⟨cb, 0, none⟩)) (.int .u64 (x : Int)) 45 47
    have b0 := (B0.out.keep k1).keep kb
    have b1 := (B1.out.keep k1).keep kb
    have b2 := (B2.out.keep k1).keep kb
    have K6 := hide (K3.out.trans ((k1.trans (kb.mono k1.size)).mono K3.out.size))
    have C6 := hide (hcd.keep kb)
    have HLT := hide hcd.lt
    have hk1 : W3.heap.size ≤ w1.heap.size := k1.size
    obtain ⟨W6, hW6⟩ : ∃ W6, W6 = (w1.alloc (.cells #[.pointer (some ⟨cb, 0, none⟩)] 45)).alloc (.cells #[.int .u64 (x : Int)] 47) := ⟨_, rfl⟩
    have c0 := b0.cell 0
    have c8 := b8.cell 0
    have c9 := b9.cell 0
    obtain ⟨y, hy⟩ : ∃ y, y = w1.heap.size := ⟨_, rfl⟩
    have HY := hide hy
    have HMY := hide (show mb < y from by rw [hy]; exact HLT.out.2)
    have HYZ := hide (show z + 3 ≤ y from by rw [hy, ← HS3.out]; exact hk1)
    rw [← hy] at hs6 b8 b9 c8 c9
    have HS6 := hide hs6
    rw [← hW6] at C6 K6 HS6
    rw [hy] at c8 c9
    have HODD := hide (odd8_any cb mb a b x (c) N A W W6 C6.out (HT.out.below K6.out) hx h1 h14 (by rw [hd]; exact present_length hl hne) (fun i hi => (hpr i).1 (by rw [← hd]; exact hi)) (HS.out.1.below K6.out) hl hby (fun i hi => hfull.wide _ (mem_getD (by rw [hl]; exact (hpr i).1 (by rw [← hd]; exact hi)))) (by omega))
    rw [hd] at HODD
    have FULL := hide hfull
    have HF := hide hf
    have HNE := hide hne
    have CB := hide hcb
    have MB := hide hmb
    have HD := hide hd
    have HL := hide hl
    have HPR := hide hpr
    have HBY := hide hby
    have BB := hide (And.intro b0 (And.intro b1 (And.intro b2 (And.intro b8 b9))))
    rw [← hW6] at BB
    clear HO hf hne k1 kb hcd hd hpr hby hN hfull hl hcb hmb hs6 b0 b1 b2 b8 b9 hy
    go_wp2_with fail
    rw [← hW6]
    clear hW6 c0 c8 c9
    rw [← HY.out]
    refine HODD.out.mono ?_
    rintro e w7 ⟨at_, t, rfl, ha, c7, t7⟩
    have cl7 := C6.out.cellsOf t7
    have K7 := hide (K6.out.trans (t7.below (B := w.heap.size) K6.out.size (fun j e => by have := MB.out; have := K3.out.size; omega)))
    have B70 := hide (BB.out.1.cells cl7)
    have B71 := hide (BB.out.2.1.cells cl7)
    have B72 := hide (BB.out.2.2.1.cells cl7)
    have B78 := hide (BB.out.2.2.2.1.cells cl7)
    have B79 := hide (BB.out.2.2.2.2.cells cl7)
    have HS7 := hide (show y + 2 ≤ w7.heap.size from by rw [← HS6.out]; exact t7.size)
    have C7 := hide c7
    clear HODD c7 t7 cl7 BB
    rcases ha with ⟨rfl, q1, q2, q3⟩ | ⟨rfl, -, q⟩
    · have hb1 : 1 ≤ b := by
        rcases Nat.eq_zero_or_pos b with e | e
        · subst e
          exact absurd (k_fit W (by omega) (by rw [present_range HNE.out, List.length_range, HL.out]) (by rw [present_range HNE.out]; exact List.nodup_range) (fun l hl => (HPR.out l).1 hl)) q2
        · exact e
      have HF8 := hide (from8_any A (a + b) c at_ N W w7 (HS.out.1.below K7.out) HL.out (by omega) (by omega) FULL.out.wide HBY.out q1)
      have BI := hide (fun q => but_iff (q := q) FULL.out HBY.out hb1 HPR.out q1 q3)
      have RF := hide (show rightAns W (a : Int) (b : Int) false 0 from .inr ⟨HF.out, .inr ⟨rfl, HNE.out, (fun h => by cases h), fun h => absurd (((full_fits FULL.out HBY.out HPR.out).trans (alike_all FULL.out).symm).2 h at_ q1) q2⟩⟩)
      have c0 : w7.cell? ⟨z, 0, none⟩ = some (.slice A (a + b) c) := B70.out.cell 0
      have Q1 := hide q1
      clear q1 q2 q3
      go_wp2_with fail
      refine HF8.out.mono ?_
      rintro e w8 ⟨g, rfl, hg, i8, k8⟩
      have b08 := B70.out.keep k8
      have c08 := b08.cell 0
      have f08 := b08.frozen 0
      have t9 : Turn (fun j => j = z) w8 (w8.setCell ⟨z, 0, none⟩ (.slice (some ⟨g, 0, none⟩) (a + b) (a + b))) := (Turn.of_grown (grown_set w8 z 0 _)).mono (fun j e => by simpa using e)
      have hz7 := HS7.out
      have hz8 : w7.heap.size ≤ w8.heap.size := k8.size
      have hyz := HYZ.out
      have hmy := HMY.out
      have hcbz : z + 3 ≤ cb := by rw [← HS3.out]; exact CB.out
      have hmbz : z + 3 ≤ mb := by rw [← HS3.out]; exact MB.out
      have nS8 : ∀ j, j = z → ∀ o v, w8.cell? ⟨j, o, none⟩ = some v → (∀ A c, v ≠ .slice A a c) ∧ ∀ y, v ≠ .int .u8 y := fun j hj o v hv => by
        subst hj
        rw [blk_one b08 hv]
        exact ⟨(fun _ _ h => by simp only [Value.slice.injEq] at h; have := h.2.1; omega), (fun _ h => by cases h)⟩
      have C9 := hide ((C7.out.keep k8).turnK t9 (by omega) (by omega) nS8)
      have I9 := hide (i8 _ _ t9 (by omega) (fun j hj o v hv => (nS8 j hj o v hv).2))
      have b0 := hide (b08.stored 0 (.slice (some ⟨g, 0, none⟩) (a + b) (a + b)))
      have b1 := hide ((B71.out.keep k8).turn t9 (by omega))
      have b2 := hide ((B72.out.keep k8).turn t9 (by omega))
      have b8 := hide ((B78.out.keep k8).turn t9 (by omega))
      have b9 := hide ((B79.out.keep k8).turn t9 (by omega))
      have K9 := hide ((K7.out.trans (k8.mono K7.out.size)).setCell (p := ⟨z, 0, none⟩) (by show w.heap.size ≤ z; rw [HZ.out]; exact Nat.le_refl _) (.slice (some ⟨g, 0, none⟩) (a + b) (a + b)))
      have hs9 : (w8.setCell ⟨z, 0, none⟩ (.slice (some ⟨g, 0, none⟩) (a + b) (a + b))).heap.size = w8.heap.size := by simp
      obtain ⟨W9, hW9⟩ : ∃ W9, W9 = w8.setCell ⟨z, 0, none⟩ (.slice (some ⟨g, 0, none⟩) (a + b) (a + b)) := ⟨_, rfl⟩
      have c9 := b9.out.cell 0
      rw [← hW9] at C9 I9 b0 b1 b2 b8 b9 K9 hs9
      clear b08 t9 i8 nS8 k8 c0
      have HDR := hide (show digs x = List.range (a + b) by rw [HD.out, present_range HNE.out, HL.out])
      have hN9 : (digs x).length = a + b := by rw [HDR.out, List.length_range]
      have hlt9 := C9.out.lt
      have HZS := hide (And.intro hlt9.1 (And.intro hlt9.2 (show z + 6 ≤ W9.heap.size by omega)))
      have hz9 : z + 6 ≤ W9.heap.size := HZS.out.2.2
      have htab : 1 < z := by rw [HZ.out]; exact HT.out.1
      go_wp2_with fail
      rw [← hW9]
      clear hW9 c9 c08 f08
      have FIN := hide (show ∀ U : World, Turn (fun j => j = z + 1 ∨ j = z + 1 + 1 ∨ j = mb) W9 U → Below w.heap.size w (U.putObj W9.heap.size (.deferred none)) from fun U hT => by
        have hz0 : z = w.heap.size := HZ.out
        exact below_put (K9.out.trans (hT.below (B := w.heap.size) K9.out.size (fun j e => by rcases e with e | e | e <;> omega))) K9.out.size _)
      refine wp_range (gf := 22) (pb := #[.int .u64 (x : Int)]) (lb := #[]) rfl (enters_of Tryd.func22 (by kernel_rfl) rfl)
        (R := eachR x) (St := fun A B => B = A) (S := fun j => j = z + 1 ∨ j = z + 1 + 1 ∨ j = mb) (N := (digs x).length) ?seq ?sd ?sl ?st ?ps ?r
        (fun i U => Turn (fun j => j = z + 1 ∨ j = z + 1 + 1 ∨ j = mb) W9 U ∧ CodeAt U cb mb a b ∧ Blk U 0 3 (z + 1) [.int .i64 0] ∧ Blk U 0 24 (z + 1 + 1) [.int .i64 0] ∧ ∀ q, q < i → ¬ alikeP (W.set q []) (a : Int) (b : Int))
        (fun c i U => c = .ret ∧ Turn (fun j => j = z + 1 ∨ j = z + 1 + 1 ∨ j = mb) W9 U ∧ ∃ p, i = p + 1 ∧ alikeP (W.set p []) (a : Int) (b : Int) ∧ (∀ q, q < p → ¬ alikeP (W.set q []) (a : Int) (b : Int)) ∧ Blk U 0 3 (z + 1) [.int .i64 (p : Int)] ∧ Blk U 0 24 (z + 1 + 1) [.int .i64 0]) ?ci ?ix ?il ?ixl ?i0 ?round ?done ?stop
      case seq =>
        intro r
        have b61 : Below W9.heap.size W9 ((W9.alloc (.deferred (some []))).alloc (.loop r)) := (below_alloc _ _).trans ((below_alloc _ _).mono (by simp))
        refine each_seq x _ _ hx ((HT.out.below K9.out).below b61) ?_
        rintro ((e | e | e) | e) <;> omega
      case sd => rintro (e | e | e) <;> omega
      case sl => rintro (e | e | e) <;> omega
      case st => rintro A B k o rfl _ h; exact h
      case ps => rintro i vs A rfl; rfl
      case r => rintro i vs A r r' h hl; exact h
      case ci => rintro i A B h rfl; exact h
      case ix => rintro c i A B h rfl; exact h
      case il =>
        rintro i U r r' ⟨hT, hC, h1, h2, h3⟩ hl
        exact ⟨hT.putL (by omega) _, hC.cells (Cells.put hl _) (World.putObj_heap_other (by omega)), h1.put hl _, h2.put hl _, h3⟩
      case ixl =>
        rintro c i U r r' ⟨rfl, hT, p, h1, h2, h3, h4, h5⟩ hl
        exact ⟨rfl, hT.putL (by omega) _, p, h1, h2, h3, h4.put hl _, h5.put hl _⟩
      case i0 =>
        intro r
        have b61 : Below W9.heap.size W9 ((W9.alloc (.deferred (some []))).alloc (.loop r)) := (below_alloc _ _).trans ((below_alloc _ _).mono (by simp))
        exact ⟨Turn.of_below _ b61, C9.out.keep b61, b1.out.keep b61, b2.out.keep b61, fun q h => absurd h (Nat.not_lt_zero q)⟩
      case round =>
        rintro l i vs U0 U hi ⟨hT, hC, hb1, hb2, hno⟩ rfl hlow
        have hi2 : i < a + b := by omega
        have ei : (digs x).getD i 0 = i := by rw [HDR.out]; simp [hi2]
        rw [ei]
        have mbO : ∀ o v, W9.cell? ⟨mb, o, none⟩ = some v → False := fun o v hv => by
          obtain ⟨_, _, _, _, es, clock, hm, _⟩ := C9.out
          obtain ⟨_, _, _, hh⟩ := cells_of hv
          rw [hm] at hh
          cases hh
        have KU := hide (K9.out.trans (hT.below (B := w.heap.size) K9.out.size (fun j e => by rw [← HZ.out]; rcases e with e | e | e <;> omega)))
        have IU := hide (I9.out.turnC hT (fun j hj o v hv => by
          rcases hj with e | e | e
          · subst e
            rw [blk_one b1.out hv]
            exact ⟨(fun _ _ _ h => by cases h), (fun _ h => by cases h)⟩
          · subst e
            rw [blk_one b2.out hv]
            exact ⟨(fun _ _ _ h => by cases h), (fun _ h => by cases h)⟩
          · subst e
            exact (mbO _ _ hv).elim))
        have c0 : U.cell? ⟨z, 0, none⟩ = some (.slice (some ⟨g, 0, none⟩) (a + b) (a + b)) := (b0.out.turn hT (by rintro (e | e | e) <;> omega)).cell 0
        have c8 : U.cell? ⟨y, 0, none⟩ = some (.pointer (some ⟨cb, 0, none⟩)) := (b8.out.turn hT (by rintro (e | e | e) <;> omega)).cell 0
        have c9 : U.cell? ⟨y + 1, 0, none⟩ = some (.int .u64 (x : Int)) := (b9.out.turn hT (by rintro (e | e | e) <;> omega)).cell 0
        have TU := HT.out.below KU.out
        have hWO := hide (without8_any x i U.drew hx (by omega))
        have hOD := hide (fun (yy : Nat) (hyy : yy < 16384) (hdy : digs yy = (digs x).filter (fun j => decide (j ≠ i))) => odd8_any cb mb a b yy (a + b) (N - at_) (some ⟨g, 0, none⟩) (W.map (List.drop at_)) U.drew hC TU hyy h1 h14
          (by
            rw [hdy, HDR.out]
            have := filter_most (a + b) i hi2
            omega)
          (fun q hq => by
            rw [hdy, HDR.out] at hq
            exact List.mem_range.1 (List.mem_filter.1 hq).1)
          IU.out (by rw [List.length_map, HL.out]) (fun r hr y hy => by
            obtain ⟨r0, h0, rfl⟩ := List.mem_map.1 hr
            exact HBY.out r0 h0 y (List.mem_of_mem_drop hy))
          (fun q hq => by
            rw [hdy, HDR.out] at hq
            rw [drop_at, List.length_drop, FULL.out.wide _ (mem_getD (by rw [HL.out]; exact List.mem_range.1 (List.mem_filter.1 hq).1))]) (by omega))
        have HTU := hide hT
        have HB1 := hide hb1
        have HB2 := hide hb2
        have HNO := hide hno
        have hHeld : U.drew.cell? ⟨y, 0, none⟩ = some (.pointer (some ⟨cb, 0, none⟩)) ∧ U.drew.cell? ⟨z, 0, none⟩ = some (.slice (some ⟨g, 0, none⟩) (a + b) (a + b)) ∧ U.drew.cell? ⟨y + 1, 0, none⟩ = some (.int .u64 (x : Int)) := ⟨c8, c0, c9⟩
        clear hT hC hb1 hb2 hno mbO TU
        gi_wp2
        refine ⟨trivial, ?_⟩
        gi_wp2
        refine held_only (isW_round l) (fun W' => W'.cell? ⟨y, 0, none⟩ = some (.pointer (some ⟨cb, 0, none⟩)) ∧ W'.cell? ⟨z, 0, none⟩ = some (.slice (some ⟨g, 0, none⟩) (a + b) (a + b)) ∧ W'.cell? ⟨y + 1, 0, none⟩ = some (.int .u64 (x : Int))) 11 #[false, false, false, false, false, false, false, false, false, false, false] (by kernel_rfl) (by kernel_rfl) (by kernel_rfl) (by kernel_rfl) ?_
        refine' wpAnyH_take (i := 0) (oi := ⟨_, _, _, _, _, _⟩) (v := _) rfl (by kernel_rfl) (by kernel_rfl) (by kernel_rfl) (fun _ _ _ h => h) (Or.inl ⟨rfl, ?_⟩) hHeld ?_
        rotate_left
        · (intro W hW; (try dsimp only at hW); go_simp; (try with_reducible rfl))
        try simp only [Act.put, List.setIfInBounds_toArray, List.set_cons_zero, List.set_cons_succ]
        refine' wpAnyH_take (i := 1) (oi := ⟨_, _, _, _, _, _⟩) (v := _) rfl (by kernel_rfl) (by kernel_rfl) (by kernel_rfl) (fun _ _ _ h => h) (Or.inl ⟨rfl, ?_⟩) hHeld ?_
        rotate_left
        · (intro W hW; (try dsimp only at hW); go_simp; (try with_reducible rfl))
        try simp only [Act.put, List.setIfInBounds_toArray, List.set_cons_zero, List.set_cons_succ]
        refine' wpAnyH_take (i := 2) (oi := ⟨_, _, _, _, _, _⟩) (v := _) rfl (by kernel_rfl) (by kernel_rfl) (by kernel_rfl) (fun _ _ _ h => h) (Or.inl ⟨rfl, ?_⟩) hHeld ?_
        rotate_left
        · (intro W hW; (try dsimp only at hW); go_simp; (try with_reducible rfl))
        try simp only [Act.put, List.setIfInBounds_toArray, List.set_cons_zero, List.set_cons_succ]
        refine' wpAnyH_take (i := 3) (oi := ⟨_, _, _, _, _, _⟩) (v := _) rfl (by kernel_rfl) (by kernel_rfl) (by kernel_rfl) (fun _ _ _ h => h) (Or.inl ⟨rfl, ?_⟩) hHeld ?_
        rotate_left
        · (intro W hW; (try dsimp only at hW); go_simp; (try with_reducible rfl))
        try simp only [Act.put, List.setIfInBounds_toArray, List.set_cons_zero, List.set_cons_succ]
        refine held_one (i := 4) (by kernel_rfl) rfl (fun K hK => ?_)
        go_simp
        go_at_call 38
        refine hWO.out.mono ?_
        rintro e w' ⟨yy, rfl, hyy, hdy, rfl⟩
        refine hK.out _ _ hHeld ?_
        clear hK
        try simp only [List.setIfInBounds_toArray, List.set_cons_zero, List.set_cons_succ]
        refine held_one (i := 5) (by kernel_rfl) rfl (fun K hK => ?_)
        go_simp
        go_at_call 35
        refine (hOD.out yy hyy hdy).mono ?_
        rintro e U2 ⟨at2, t2, rfl, ha2, c2, t2'⟩
        have hHeld2 : U2.cell? ⟨y, 0, none⟩ = some (.pointer (some ⟨cb, 0, none⟩)) ∧ U2.cell? ⟨z, 0, none⟩ = some (.slice (some ⟨g, 0, none⟩) (a + b) (a + b)) ∧ U2.cell? ⟨y + 1, 0, none⟩ = some (.int .u64 (x : Int)) := ⟨t2'.cell c8 (by show ¬ y = mb; omega), t2'.cell c0 (by show ¬ z = mb; omega), t2'.cell c9 (by show ¬ y + 1 = mb; omega)⟩
        refine hK.out _ _ hHeld2 ?_
        clear hK
        try simp only [List.setIfInBounds_toArray, List.set_cons_zero, List.set_cons_succ]
        refine' wpAnyH_take (i := 6) (oi := ⟨_, _, _, _, _, _⟩) (v := _) rfl (by kernel_rfl) (by kernel_rfl) (by kernel_rfl) (fun _ _ _ h => h) (Or.inl ⟨rfl, ?_⟩) hHeld2 ?_
        rotate_left
        · (intro W hW; (try dsimp only at hW); go_simp; (try with_reducible rfl))
        try simp only [Act.put, List.setIfInBounds_toArray, List.set_cons_zero, List.set_cons_succ]
        refine' wpAnyH_take (i := 7) (oi := ⟨_, _, _, _, _, _⟩) (v := _) rfl (by kernel_rfl) (by kernel_rfl) (by kernel_rfl) (fun _ _ _ h => h) (Or.inl ⟨rfl, ?_⟩) hHeld2 ?_
        rotate_left
        · (intro W hW; (try dsimp only at hW); go_simp; (try with_reducible rfl))
        try simp only [Act.put, List.setIfInBounds_toArray, List.set_cons_zero, List.set_cons_succ]
        refine' wpAnyH_take (i := 8) (oi := ⟨_, _, _, _, _, _⟩) (v := _) rfl (by kernel_rfl) (by kernel_rfl) (by kernel_rfl) (fun _ _ _ h => h) (Or.inl ⟨rfl, ?_⟩) hHeld2 ?_
        rotate_left
        · (intro W hW; (try dsimp only at hW); go_simp; (try with_reducible rfl))
        try simp only [Act.put, List.setIfInBounds_toArray, List.set_cons_zero, List.set_cons_succ]
        refine' wpAnyH_take (i := 9) (oi := ⟨_, _, _, _, _, _⟩) (v := _) rfl (by kernel_rfl) (by kernel_rfl) (by kernel_rfl) (fun _ _ _ h => h) (Or.inl ⟨rfl, ?_⟩) hHeld2 ?_
        rotate_left
        · (intro W hW; (try dsimp only at hW); go_simp; (try with_reducible rfl))
        try simp only [Act.put, List.setIfInBounds_toArray, List.set_cons_zero, List.set_cons_succ]
        refine' wpAnyH_take (i := 10) (oi := ⟨_, _, _, _, _, _⟩) (v := _) rfl (by kernel_rfl) (by kernel_rfl) (by kernel_rfl) (fun _ _ _ h => h) (Or.inl ⟨rfl, ?_⟩) hHeld2 ?_
        rotate_left
        · (intro W hW; (try dsimp only at hW); go_simp; (try with_reducible rfl))
        try simp only [Act.put, List.setIfInBounds_toArray, List.set_cons_zero, List.set_cons_succ]
        refine wpAnyH_done (by kernel_rfl) ?_ _
        refine only_n ?_
        clear hHeld hHeld2 hOD hWO
        rw [hdy, HD.out] at ha2
        have t2u : Turn (fun j => j = mb) U U2 := ⟨t2'.os, t2'.tape, t2'.output, t2'.size, t2'.block⟩
        have z1 := HB1.out.turn t2u (by omega)
        have z2 := HB2.out.turn t2u (by omega)
        have T2 := hide (show Turn (fun j => j = z + 1 ∨ j = z + 1 + 1 ∨ j = mb) U U2 from t2u.mono (fun j e => .inr (.inr e)))
        have C2 := hide c2
        rcases ha2 with ⟨rfl, q1, q2, -⟩ | ⟨rfl, -, q⟩
        · have NO := hide (show ¬ alikeP (W.set i []) (a : Int) (b : Int) from fun h => q2 ((BI.out i).2 h at2 q1))
          have Z1 := hide z1
          have Z2 := hide z2
          clear q1 q2 z1 z2 c2 t2' t2u
          gi_wp2
          exact ⟨T2.out, HTU.out.trans T2.out, C2.out, Z1.out, Z2.out, fun q hq => by
            by_cases e : q = i
            · rw [e]; exact NO.out
            · exact HNO.out q (by omega)⟩
        · have YES := hide ((BI.out i).1 q)
          have g1 := z1.cell 0
          have g2 := z2.cell 0
          have f1 := z1.frozen 0
          have f2 := z2.frozen 0
          have R1 := hide ((z1.stored 0 (.int .i64 (i : Int))).kept (grown_set _ (z + 1 + 1) 0 (.int .i64 0)) (by simp))
          have R2 := hide ((z2.kept (grown_set U2 (z + 1) 0 (.int .i64 (i : Int))) (by simp)).stored 0 (.int .i64 0))
          have TT := hide (show Turn (fun j => j = z + 1 ∨ j = z + 1 + 1 ∨ j = mb) U ((U2.setCell ⟨z + 1, 0, none⟩ (.int .i64 (i : Int))).setCell ⟨z + 1 + 1, 0, none⟩ (.int .i64 0)) from T2.out.trans (((Turn.of_grown (grown_set U2 (z + 1) 0 _)).mono (fun j e => .inl (by simpa using e))).trans ((Turn.of_grown (grown_set _ (z + 1 + 1) 0 _)).mono (fun j e => .inr (.inl (by simpa using e))))))
          clear q z1 z2 c2 t2' t2u T2
          gi_wp2
          exact ⟨TT.out, rfl, HTU.out.trans TT.out, i, rfl, YES.out, HNO.out, R1.out, R2.out⟩
      case done =>
        rintro U ⟨hT, hC, b1', b2', hno⟩ hK
        have g1 := b1'.cell 0
        have g2 := b2'.cell 0
        have f1 := b1'.frozen 0
        have f2 := b2'.frozen 0
        have R1 := hide ((b1'.stored 0 (.int .i64 0)).kept (grown_set _ (z + 1 + 1) 0 (.int .i64 15)) (by simp))
        have R2 := hide ((b2'.kept (grown_set U (z + 1) 0 (.int .i64 0)) (by simp)).stored 0 (.int .i64 15))
        have TT0 : Turn (fun j => j = z + 1 ∨ j = z + 1 + 1 ∨ j = mb) U ((U.setCell ⟨z + 1, 0, none⟩ (.int .i64 0)).setCell ⟨z + 1 + 1, 0, none⟩ (.int .i64 15)) := ((Turn.of_grown (grown_set U (z + 1) 0 _)).mono (fun j e => .inl (by simpa using e))).trans ((Turn.of_grown (grown_set _ (z + 1 + 1) 0 _)).mono (fun j e => .inr (.inl (by simpa using e))))
        have TT := hide (hT.trans TT0)
        have HK := hide (TT0.at_ hK (by rintro (e | e | e) <;> omega))
        have ANS := hide (show wrongAns W (a : Int) (b : Int) 0 15 from ⟨false, 0, RF.out, .inr (.inr ⟨rfl, rfl, .inr ⟨rfl, rfl, fun p hp => hno p (by rw [hN9, ← HL.out]; exact hp)⟩⟩)⟩)
        clear hT hC b1' b2' hno TT0 hK
        go_wp2_with fail
        obtain ⟨U2, hU2⟩ : ∃ U2, U2 = (U.setCell ⟨z + 1, 0, none⟩ (.int .i64 0)).setCell ⟨z + 1 + 1, 0, none⟩ (.int .i64 15) := ⟨_, rfl⟩
        rw [← hU2] at R1 R2 TT HK ⊢
        have R1 := R1.out.putD HK.out (.deferred none)
        have R2 := R2.out.putD HK.out (.deferred none)
        have g1 := R1.cell 0
        have g2 := R2.cell 0
        refine ⟨by simp, .inl ⟨_, _, rfl, run_takeDeferred HK.out, ?_⟩⟩
        refine ⟨.tuple #[.int .i64 0, .int .i64 15], ?_, 0, 15, rfl, ANS.out, FIN.out U2 TT.out⟩
        simp [results, Tryd.results16, go_sem, g1, g2]
      case stop =>
        rintro c0 i U hi ⟨rfl, hT, p, rfl, hyes, hno, b1', b2'⟩ hK
        have HK := hide hK
        have TT := hide hT
        have ANS := hide (show wrongAns W (a : Int) (b : Int) (p : Int) 0 from ⟨false, 0, RF.out, .inr (.inr ⟨rfl, rfl, .inl ⟨p, by rw [HL.out]; omega, rfl, rfl, hyes, hno⟩⟩)⟩)
        have R1 := b1'.putD HK.out (.deferred none)
        have R2 := b2'.putD HK.out (.deferred none)
        have g1 := R1.cell 0
        have g2 := R2.cell 0
        clear hT hyes hno b1' b2' R1 R2 hK
        go_wp2_with fail
        refine ⟨by simp, .inl ⟨_, _, rfl, run_takeDeferred HK.out, ?_⟩⟩
        refine ⟨.tuple #[.int .i64 (p : Int), .int .i64 0], ?_, p, 0, rfl, ANS.out, FIN.out U TT.out⟩
        simp [results, Tryd.results16, go_sem, g1, g2]
    · have ANS := hide (show wrongAns W (a : Int) (b : Int) (-1) 0 from ⟨true, 0, .inr ⟨HF.out, .inr ⟨rfl, HNE.out, (fun _ => ((full_fits FULL.out HBY.out HPR.out).trans (alike_all FULL.out).symm).1 q), fun _ => rfl⟩⟩, .inr (.inl ⟨rfl, rfl, rfl, rfl⟩)⟩)
      have c1 := B71.out.cell 0
      have c2 := B72.out.cell 0
      have f1 := B71.out.frozen 0
      have f2 := B72.out.frozen 0
      have r1 := hide ((B71.out.stored 0 (.int .i64 (-1))).kept (grown_set _ (z + 1 + 1) 0 (.int .i64 0)) (by simp))
      have r2 := hide ((B72.out.kept (grown_set _ (z + 1) 0 (.int .i64 (-1))) (by simp)).stored 0 (.int .i64 0))
      have kf := hide ((K7.out.setCell (p := ⟨z + 1, 0, none⟩) (by show w.heap.size ≤ z + 1; rw [← HZ.out]; omega) (.int .i64 (-1))).setCell (p := ⟨z + 1 + 1, 0, none⟩) (by show w.heap.size ≤ z + 1 + 1; rw [← HZ.out]; omega) (.int .i64 0))
      clear q
      go_wp2_with fail
      obtain ⟨U, hU⟩ : ∃ U, U = (w7.setCell ⟨z + 1, 0, none⟩ (.int .i64 (-1))).setCell ⟨z + 1 + 1, 0, none⟩ (.int .i64 0) := ⟨_, rfl⟩
      rw [← hU] at r1 r2 kf ⊢
      have g1 := r1.out.cell 0
      have g2 := r2.out.cell 0
      refine ⟨.tuple #[.int .i64 (-1), .int .i64 0], ?_, -1, 0, rfl, ANS.out, kf.out⟩
      simp [results, Tryd.results16, go_sem, g1, g2]
end Go.Proofs.YtpjocddeiehckaaDoor
namespace Go.Proofs.YtpjocddeiehckaaDoor
open Go.RowKit
theorem row_same2 {W V : ML} {n l : Nat} (hW : (W.getD l []).length = n ∧ ∀ x ∈ W.getD l [], x < 256) (hV : (V.getD l []).length = n ∧ ∀ x ∈ V.getD l [], x < 256) (h : ∀ p, p < n → en W l p = en V l p) : W.getD l [] = V.getD l [] := by
  apply List.ext_getElem (by rw [hW.1, hV.1])
  intro p h1 h2
  have hp : p < n := by rw [← hW.1]; exact h1
  have := congrArg G.n (h p hp)
  rw [show (en W l p).n = (W.getD l []).getD p 0 from G.of_n (getD_lt hW.2 p), show (en V l p).n = (V.getD l []).getD p 0 from G.of_n (getD_lt hV.2 p)] at this
  rw [getD_at h1, getD_at h2] at this
  exact this
/-- k rows are those of a word. -/
theorem k_word {W : ML} {k b N : Nat} {P : List Nat} (h14 : k + b ≤ 14) (hl : P.length = k) (hn : P.Nodup) (hP : ∀ i ∈ P, i < k + b) (hr : ∀ l ∈ P, (W.getD l []).length = N ∧ ∀ x ∈ W.getD l [], x < 256) : ∃ X, ∀ l ∈ P, W.getD l [] = (wordL k b N X).getD l [] := by
  obtain ⟨L, hL⟩ := inv_exists (k := k) (b := b) h14 hl hn hP
  have hV : WeightsOf (codeL k b) k P [] [] := ⟨⟨rfl, (fun r hr => by cases hr), (fun r hr => by cases hr)⟩, L, hL, fun i hi => absurd hi (Nat.not_lt_zero i)⟩
  have h' : ∀ p, ∃ X : Nat → G, ∀ l ∈ P, gs k (fun j => codeRow k l j * X j) = en W l p := fun p => by
    have := (places (W := W) (a := p) hV h14 hl hn hP (fun i hi => by cases hi)).1 (fun i hi => absurd hi (Nat.not_lt_zero i))
    rwa [List.append_nil] at this
  obtain ⟨X, hX⟩ := Classical.skolem.1 h'
  refine ⟨fun j p => X p j, fun l hl => row_same2 (hr l hl) ((wordL_shape _ _ _ _).row (hP l hl)) (fun p hp => ?_)⟩
  have e : en (wordL k b N (fun j p => X p j)) l p = word k (fun j p => X p j) l p := laid_at _ (hP l hl) hp
  rw [e, ← hX p l hl]
  rfl
/-- What is made of k rows of a word by weights: its other rows. -/
theorem made_rows {W V : ML} {k b N : Nat} {P Q : List Nat} {X : Mat} (hV : WeightsOf (codeL k b) k P Q V) (h14 : k + b ≤ 14) (hl : P.length = k) (hn : P.Nodup) (hP : ∀ i ∈ P, i < k + b) (hQ : ∀ i ∈ Q, i < k + b) (hX : ∀ l ∈ P, W.getD l [] = (wordL k b N X).getD l []) :
    laid Q.length N (mm k (en V) (en (pick W P))) = pick (wordL k b N X) Q := by
  have hp : pick W P = pick (wordL k b N X) P := List.map_congr_left (fun l hl => hX l hl)
  have hs := wordL_shape k b N X
  refine (laid_shape _ _ _).ext ⟨pick_len _ _, fun r hr => ?_, fun r hr => ?_⟩ (fun i hi p hp2 => ?_)
  · obtain ⟨t, ht, rfl⟩ := List.mem_map.1 hr
    exact (hs.row (hQ t ht)).1
  · obtain ⟨t, ht, rfl⟩ := List.mem_map.1 hr
    exact (hs.row (hQ t ht)).2
  · rw [laid_at _ hi hp2, hp]
    refine (places (W := wordL k b N X) (a := p) hV h14 hl hn hP hQ).2 ⟨fun j => X j p, fun l hl2 => ?_⟩ i hi
    have hlt : l < k + b := by
      rcases List.mem_append.1 hl2 with q | q
      · exact hP l q
      · exact hQ l q
    have e : en (wordL k b N X) l p = word k X l p := laid_at _ hlt hp2
    rw [e]
    rfl
/-- A list of n slices at g of which those of P read as rows. -/
def Got (U : World) (e : TypeId) (g n : Nat) (R : Nat → List Nat) (P : List Nat) : Prop :=
  ∃ us : List Value, us.length = n ∧ Blk U 0 e g us ∧ (∀ u ∈ us, ∃ A n c, u = .slice A n c) ∧ ∀ l ∈ P, IsB U (us.getD l (.slice none 0 0)) (R l)
theorem Got.cells {U U' : World} {e : TypeId} {g n : Nat} {R : Nat → List Nat} {P : List Nat} (h : Got U e g n R P) (c : Cells U U') : Got U' e g n R P := by
  obtain ⟨us, h1, h2, h3, h4⟩ := h
  exact ⟨us, h1, h2.cells c, h3, fun l hl => (h4 l hl).cells c⟩
theorem Got.keep {U U' : World} {e : TypeId} {g n : Nat} {R : Nat → List Nat} {P : List Nat} (h : Got U e g n R P) (b : Below U.heap.size U U') : Got U' e g n R P := h.cells (Cells.of_below b)
theorem Got.lt {U : World} {e : TypeId} {g n : Nat} {R : Nat → List Nat} {P : List Nat} (h : Got U e g n R P) : g < U.heap.size := h.elim fun _ h => h.2.1.lt
theorem Got.cell {U : World} {e : TypeId} {g n : Nat} {R : Nat → List Nat} {P : List Nat} (h : Got U e g n R P) {t : Nat} (ht : t < n) : ∃ A m c, U.cell? ⟨g, t, none⟩ = some (.slice A m c) := by
  obtain ⟨us, h1, h2, h3, _⟩ := h
  have hl : t < us.length := by omega
  obtain ⟨A, m, c, e⟩ := h3 _ (List.getElem_mem hl)
  exact ⟨A, m, c, by rw [h2.cell, List.getElem?_eq_getElem hl, e]⟩
theorem Got.frozen {U : World} {e : TypeId} {g n : Nat} {R : Nat → List Nat} {P : List Nat} (h : Got U e g n R P) (t : Nat) : U.frozen? ⟨g, t, none⟩ = false := h.elim fun _ h => h.2.1.frozen t
/-- Its cells hold no byte. -/
theorem Got.not8 {U : World} {e : TypeId} {g n : Nat} {R : Nat → List Nat} {P : List Nat} (h : Got U e g n R P) : ∀ o v, U.cell? ⟨g, o, none⟩ = some v → ∀ y, v ≠ .int .u8 y := by
  obtain ⟨us, _, h2, h3, _⟩ := h
  intro o v hv y q
  rw [h2.cell] at hv
  obtain ⟨A, m, c, e⟩ := h3 v (List.mem_of_getElem? hv)
  rw [q] at e
  cases e
theorem Got.turn {S : Nat → Prop} {U U' : World} {e : TypeId} {g n : Nat} {R : Nat → List Nat} {P : List Nat} (h : Got U e g n R P) (t : Turn S U U') (hg : ¬ S g) (hS : ∀ j, S j → ∀ o u, U.cell? ⟨j, o, none⟩ = some u → ∀ y, u ≠ .int .u8 y) : Got U' e g n R P := by
  obtain ⟨us, h1, h2, h3, h4⟩ := h
  exact ⟨us, h1, h2.turn t hg, h3, fun l hl => (h4 l hl).turnU t hS⟩
theorem Got.set {U : World} {e : TypeId} {g n : Nat} {R : Nat → List Nat} {P : List Nat} (h : Got U e g n R P) {t : Nat} (ht : t < n) {A : Option Addr} {m c : Nat} (hv : IsB U (.slice A m c) (R t)) : Got (U.setCell ⟨g, t, none⟩ (.slice A m c)) e g n R (P ++ [t]) := by
  have n8 := h.not8
  obtain ⟨us, h1, h2, h3, h4⟩ := h
  have tt : Turn (fun j => j = g) U (U.setCell ⟨g, t, none⟩ (.slice A m c)) := (Turn.of_grown (grown_set U g t _)).mono (fun i e => by simpa using e)
  have nS : ∀ j, j = g → ∀ o u, U.cell? ⟨j, o, none⟩ = some u → ∀ y, u ≠ .int .u8 y := fun j e => by subst e; exact n8
  refine ⟨us.set t (.slice A m c), by rw [List.length_set, h1], h2.stored t _, fun u hu => ?_, fun l hl => ?_⟩
  · rcases List.mem_or_eq_of_mem_set hu with q | q
    · exact h3 u q
    · exact ⟨A, m, c, q⟩
  · by_cases q : l = t
    · subst q
      have e2 : (us.set l (.slice A m c)).getD l (.slice none 0 0) = .slice A m c := by
        have : l < us.length := by omega
        simp [this]
      rw [e2]
      exact hv.turnU tt nS
    · have e2 : (us.set t (.slice A m c)).getD l (.slice none 0 0) = us.getD l (.slice none 0 0) := by
        simp only [List.getD_eq_getElem?_getD]
        rw [List.getElem?_set_ne (fun e => q e.symm)]
      rw [e2]
      rcases List.mem_append.1 hl with q2 | q2
      · exact (h4 l q2).turnU tt nS
      · exact absurd (List.mem_singleton.1 q2) q
/-- All of them. -/
theorem Got.isM {U : World} {e : TypeId} {g : Nat} {L : ML} {P : List Nat} (h : Got U e g L.length (fun l => L.getD l []) P) (hP : ∀ l, l < L.length → l ∈ P) : IsM U (some ⟨g, 0, none⟩) L := by
  obtain ⟨us, h1, h2, _, h4⟩ := h
  exact blk_isM h2 h1 (fun i hi => h4 i (hP i (by omega)))
/-- Rows that stand at the block g. -/
theorem IsM.turnG {S : Nat → Prop} {w w' : World} {g : Nat} {xss : ML} (h : IsM w (some ⟨g, 0, none⟩) xss) (t : Turn S w w') (hg : ¬ S g) (hS : ∀ j, S j → ∀ o u, w.cell? ⟨j, o, none⟩ = some u → ∀ y, u ≠ .int .u8 y) : IsM w' (some ⟨g, 0, none⟩) xss := by
  obtain ⟨vs, r, l, hr⟩ := h
  refine ⟨vs, fun hne => ?_, l, fun i hi => (hr i hi).turnU t hS⟩
  obtain ⟨b, off, e1, hc⟩ := r hne
  refine ⟨b, off, e1, fun i hi => t.cell (hc i hi) (fun q => ?_)⟩
  cases e1
  exact hg q
theorem OwnMt.at_block {w : World} {B g n c : Nat} {xss : ML} (h : OwnMt w B (.slice (some ⟨g, 0, none⟩) n c) xss) : B ≤ g ∧ ∃ cur fr, w.heap[g]? = some (.cells cur 34 fr) := by
  obtain ⟨vs, h1, _⟩ := h
  rcases h1.2 with ⟨q, _⟩ | ⟨g', cap, cur, q, h3, h4, _⟩
  · cases q
  · cases q
    exact ⟨h3, cur, _, h4⟩
end Go.Proofs.YtpjocddeiehckaaDoor
namespace Go.Proofs.YtpjocddeiehckaaDoor
open Go.RowKit
attribute [local go_sem] Oper.semAt_some
/-- A region in a round whose last operation turns what others load, and that does not panic. -/
theorem ways_only {P : Program} {F : Fence} {n : Nat} (hF : IsW F) {ops : Array Oper} {Q : Exit → Act → World → Prop} {id : Nat} {a : Act} {w : World} (S : World → Prop) (L k : Nat) (l : Array Bool) (hn : ops.size = k) (hl : Array.replicate k false = l) (hm : P.follows .mixedOrders = true)
    (hd : ops.all (fun o : Oper => match o.op with | .defer _ => false | _ => true) = true) (h : Ways P .any ops (onlyN Q) S L k l a w.drew) : (Code.region id ops true).wpIn F n P Q a w :=
  wpIn_mono (ways_in hF S L k l hn hl hm hd onlyN_out h) (fun _ _ _ h => onlyN_of h)
/-- A region that draws its order and whose loads may all be taken first. -/
theorem held_top {P : Program} {ops : Array Oper} {Q : Exit → Act → World → Prop} {id : Nat} {a : Act} {w : World} (S : World → Prop) (k : Nat) (l : Array Bool) (hn : ops.size = k) (hl : Array.replicate k false = l) (hm : P.follows .mixedOrders = true)
    (h : wpAnyH P .any ops Q S k l a w.drew) : (Code.region id ops true).wp P Q a w := by
  subst hn
  subst hl
  exact wp_region_held hm h
/-- Two may come up. -/
theorem held_two {P : Program} {ops : Array Oper} {md : Region.Mode} {Q : Exit → Act → World → Prop} {S : World → Prop} {i j : Nat} {o p : Oper} {fuel : Nat} {listed : Array Bool} {a : Act} {w : World} (hr : Region.ready md ops listed = [i, j]) (ho : ops[i]? = some o) (hp : ops[j]? = some p)
    (h : ∀ K : Act → World → Prop, Hid (∀ b u, S u → wpAnyH P md ops Q S fuel (listed.setIfInBounds i true) b u → K b u) → if Region.wanted o (yielded ops a.tmps) = true then Oper.wp P o a w K Q else K (a.put o.dst undef) w)
    (h2 : ∀ K : Act → World → Prop, Hid (∀ b u, S u → wpAnyH P md ops Q S fuel (listed.setIfInBounds j true) b u → K b u) → if Region.wanted p (yielded ops a.tmps) = true then Oper.wp P p a w K Q else K (a.put p.dst undef) w) :
    wpAnyH P md ops Q S (fuel + 1) listed a w := by
  refine wpAnyH_all hr (by simp) (fun q hq => ?_)
  rcases List.mem_cons.1 hq with rfl | hq
  · exact wpOp_step ho (fun K hK => h K (hide fun b u hS hW => hK b u ⟨hS, hW⟩))
  · rw [List.mem_singleton] at hq
    subst hq
    exact wpOp_step hp (fun K hK => h2 K (hide fun b u hS hW => hK b u ⟨hS, hW⟩))
set_option maxRecDepth 100000 in
set_option maxHeartbeats 6400000 in
theorem mendC : MendC := by
  intro A n c k m W w hS hk hm hT
  have HS := hide hS
  have HT := hide hT
  have HI := hide (And.intro hk hm)
  clear hS hk hm hT
  refine calls_marks Tryd.func9 rfl ?_
  simp only [Tryd.ntmps9, List.size_toArray, List.length_cons, List.length_nil, Nat.reduceAdd, Nat.reduceSub, Array.replicate_succ, Array.replicate_zero, List.push_toArray, List.append_toArray, List.nil_append, List.cons_append]
  go_wp2_with fail
  have kb := below_alloc w (.cells #[.slice A n c] 22)
  have b0 := Blk.new w (B := 0) 22 #[.slice A n c] (Nat.zero_le _)
  obtain ⟨W3, hW3⟩ : ∃ W3, W3 = w.alloc (.cells #[.slice A n c] 22) := ⟨_, rfl⟩
  have hs3 : W3.heap.size = w.heap.size + 1 := by rw [hW3]; simp
  rw [← hW3] at kb b0 ⊢
  obtain ⟨z, hz⟩ : ∃ z, z = w.heap.size := ⟨_, rfl⟩
  rw [← hz] at b0 hs3 ⊢
  have HZ := hide hz
  have K3 := hide kb
  have B0 := hide b0
  have HS3 := hide hs3
  have HO := hide (opened_any A n c k m W W3 (HS.out.below kb) HI.out.1 HI.out.2)
  clear hW3 hz kb b0 hs3
  refine HO.out.mono ?_
  rintro e w1 ⟨k1, (⟨nf, rfl⟩ | ⟨hf, cb, mb, x, rfl, hcb, hmb, hx, hd, hcd⟩)⟩
  · have NF := hide nf
    have K1 := hide (K3.out.trans (k1.mono K3.out.size))
    clear HO nf k1
    go_wp2_with fail
    refine ⟨.tuple #[.slice none 0 0, .int .i64 1], ?_, .slice none 0 0, [], 1, rfl, ⟨none, 0, 0, rfl, rfl, ⟨[], fun h => absurd rfl h, rfl, fun i hi => absurd hi (Nat.not_lt_zero i)⟩, fun _ => rfl, by decide⟩, .inl ⟨rfl, rfl, NF.out⟩, K1.out⟩
    simp [results, Tryd.results9, go_sem]
  · obtain ⟨a, b, rfl, rfl, h1, h14, hl⟩ := fits_nat hf
    rw [Int.toNat_natCast, Int.toNat_natCast] at hcd
    have hn : n = a + b := by rw [← HS.out.2.1, hl]
    subst hn
    have HX := hide (count_any x w1 hx)
    rw [hd] at HX
    have B1 := hide (B0.out.keep k1)
    have K1 := hide (K3.out.trans (k1.mono K3.out.size))
    have C1 := hide hcd
    have HF := hide hf
    have HD := hide hd
    have HL := hide hl
    have CB := hide hcb
    have MB := hide hmb
    obtain ⟨p, hp⟩ : ∃ p, p = (present W).length := ⟨_, rfl⟩
    rw [← hp] at HX
    have HP := hide hp
    clear HO hf hd hl k1 hcd hcb hmb hp
    by_cases hlt : p < a
    · have hli : (p : Int) < (a : Int) := by omega
      go_wp2_with fail
      refine HX.out.mono ?_
      rintro e w2 ⟨rfl, rfl⟩
      go_wp2_with fail
      refine ⟨.tuple #[.slice none 0 0, .int .i64 15], ?_, .slice none 0 0, [], 15, rfl, ⟨none, 0, 0, rfl, rfl, ⟨[], fun h => absurd rfl h, rfl, fun i hi => absurd hi (Nat.not_lt_zero i)⟩, fun _ => rfl, by decide⟩, .inr ⟨HF.out, .inl ⟨rfl, rfl, ?_⟩⟩, K1.out⟩
      · simp [results, Tryd.results9, go_sem]
      · rw [← HP.out]; exact hli
    · have hli : ¬ (p : Int) < (a : Int) := by omega
      have HFI := hide (first8_any x a w1 hx (by rw [HD.out, ← HP.out]; omega))
      have HAL := hide (allRows_any (a + b) w1 h14)
      have eab : ((a + b : Nat) : Int) = (a : Int) + (b : Int) := by simp
      rw [eab] at HAL
      go_wp2_with fail
      refine HX.out.mono ?_
      rintro e w2 ⟨rfl, rfl⟩
      go_wp2_with fail
      refine HFI.out.mono ?_
      rintro e w2 ⟨x1, rfl, hx1, hd1, rfl⟩
      go_wp2_with fail
      refine HAL.out.mono ?_
      rintro e w2 ⟨xa, rfl, hxa, hda, rfl⟩
      have an := andNot_set hxa hx1
      have hd2 : digs (xa &&& (18446744073709551615 - x1)) = (List.range (a + b)).filter (fun i => decide (i ∉ digs x1)) := by
        rw [digs_less xa hx1, hda]
      have hx2 : xa &&& (18446744073709551615 - x1) < 16384 := and_lt hxa
      obtain ⟨x2, hx2e⟩ : ∃ x2, x2 = xa &&& (18446744073709551615 - x1) := ⟨_, rfl⟩
      rw [← hx2e] at an hd2 hx2
      have HD1 := hide hd1
      have HD2 := hide hd2
      clear hd1 hd2 hx2e HX HFI HAL hda
      obtain ⟨N, hNr⟩ := HF.out.2.2
      have hle : a ≤ (present W).length := by rw [← HP.out]; omega
      have hPl : (digs x1).length = a := by rw [HD1.out, HD.out, List.length_take]; omega
      have hPm : ∀ l ∈ digs x1, l ∈ present W := fun l hl => by
        rw [HD1.out, HD.out] at hl
        exact List.mem_of_mem_take hl
      have hPb : ∀ l ∈ digs x1, l < a + b := fun l hl => by rw [← HL.out]; exact (present_mem.1 (hPm l hl)).1
      have hrw : ∀ l ∈ digs x1, (W.getD l []).length = N ∧ ∀ x ∈ W.getD l [], x < 256 := fun l hl => by
        have h := present_mem.1 (hPm l hl)
        have hm := mem_getD (xss := W) (k := l) h.1
        exact ⟨hNr _ hm h.2, HS.out.2.2.2.1 _ hm⟩
      have hN2 : N ≤ 1500 := by
        have h0 : (digs x1).getD 0 0 ∈ digs x1 := getD_mem0 (by omega)
        rw [← (hrw _ h0).1]
        exact HS.out.2.2.2.2 _ (mem_getD (by rw [HL.out]; exact hPb _ h0))
      have hNod : (digs x1).Nodup := digs_nodup x1
      obtain ⟨X, hX⟩ := k_word h14 hPl hNod hPb hrw
      obtain ⟨L, hLw⟩ : ∃ L, L = wordL a b N X := ⟨_, rfl⟩
      rw [← hLw] at hX
      have hLl : L.length = a + b := by rw [hLw, wordL_len]
      have ANS := hide (show mendAns W (a : Int) (b : Int) L 0 from .inr ⟨HF.out, .inr ⟨rfl, by omega, N, hNr, by
        rw [Int.toNat_natCast, Int.toNat_natCast]
        refine ⟨X, hLw, fun l hl => ?_⟩
        unfold firstP at hl
        rw [← HD.out, ← HD1.out] at hl
        exact (hX l hl).symm⟩⟩)
      have HPl := hide hPl
      have HPb := hide hPb
      have HRW := hide hrw
      have HX := hide hX
      have HLW := hide hLw
      have HLl := hide hLl
      clear hNr hle hPl hPm hPb hrw hNod hX hLw hLl HP
      obtain ⟨i0, hi, hz0, hz1, hz2⟩ := info_parts Tryd.info_rows
      go_wp2_with (at_make; refine halt ?_)
      refine ⟨?_⟩
      rw [← eab]
      obtain ⟨n, hn⟩ : ∃ n, n = a + b := ⟨_, rfl⟩
      rw [← hn] at HS B0 HL HPb HLl B1 ⊢
      have HNN := hide hn
      have hn14 : n ≤ 14 := by omega
      clear eab hn
      refine wpList_make_full _ rfl (.tmp 43) (.tmp 43) 22 rfl w.heap.size 34 i0 (.slice none 0 0) 1 Tryd.underlying22 hi hz0 hz1 .i64 .i64 n n n rfl rfl rfl rfl (by rw [hz2]; omega) (by unfold maxLen; omega) K1.out.size ?_
      intro w2 h2' g2
      have o2 := made_nils h2'
      have k2 : Below w1.heap.size w1 w2 := (Below.refl _ _).grown g2 (Nat.le_refl _) (by simp)
      obtain ⟨g, hg⟩ : ∃ g, g = w1.heap.size := ⟨_, rfl⟩
      rw [← hg] at o2 ⊢
      have O2 := hide (show Got w2 34 g n (fun l => L.getD l []) [] from ⟨_, List.length_replicate, o2.more (Nat.zero_le _), (fun u hu => ⟨none, 0, 0, List.eq_of_mem_replicate hu⟩), fun l hl => by cases hl⟩)
      have NO2 := hide (show ∀ o v, w2.cell? ⟨g, o, none⟩ = some v → (∀ A c, v ≠ .slice A a c) ∧ ∀ y, v ≠ .int .u8 y from fun o v hv => by
        rw [o2.cell] at hv
        have := List.eq_of_mem_replicate (List.mem_of_getElem? hv)
        subst this
        exact ⟨(fun _ _ h => by simp only [Value.slice.injEq] at h; have := h.2.1; omega), (fun _ h => by cases h)⟩)
      have hzw : z < w1.heap.size := by have := B1.out.lt; exact this
      have K2 := hide (K1.out.trans (k2.mono K1.out.size))
      have B2 := hide (B1.out.keep k2)
      have C2 := hide (C1.out.keep k2)
      have hg2 : g < w2.heap.size := o2.lt
      have HGM := hide (show z < g ∧ cb < g ∧ mb < g from by rw [hg]; exact ⟨hzw, C1.out.lt⟩)
      clear h2' g2 hi hz0 hz1 hz2 i0 o2 k2 hg hzw
      have b4 := below_alloc w2 (.cells #[.slice (some ⟨g, 0, none⟩) n n] 22)
      have n4 := Blk.new w2 (B := 0) 22 #[.slice (some ⟨g, 0, none⟩) n n] (Nat.zero_le _)
      have hs4 : (w2.alloc (.cells #[.slice (some ⟨g, 0, none⟩) n n] 22)).heap.size = w2.heap.size + 1 := by simp
      obtain ⟨W4, hW4⟩ : ∃ W4, W4 = w2.alloc (.cells #[.slice (some ⟨g, 0, none⟩) n n] 22) := ⟨_, rfl⟩
      obtain ⟨y, hy⟩ : ∃ y, y = w2.heap.size := ⟨_, rfl⟩
      rw [← hW4] at b4 n4 hs4
      rw [← hy] at n4 hs4
      have K4 := hide (K2.out.trans (b4.mono K2.out.size))
      have BZ := hide (B2.out.keep b4)
      have C4 := hide (C2.out.keep b4)
      have NO4 := hide (show ∀ o v, W4.cell? ⟨g, o, none⟩ = some v → (∀ A c, v ≠ .slice A a c) ∧ ∀ y, v ≠ .int .u8 y from fun o v hv => NO2.out o v (by rw [← hv]; exact (World.cell?_of_block (b4.block g hg2)).symm))
      have G4 := hide (O2.out.keep b4)
      have BY := hide n4
      have hgy : g < y := by rw [hy]; exact hg2
      clear b4 n4 B2 C2 O2 K2 hg2
      have htab : 1 < z := by rw [HZ.out]; exact HT.out.1
      have hgm := HGM.out
      go_wp2_with fail
      rw [← hW4, ← hy]
      clear hW4 hy
      refine wp_range (gf := 22) (pb := #[.int .u64 (x1 : Int)]) (lb := #[]) rfl (enters_of Tryd.func22 (by kernel_rfl) rfl)
        (R := eachR x1) (St := fun A B => B = A) (S := fun j => j = g) (N := (digs x1).length) ?seq ?sd ?sl ?st ?ps ?r
        (fun i U => Turn (fun j => j = g) W4 U ∧ Got U 34 g n (fun l => L.getD l []) ((digs x1).take i))
        (fun _ _ _ => False) ?ci ?ix ?il ?ixl ?i0 ?round ?done ?stop
      case seq =>
        intro r
        have b61 : Below W4.heap.size W4 ((W4.alloc (.deferred (some []))).alloc (.loop r)) := (below_alloc _ _).trans ((below_alloc _ _).mono (by simp))
        refine each_seq x1 _ _ hx1 ((HT.out.below K4.out).below b61) ?_
        rintro (e | e) <;> omega
      case sd => intro e; omega
      case sl => intro e; omega
      case st => rintro A B k o rfl _ h; exact h
      case ps => rintro i vs A rfl; rfl
      case r => rintro i vs A r r' h hl; exact h
      case ci => rintro i A B h rfl; exact h
      case ix => exact fun _ _ _ _ h _ => h
      case il =>
        rintro i U r r' ⟨hT, hG⟩ hl
        exact ⟨hT.putL (by omega) _, hG.cells (Cells.put hl _)⟩
      case ixl => exact fun _ _ _ _ _ h _ => h
      case i0 =>
        intro r
        have b61 : Below W4.heap.size W4 ((W4.alloc (.deferred (some []))).alloc (.loop r)) := (below_alloc _ _).trans ((below_alloc _ _).mono (by simp))
        exact ⟨Turn.of_below _ b61, G4.out.keep b61⟩
      case stop => exact fun _ _ _ _ h _ => h.elim
      case round =>
        rintro l i vs U0 U hi ⟨hT, hG⟩ rfl hlow
        obtain ⟨t, ht⟩ : ∃ t, t = (digs x1).getD i 0 := ⟨_, rfl⟩
        rw [← ht]
        have htm : t ∈ digs x1 := by rw [ht]; exact getD_mem0 hi
        have htn : t < n := HPb.out t htm
        obtain ⟨bA, oA, A', c', rfl, ck0, ib, l1, m1⟩ := HS.out.1.at_ t (by rw [HL.out]; exact htn)
        have hl1 := (HRW.out t htm).1
        rw [hl1] at ck0 ib l1
        have KU := hide (K4.out.trans (hT.below (B := w.heap.size) K4.out.size (fun j e => by rw [← HZ.out]; omega)))
        have ck := (KU.out.cell (cell_lt ck0)).trans ck0
        have c13 : U.cell? ⟨y, 0, none⟩ = some (.slice (some ⟨g, 0, none⟩) n n) := (BY.out.turn hT (by omega)).cell 0
        have cz : U.cell? ⟨z, 0, none⟩ = some (.slice (some ⟨bA, oA, none⟩) n c) := (BZ.out.turn hT (by omega)).cell 0
        have HCL := hide (cloneS_any A' N c' (W.getD t []) U.drew ((ib.keep KU.out).drewN 1) hl1 (by omega))
        have HTU := hide hT
        have HG := hide hG
        have HTT := hide ht
        have HTM := hide htm
        have hti : (t : Int) < (n : Int) := by omega
        have hHeld : U.drew.cell? ⟨y, 0, none⟩ = some (.slice (some ⟨g, 0, none⟩) n n) ∧ U.drew.cell? ⟨z, 0, none⟩ = some (.slice (some ⟨bA, oA, none⟩) n c) ∧ U.drew.cell? ⟨bA, oA + t, none⟩ = some (.slice A' N c') := ⟨c13, cz, ck⟩
        clear hT hG ht ck0 ib hl1 htm
        gi_wp2
        refine ⟨trivial, ?_⟩
        gi_wp2
        refine held_only (isW_round l) (fun W' => W'.cell? ⟨y, 0, none⟩ = some (.slice (some ⟨g, 0, none⟩) n n) ∧ W'.cell? ⟨z, 0, none⟩ = some (.slice (some ⟨bA, oA, none⟩) n c) ∧ W'.cell? ⟨bA, oA + t, none⟩ = some (.slice A' N c')) 9 #[false, false, false, false, false, false, false, false, false] (by kernel_rfl) (by kernel_rfl) (by kernel_rfl) (by kernel_rfl) ?_
        refine' wpAnyH_take (i := 0) (oi := ⟨_, _, _, _, _, _⟩) (v := _) rfl (by kernel_rfl) (by kernel_rfl) (by kernel_rfl) (fun _ _ _ h => h) (Or.inl ⟨rfl, ?_⟩) hHeld ?_
        rotate_left
        · (intro W hW; (try dsimp only at hW); go_simp; (try with_reducible rfl))
        try simp only [Act.put, List.setIfInBounds_toArray, List.set_cons_zero, List.set_cons_succ]
        refine' wpAnyH_take (i := 1) (oi := ⟨_, _, _, _, _, _⟩) (v := _) rfl (by kernel_rfl) (by kernel_rfl) (by kernel_rfl) (fun _ _ _ h => h) (Or.inl ⟨rfl, ?_⟩) hHeld ?_
        rotate_left
        · (intro W hW; (try dsimp only at hW); go_simp; (try with_reducible rfl))
        try simp only [Act.put, List.setIfInBounds_toArray, List.set_cons_zero, List.set_cons_succ]
        refine' wpAnyH_take (i := 2) (oi := ⟨_, _, _, _, _, _⟩) (v := _) rfl (by kernel_rfl) (by kernel_rfl) (by kernel_rfl) (fun _ _ _ h => h) (Or.inl ⟨rfl, ?_⟩) hHeld ?_
        rotate_left
        · (intro W hW; (try dsimp only at hW); go_simp; (try with_reducible rfl))
        try simp only [Act.put, List.setIfInBounds_toArray, List.set_cons_zero, List.set_cons_succ]
        refine' wpAnyH_take (i := 3) (oi := ⟨_, _, _, _, _, _⟩) (v := _) rfl (by kernel_rfl) (by kernel_rfl) (by kernel_rfl) (fun _ _ _ h => h) (Or.inl ⟨rfl, ?_⟩) hHeld ?_
        rotate_left
        · (intro W hW; (try dsimp only at hW); go_simp; (try with_reducible rfl))
        try simp only [Act.put, List.setIfInBounds_toArray, List.set_cons_zero, List.set_cons_succ]
        refine' wpAnyH_take (i := 4) (oi := ⟨_, _, _, _, _, _⟩) (v := _) rfl (by kernel_rfl) (by kernel_rfl) (by kernel_rfl) (fun _ _ _ h => h) (Or.inl ⟨rfl, ?_⟩) hHeld ?_
        rotate_left
        · (intro W hW; (try dsimp only at hW); go_simp; (try with_reducible rfl))
        try simp only [Act.put, List.setIfInBounds_toArray, List.set_cons_zero, List.set_cons_succ]
        refine' wpAnyH_take (i := 5) (oi := ⟨_, _, _, _, _, _⟩) (v := _) rfl (by kernel_rfl) (by kernel_rfl) (by kernel_rfl) (fun _ _ _ h => h) (Or.inl ⟨rfl, ?_⟩) hHeld ?_
        rotate_left
        · (intro W hW; (try dsimp only at hW); go_simp; (try with_reducible rfl))
        try simp only [Act.put, List.setIfInBounds_toArray, List.set_cons_zero, List.set_cons_succ]
        refine held_one (i := 6) (by kernel_rfl) rfl (fun K hK => ?_)
        go_simp
        go_at_call 23
        refine HCL.out.mono ?_
        rintro e U5 ⟨s5, rfl, o5, k5⟩
        obtain ⟨As, cs, rfl, i5, -, -⟩ := o5.isB.form (HRW.out t HTM.out).1
        have K5 : Below U.heap.size U U5 := ⟨k5.os, k5.tape, k5.output, k5.size, k5.block⟩
        have G5 := HG.out.keep K5
        have hbA : bA < z := by
          obtain ⟨b', o', _, _, e, ck', -, -, -⟩ := HS.out.1.at_ t (by rw [HL.out]; exact htn)
          cases e
          rw [HZ.out]
          exact cell_lt ck'
        have hHeld2 : U5.cell? ⟨y, 0, none⟩ = some (.slice (some ⟨g, 0, none⟩) n n) ∧ U5.cell? ⟨z, 0, none⟩ = some (.slice (some ⟨bA, oA, none⟩) n c) ∧ U5.cell? ⟨bA, oA + t, none⟩ = some (.slice A' N c') := ⟨(K5.cell (cell_lt c13)).trans c13, (K5.cell (cell_lt cz)).trans cz, (K5.cell (cell_lt ck)).trans ck⟩
        obtain ⟨_, _, _, cg⟩ := G5.cell htn
        have fg := G5.frozen t
        rw [HX.out t HTM.out] at i5
        have GN := hide (show Got (U5.setCell ⟨g, t, none⟩ (.slice As N cs)) 34 g n (fun l => L.getD l []) ((digs x1).take (i + 1)) from by
          have := G5.set (R := fun l => L.getD l []) htn i5
          rw [HTT.out] at this ⊢
          rw [List.take_succ_eq_append_getElem hi]
          rw [show (digs x1)[i] = (digs x1).getD i 0 by simp [hi]]
          exact this)
        have tg : Turn (fun j => j = g) U5 (U5.setCell ⟨g, t, none⟩ (.slice As N cs)) := (Turn.of_grown (grown_set U5 g t _)).mono (fun i e => by simpa using e)
        have TN := hide (show Turn (fun j => j = g) U (U5.setCell ⟨g, t, none⟩ (.slice As N cs)) from (Turn.of_below _ K5).trans tg)
        have hHeld3 : (U5.setCell ⟨g, t, none⟩ (.slice As N cs)).cell? ⟨y, 0, none⟩ = some (.slice (some ⟨g, 0, none⟩) n n) ∧ (U5.setCell ⟨g, t, none⟩ (.slice As N cs)).cell? ⟨z, 0, none⟩ = some (.slice (some ⟨bA, oA, none⟩) n c) ∧ (U5.setCell ⟨g, t, none⟩ (.slice As N cs)).cell? ⟨bA, oA + t, none⟩ = some (.slice A' N c') := ⟨tg.cell hHeld2.1 (by show ¬ y = g; omega), tg.cell hHeld2.2.1 (by show ¬ z = g; omega), tg.cell hHeld2.2.2 (by show ¬ bA = g; omega)⟩
        refine hK.out _ _ hHeld2 ?_
        clear hK tg i5 o5 k5 G5
        try simp only [List.setIfInBounds_toArray, List.set_cons_zero, List.set_cons_succ]
        refine' wpAnyH_take (i := 7) (oi := ⟨_, _, _, _, _, _⟩) (v := _) rfl (by kernel_rfl) (by kernel_rfl) (by kernel_rfl) (fun _ _ _ h => h) (Or.inl ⟨rfl, ?_⟩) hHeld2 ?_
        rotate_left
        · (intro W hW; (try dsimp only at hW); go_simp; (try with_reducible rfl))
        try simp only [Act.put, List.setIfInBounds_toArray, List.set_cons_zero, List.set_cons_succ]
        refine held_one (i := 8) (by kernel_rfl) rfl (fun K hK => ?_)
        go_simp
        refine hK.out _ _ hHeld3 ?_
        clear hK
        try simp only [List.setIfInBounds_toArray, List.set_cons_zero, List.set_cons_succ]
        refine wpAnyH_done (by kernel_rfl) ?_ _
        refine only_n ?_
        clear hHeld hHeld2 hHeld3
        gi_wp2
        exact ⟨TN.out, HTU.out.trans TN.out, GN.out⟩
      case done =>
        rintro U ⟨hT, hG⟩ hK
        have CU := hide (C4.out.turnK hT (by omega) (by omega) (fun j e => by rw [e]; exact NO4.out))
        have KU := hide (K4.out.trans (hT.below (B := w.heap.size) K4.out.size (fun j e => by rw [← HZ.out]; omega)))
        have GU := hide hG
        have YU := hide (BY.out.turn hT (by omega))
        have ZU := hide (BZ.out.turn hT (by omega))
        have D1 := hide hK
        have hUW : W4.heap.size + 1 ≤ U.heap.size := by have := heap_lt hK; omega
        rw [List.take_of_length_le (Nat.le_refl _)] at GU
        have HQb := hide (show ∀ l ∈ digs x2, l < a + b from fun l hl => by
          rw [HD2.out] at hl
          exact List.mem_range.1 (List.mem_filter.1 hl).1)
        have hm14 := digs_len x2
        obtain ⟨m, hm⟩ : ∃ m, m = (digs x2).length := ⟨_, rfl⟩
        have HM := hide hm
        have cz : U.cell? ⟨z, 0, none⟩ = some (.slice A n c) := ZU.out.cell 0
        have hzU : z < U.heap.size := by omega
        have hmbU : mb < U.heap.size := by omega
        have hzmb : z < mb := by have := MB.out; have := HS3.out; omega
        -- what each of the three calls does, from any world that has only grown
        have HWT := hide (fun (u : World) (hu : Below U.heap.size U u) => weights_any cb mb a b x1 x2 u (CU.out.keep hu) ((HT.out.below KU.out).below hu) hx1 hx2 h1 h14 HPl.out (fun i hi => by rw [← HNN.out]; exact HPb.out i hi) HQb.out)
        have HOF := hide (fun (u : World) (hu : Below w.heap.size w u) => of_any x1 n c A W u hx1 (HT.out.below hu) (HS.out.1.below hu) HL.out HPb.out)
        rw [← hm] at HWT
        have sP : Shape (pick W (digs x1)) a N := ⟨by rw [pick_len, HPl.out], fun r hr => by
          obtain ⟨t, ht, rfl⟩ := List.mem_map.1 hr
          exact (HRW.out t ht).1, fun r hr => by
          obtain ⟨t, ht, rfl⟩ := List.mem_map.1 hr
          exact (HRW.out t ht).2⟩
        have HMD := hide (fun (AV : Option Addr) (cV : Nat) (AP : Option Addr) (cP : Nat) (V : ML) (u : World) (iV : IsM u AV V) (wV : WeightsOf (codeL a b) a (digs x1) (digs x2) V) (iP : IsM u AP (pick W (digs x1))) => made_any AV AP m cV a cP N V (pick W (digs x1)) u iV (by rw [hm]; exact wV.1) iP sP (by omega) h1 (by omega) (by omega))
        have HPK := hide (fun (V : ML) (wV : WeightsOf (codeL a b) a (digs x1) (digs x2) V) => show laid m N (mm a (en V) (en (pick W (digs x1)))) = pick L (digs x2) by
          rw [hm, HLW.out]
          exact made_rows wV h14 HPl.out (digs_nodup x1) (fun i hi => by rw [← HNN.out]; exact HPb.out i hi) HQb.out (fun l hl => by rw [HX.out l hl, HLW.out]))
        rw [HPl.out] at HOF
        clear hT hG hK hm sP
        go_wp2_with fail
        refine wp_mono (Q := fun e a' u => e = .normal ∧ ∃ (e15 gF : Nat) (AV : Option Addr) (cV : Nat) (AP : Option Addr) (cP : Nat), a' = { tmps := List.toArray ((Value.slice A n c) :: (Value.int IntKind.i64 ↑a) :: (Value.int IntKind.i64 ↑b) :: (Value.pointer (some ⟨z, 0, none⟩)) :: (undef) :: (undef) :: (Value.slice none 0 0) :: (Value.int IntKind.i64 0) :: (Value.pointer (some ⟨cb, 0, none⟩)) :: (Value.int IntKind.u64 ↑x) :: (Value.int IntKind.i64 0) :: (Value.int IntKind.u64 ↑x1) :: (Value.int IntKind.u64 ↑x2) :: (Value.pointer (some ⟨y, 0, none⟩)) :: (undef) :: (Value.pointer (some ⟨e15, 0, none⟩)) :: (undef) :: (Value.tuple #[Value.pointer (some ⟨cb, 0, none⟩), Value.int IntKind.u64 ↑x, Value.int IntKind.i64 0]) :: (Value.slice A n c) :: (Value.int IntKind.i64 ↑a) :: (Value.int IntKind.i64 ↑b) :: (Value.tuple #[Value.pointer (some ⟨cb, 0, none⟩), Value.int IntKind.u64 ↑x, Value.int IntKind.i64 0]) :: (Value.pointer (some ⟨cb, 0, none⟩)) :: (Value.int IntKind.u64 ↑x) :: (Value.int IntKind.i64 0) :: (Value.int IntKind.i64 0) :: (Value.bool false) :: (undef) :: (Value.int IntKind.u64 ↑x) :: (Value.int IntKind.i64 ↑p) :: (Value.int IntKind.i64 ↑a) :: (Value.bool false) :: (Value.int IntKind.u64 ↑x) :: (Value.int IntKind.i64 ↑a) :: (Value.int IntKind.u64 ↑x1) :: (Value.int IntKind.i64 ↑a) :: (Value.int IntKind.i64 ↑b) :: (Value.int IntKind.i64 ↑n) :: (Value.int IntKind.u64 ↑xa) :: (Value.int IntKind.u64 ↑x1) :: (Value.int IntKind.u64 ↑x2) :: (Value.int IntKind.i64 ↑a) :: (Value.int IntKind.i64 ↑b) :: (Value.int IntKind.i64 ↑n) :: (Value.slice (some ⟨g, 0, none⟩) n n) :: (Value.int IntKind.u64 ↑x1) :: (Value.func (Fn.func 22) #[Value.int IntKind.u64 ↑x1] #[]) :: (undef) :: (undef) :: (undef) :: (undef) :: (undef) :: (undef) :: (undef) :: (undef) :: (undef) :: (Value.pointer (some ⟨cb, 0, none⟩)) :: (Value.int IntKind.u64 ↑x1) :: (Value.int IntKind.u64 ↑x2) :: (Value.slice AV m cV) :: (Value.int IntKind.u64 ↑x1) :: (Value.slice A n c) :: (Value.slice AP a cP) :: (Value.slice (some ⟨gF, 0, none⟩) m m) :: (undef) :: (undef) :: (undef) :: (undef) :: (undef) :: (undef) :: (undef) :: (undef) :: (undef) :: (undef) :: (undef) :: (undef) :: []), defers := [{ target := Target.collected W4.heap.size, args := #[] }] } ∧ Turn (fun j => j = mb) U u ∧ U.heap.size ≤ e15 ∧ U.heap.size ≤ gF ∧ gF ≠ e15 ∧ Blk u 0 22 e15 [.slice (some ⟨gF, 0, none⟩) m m] ∧ IsM u (some ⟨gF, 0, none⟩) (pick L (digs x2))) ?reg ?rest
        case reg =>
          clear hs4
          refine held_top (fun W' => W'.cell? ⟨z, 0, none⟩ = some (.slice A n c)) 10 #[false, false, false, false, false, false, false, false, false, false] (by kernel_rfl) (by kernel_rfl) (by kernel_rfl) ?_
          have hHeld : U.drew.cell? ⟨z, 0, none⟩ = some (.slice A n c) := cz
          refine' wpAnyH_take (i := 0) (oi := ⟨_, _, _, _, _, _⟩) (v := _) rfl (by kernel_rfl) (by kernel_rfl) (by kernel_rfl) (fun _ _ _ h => by cases h.1) (Or.inl ⟨rfl, ?_⟩) hHeld ?_
          rotate_left
          · (intro W hW; (try dsimp only at hW); go_simp; (try with_reducible rfl))
          try simp only [Act.put, List.setIfInBounds_toArray, List.set_cons_zero, List.set_cons_succ]
          refine' wpAnyH_take (i := 1) (oi := ⟨_, _, _, _, _, _⟩) (v := _) rfl (by kernel_rfl) (by kernel_rfl) (by kernel_rfl) (fun _ _ _ h => by cases h.1) (Or.inl ⟨rfl, ?_⟩) hHeld ?_
          rotate_left
          · (intro W hW; (try dsimp only at hW); go_simp; (try with_reducible rfl))
          try simp only [Act.put, List.setIfInBounds_toArray, List.set_cons_zero, List.set_cons_succ]
          refine' wpAnyH_take (i := 2) (oi := ⟨_, _, _, _, _, _⟩) (v := _) rfl (by kernel_rfl) (by kernel_rfl) (by kernel_rfl) (fun _ _ _ h => by cases h.1) (Or.inl ⟨rfl, ?_⟩) hHeld ?_
          rotate_left
          · (intro W hW; (try dsimp only at hW); go_simp; (try with_reducible rfl))
          try simp only [Act.put, List.setIfInBounds_toArray, List.set_cons_zero, List.set_cons_succ]
          refine' wpAnyH_take (i := 4) (oi := ⟨_, _, _, _, _, _⟩) (v := _) rfl (by kernel_rfl) (by kernel_rfl) (by kernel_rfl) (fun _ _ _ h => by cases h.1) (Or.inl ⟨rfl, ?_⟩) hHeld ?_
          rotate_left
          · (intro W hW; (try dsimp only at hW); go_simp; (try with_reducible rfl))
          try simp only [Act.put, List.setIfInBounds_toArray, List.set_cons_zero, List.set_cons_succ]
          refine' wpAnyH_take (i := 5) (oi := ⟨_, _, _, _, _, _⟩) (v := _) rfl (by kernel_rfl) (by kernel_rfl) (by kernel_rfl) (fun _ _ _ h => by cases h.1) (Or.inl ⟨rfl, ?_⟩) hHeld ?_
          rotate_left
          · (intro W hW; (try dsimp only at hW); go_simp; (try with_reducible rfl))
          try simp only [Act.put, List.setIfInBounds_toArray, List.set_cons_zero, List.set_cons_succ]
          have hT : Turn (fun j => j = mb) U U.drew := (Turn.refl _ U).drewN 1
          have hB : Below U.heap.size U U.drew := ⟨rfl, rfl, rfl, Nat.le_refl _, fun _ _ => rfl⟩
          have hw : Below w.heap.size w U.drew := ⟨KU.out.os, KU.out.tape, KU.out.output, KU.out.size, KU.out.block⟩
          obtain ⟨u0, hu0⟩ : ∃ u, u = U.drew := ⟨_, rfl⟩
          rw [← hu0] at hT hB hw hHeld ⊢
          have hc := hHeld
          clear hHeld hu0 cz
          refine held_two (i := 3) (j := 8) (by kernel_rfl) rfl rfl (fun K hK => ?_) (fun K hK => ?_)
          · go_simp
            go_at_call 25
            refine (HWT.out u0 hB).mono ?_
            rintro e u1 ⟨AV, cV, V, rfl, iV, wV, -, t1⟩
            have hT := hT.trans t1
            have hw := hw.trans (t1.below (B := w.heap.size) hw.size (fun j e => by rw [← HZ.out]; omega))
            have hc := t1.cell hc (by show ¬ z = mb; omega)
            refine hK.out _ _ hc ?_
            clear hK
            try simp only [List.setIfInBounds_toArray, List.set_cons_zero, List.set_cons_succ]
            refine held_two (i := 6) (j := 8) (by kernel_rfl) rfl rfl (fun K hK => ?_) (fun K hK => ?_)
            · go_simp
              go_at_call 26
              refine (HOF.out u1 hw).mono ?_
              rintro e u2 ⟨AP, cP, rfl, iP, -, k2⟩
              have hT := hT.trans (Turn.of_below _ k2)
              have hw := hw.trans (k2.mono hw.size)
              have hc := (k2.cell (cell_lt hc)).trans hc
              have iV := iV.below k2
              refine hK.out _ _ hc ?_
              clear hK
              try simp only [List.setIfInBounds_toArray, List.set_cons_zero, List.set_cons_succ]
              refine held_two (i := 7) (j := 8) (by kernel_rfl) rfl rfl (fun K hK => ?_) (fun K hK => ?_)
              · go_simp
                go_at_call 24
                refine (HMD.out AV cV AP cP V u2 iV wV iP).mono ?_
                rintro e u3 ⟨gF, rfl, oF, k3⟩
                rw [HPK.out V wV] at oF
                obtain ⟨hgF, _, _, hgh⟩ := oF.at_block
                have hgl := heap_lt hgh
                have hgU : U.heap.size ≤ gF := Nat.le_trans hT.size hgF
                have iF := oF.isM.1
                have hT := hT.trans (Turn.of_below _ k3)
                have hc := (k3.cell (cell_lt hc)).trans hc
                refine hK.out _ _ hc ?_
                clear hK
                try simp only [List.setIfInBounds_toArray, List.set_cons_zero, List.set_cons_succ]
                refine held_one (i := 8) (by kernel_rfl) rfl (fun K hK => ?_)
                go_simp
                have ka := below_alloc u3 (.cells #[.slice none 0 0] 22)
                have be := Blk.new u3 (B := 0) 22 #[.slice none 0 0] (Nat.zero_le _)
                obtain ⟨v3, hv⟩ : ∃ v, v = u3.alloc (.cells #[.slice none 0 0] 22) := ⟨_, rfl⟩
                obtain ⟨e15, h15⟩ : ∃ e, e = u3.heap.size := ⟨_, rfl⟩
                rw [← hv] at ka be ⊢
                rw [← h15] at be ⊢
                have he : U.heap.size ≤ e15 := by rw [h15]; exact hT.size
                have hne : gF ≠ e15 := by omega
                have iF := iF.below ka
                have hT := hT.trans (Turn.of_below _ ka)
                have hc := (ka.cell (cell_lt hc)).trans hc
                clear h15
                refine hK.out _ _ hc ?_
                clear hK hv
                try simp only [List.setIfInBounds_toArray, List.set_cons_zero, List.set_cons_succ]
                refine held_one (i := 9) (by kernel_rfl) rfl (fun K hK => ?_)
                have ce := be.cell 0
                have fe := be.frozen 0
                have te : Turn (fun j => j = e15) v3 (v3.setCell ⟨e15, 0, none⟩ (.slice (some ⟨gF, 0, none⟩) m m)) := (Turn.of_grown (grown_set v3 e15 0 _)).mono (fun i e => by simpa using e)
                have hc9 := te.cell hc (by show ¬ z = e15; omega)
                have iF9 := iF.turnG te hne (fun j e o v hv => by rw [e] at hv; rw [blk_one be hv]; exact fun _ h => by cases h)
                have be9 := be.stored 0 (.slice (some ⟨gF, 0, none⟩) m m)
                have hT9 := hT.then te (fun j e => .inr (by omega))
                go_simp
                refine hK.out _ _ hc9 ?_
                clear hK
                try simp only [List.setIfInBounds_toArray, List.set_cons_zero, List.set_cons_succ]
                refine wpAnyH_done (by kernel_rfl) ?_ _
                exact ⟨rfl, e15, gF, AV, cV, AP, cP, rfl, hT9, he, hgU, hne, be9, iF9⟩
              · go_simp
                have ka := below_alloc u2 (.cells #[.slice none 0 0] 22)
                have be := Blk.new u2 (B := 0) 22 #[.slice none 0 0] (Nat.zero_le _)
                obtain ⟨v2, hv⟩ : ∃ v, v = u2.alloc (.cells #[.slice none 0 0] 22) := ⟨_, rfl⟩
                obtain ⟨e15, h15⟩ : ∃ e, e = u2.heap.size := ⟨_, rfl⟩
                rw [← hv] at ka be ⊢
                rw [← h15] at be ⊢
                have he : U.heap.size ≤ e15 := by rw [h15]; exact hT.size
                have hT := hT.trans (Turn.of_below _ ka)
                have hc := (ka.cell (cell_lt hc)).trans hc
                clear h15
                have hw := hw.trans (ka.mono hw.size)
                have iV := iV.below ka
                have iP := iP.below ka
                refine hK.out _ _ hc ?_
                clear hK hv
                try simp only [List.setIfInBounds_toArray, List.set_cons_zero, List.set_cons_succ]
                refine held_one (i := 7) (by kernel_rfl) rfl (fun K hK => ?_)
                go_simp
                go_at_call 24
                refine (HMD.out AV cV AP cP V v2 iV wV iP).mono ?_
                rintro e u3a ⟨gF, rfl, oF, k3⟩
                rw [HPK.out V wV] at oF
                obtain ⟨hgF, _, _, hgh⟩ := oF.at_block
                have hgl := heap_lt hgh
                have hgU : U.heap.size ≤ gF := Nat.le_trans hT.size hgF
                have iF := oF.isM.1
                have hT := hT.trans (Turn.of_below _ k3)
                have hc := (k3.cell (cell_lt hc)).trans hc
                have hne : gF ≠ e15 := by have := be.lt; omega
                have be := be.keep k3
                refine hK.out _ _ hc ?_
                clear hK
                try simp only [List.setIfInBounds_toArray, List.set_cons_zero, List.set_cons_succ]
                refine held_one (i := 9) (by kernel_rfl) rfl (fun K hK => ?_)
                have ce := be.cell 0
                have fe := be.frozen 0
                have te : Turn (fun j => j = e15) u3a (u3a.setCell ⟨e15, 0, none⟩ (.slice (some ⟨gF, 0, none⟩) m m)) := (Turn.of_grown (grown_set u3a e15 0 _)).mono (fun i e => by simpa using e)
                have hc9 := te.cell hc (by show ¬ z = e15; omega)
                have iF9 := iF.turnG te hne (fun j e o v hv => by rw [e] at hv; rw [blk_one be hv]; exact fun _ h => by cases h)
                have be9 := be.stored 0 (.slice (some ⟨gF, 0, none⟩) m m)
                have hT9 := hT.then te (fun j e => .inr (by omega))
                go_simp
                refine hK.out _ _ hc9 ?_
                clear hK
                try simp only [List.setIfInBounds_toArray, List.set_cons_zero, List.set_cons_succ]
                refine wpAnyH_done (by kernel_rfl) ?_ _
                exact ⟨rfl, e15, gF, AV, cV, AP, cP, rfl, hT9, he, hgU, hne, be9, iF9⟩
            · go_simp
              have ka := below_alloc u1 (.cells #[.slice none 0 0] 22)
              have be := Blk.new u1 (B := 0) 22 #[.slice none 0 0] (Nat.zero_le _)
              obtain ⟨v1, hv⟩ : ∃ v, v = u1.alloc (.cells #[.slice none 0 0] 22) := ⟨_, rfl⟩
              obtain ⟨e15, h15⟩ : ∃ e, e = u1.heap.size := ⟨_, rfl⟩
              rw [← hv] at ka be ⊢
              rw [← h15] at be ⊢
              have he : U.heap.size ≤ e15 := by rw [h15]; exact hT.size
              have hT := hT.trans (Turn.of_below _ ka)
              have hc := (ka.cell (cell_lt hc)).trans hc
              clear h15
              have hw := hw.trans (ka.mono hw.size)
              have iV := iV.below ka
              refine hK.out _ _ hc ?_
              clear hK hv
              try simp only [List.setIfInBounds_toArray, List.set_cons_zero, List.set_cons_succ]
              refine held_one (i := 6) (by kernel_rfl) rfl (fun K hK => ?_)
              go_simp
              go_at_call 26
              refine (HOF.out v1 hw).mono ?_
              rintro e u2a ⟨AP, cP, rfl, iP, -, k2⟩
              have hT := hT.trans (Turn.of_below _ k2)
              have hw := hw.trans (k2.mono hw.size)
              have hc := (k2.cell (cell_lt hc)).trans hc
              have iV := iV.below k2
              have be := be.keep k2
              refine hK.out _ _ hc ?_
              clear hK
              try simp only [List.setIfInBounds_toArray, List.set_cons_zero, List.set_cons_succ]
              refine held_one (i := 7) (by kernel_rfl) rfl (fun K hK => ?_)
              go_simp
              go_at_call 24
              refine (HMD.out AV cV AP cP V u2a iV wV iP).mono ?_
              rintro e u3a ⟨gF, rfl, oF, k3⟩
              rw [HPK.out V wV] at oF
              obtain ⟨hgF, _, _, hgh⟩ := oF.at_block
              have hgl := heap_lt hgh
              have hgU : U.heap.size ≤ gF := Nat.le_trans hT.size hgF
              have iF := oF.isM.1
              have hT := hT.trans (Turn.of_below _ k3)
              have hc := (k3.cell (cell_lt hc)).trans hc
              have hne : gF ≠ e15 := by have := be.lt; omega
              have be := be.keep k3
              refine hK.out _ _ hc ?_
              clear hK
              try simp only [List.setIfInBounds_toArray, List.set_cons_zero, List.set_cons_succ]
              refine held_one (i := 9) (by kernel_rfl) rfl (fun K hK => ?_)
              have ce := be.cell 0
              have fe := be.frozen 0
              have te : Turn (fun j => j = e15) u3a (u3a.setCell ⟨e15, 0, none⟩ (.slice (some ⟨gF, 0, none⟩) m m)) := (Turn.of_grown (grown_set u3a e15 0 _)).mono (fun i e => by simpa using e)
              have hc9 := te.cell hc (by show ¬ z = e15; omega)
              have iF9 := iF.turnG te hne (fun j e o v hv => by rw [e] at hv; rw [blk_one be hv]; exact fun _ h => by cases h)
              have be9 := be.stored 0 (.slice (some ⟨gF, 0, none⟩) m m)
              have hT9 := hT.then te (fun j e => .inr (by omega))
              go_simp
              refine hK.out _ _ hc9 ?_
              clear hK
              try simp only [List.setIfInBounds_toArray, List.set_cons_zero, List.set_cons_succ]
              refine wpAnyH_done (by kernel_rfl) ?_ _
              exact ⟨rfl, e15, gF, AV, cV, AP, cP, rfl, hT9, he, hgU, hne, be9, iF9⟩
          · go_simp
            have ka := below_alloc u0 (.cells #[.slice none 0 0] 22)
            have be := Blk.new u0 (B := 0) 22 #[.slice none 0 0] (Nat.zero_le _)
            obtain ⟨v0, hv⟩ : ∃ v, v = u0.alloc (.cells #[.slice none 0 0] 22) := ⟨_, rfl⟩
            obtain ⟨e15, h15⟩ : ∃ e, e = u0.heap.size := ⟨_, rfl⟩
            rw [← hv] at ka be ⊢
            rw [← h15] at be ⊢
            have he : U.heap.size ≤ e15 := by rw [h15]; exact hT.size
            have hB := hB.trans (ka.mono hB.size)
            have hT := hT.trans (Turn.of_below _ ka)
            have hc := (ka.cell (cell_lt hc)).trans hc
            clear h15
            have hw := hw.trans (ka.mono hw.size)
            refine hK.out _ _ hc ?_
            clear hK hv
            try simp only [List.setIfInBounds_toArray, List.set_cons_zero, List.set_cons_succ]
            refine held_one (i := 3) (by kernel_rfl) rfl (fun K hK => ?_)
            go_simp
            go_at_call 25
            refine (HWT.out v0 hB).mono ?_
            rintro e u1a ⟨AV, cV, V, rfl, iV, wV, -, t1⟩
            have hT := hT.trans t1
            have hw := hw.trans (t1.below (B := w.heap.size) hw.size (fun j e => by rw [← HZ.out]; omega))
            have hc := t1.cell hc (by show ¬ z = mb; omega)
            have be := be.turn t1 (by omega)
            refine hK.out _ _ hc ?_
            clear hK
            try simp only [List.setIfInBounds_toArray, List.set_cons_zero, List.set_cons_succ]
            refine held_one (i := 6) (by kernel_rfl) rfl (fun K hK => ?_)
            go_simp
            go_at_call 26
            refine (HOF.out u1a hw).mono ?_
            rintro e u2a ⟨AP, cP, rfl, iP, -, k2⟩
            have hT := hT.trans (Turn.of_below _ k2)
            have hw := hw.trans (k2.mono hw.size)
            have hc := (k2.cell (cell_lt hc)).trans hc
            have iV := iV.below k2
            have be := be.keep k2
            refine hK.out _ _ hc ?_
            clear hK
            try simp only [List.setIfInBounds_toArray, List.set_cons_zero, List.set_cons_succ]
            refine held_one (i := 7) (by kernel_rfl) rfl (fun K hK => ?_)
            go_simp
            go_at_call 24
            refine (HMD.out AV cV AP cP V u2a iV wV iP).mono ?_
            rintro e u3a ⟨gF, rfl, oF, k3⟩
            rw [HPK.out V wV] at oF
            obtain ⟨hgF, _, _, hgh⟩ := oF.at_block
            have hgl := heap_lt hgh
            have hgU : U.heap.size ≤ gF := Nat.le_trans hT.size hgF
            have iF := oF.isM.1
            have hT := hT.trans (Turn.of_below _ k3)
            have hc := (k3.cell (cell_lt hc)).trans hc
            have hne : gF ≠ e15 := by have := be.lt; omega
            have be := be.keep k3
            refine hK.out _ _ hc ?_
            clear hK
            try simp only [List.setIfInBounds_toArray, List.set_cons_zero, List.set_cons_succ]
            refine held_one (i := 9) (by kernel_rfl) rfl (fun K hK => ?_)
            have ce := be.cell 0
            have fe := be.frozen 0
            have te : Turn (fun j => j = e15) u3a (u3a.setCell ⟨e15, 0, none⟩ (.slice (some ⟨gF, 0, none⟩) m m)) := (Turn.of_grown (grown_set u3a e15 0 _)).mono (fun i e => by simpa using e)
            have hc9 := te.cell hc (by show ¬ z = e15; omega)
            have iF9 := iF.turnG te hne (fun j e o v hv => by rw [e] at hv; rw [blk_one be hv]; exact fun _ h => by cases h)
            have be9 := be.stored 0 (.slice (some ⟨gF, 0, none⟩) m m)
            have hT9 := hT.then te (fun j e => .inr (by omega))
            go_simp
            refine hK.out _ _ hc9 ?_
            clear hK
            try simp only [List.setIfInBounds_toArray, List.set_cons_zero, List.set_cons_succ]
            refine wpAnyH_done (by kernel_rfl) ?_ _
            exact ⟨rfl, e15, gF, AV, cV, AP, cP, rfl, hT9, he, hgU, hne, be9, iF9⟩
        case rest =>
          rintro e a' u ⟨rfl, e15, gF, AV, cV, AP, cP, rfl, hT, he, hgU, hne, be, iF⟩
          have cl := CU.out.cellsOf hT
          have Gu := hide (GU.out.cells cl)
          have Yu := hide (YU.out.cells cl)
          have Ku := hide (KU.out.trans (hT.below (B := w.heap.size) KU.out.size (fun j e => by rw [← HZ.out]; omega)))
          have D1u := hide (hT.at_ D1.out (by omega))
          have BEu := hide be
          have IFu := hide iF
          have huU : U.heap.size ≤ u.heap.size := hT.size
          have hel : e15 < u.heap.size := be.lt
          have LIM := hide (And.intro he (And.intro hgU (And.intro hne hel)))
          clear hT cl be iF cz HWT HOF HMD HPK GU YU ZU CU
          go_wp2_with fail
          refine wp_range (gf := 22) (pb := #[.int .u64 (x2 : Int)]) (lb := #[]) rfl (enters_of Tryd.func22 (by kernel_rfl) rfl)
            (R := eachR x2) (St := fun A B => B = A) (S := fun j => j = g ∨ j = e15) (N := (digs x2).length) ?seq ?sd ?sl ?st ?ps ?r
            (fun i B => Turn (fun j => j = g ∨ j = e15) u B ∧ Got B 34 g n (fun l => L.getD l []) (digs x1 ++ (digs x2).take i) ∧ ∃ off, (i < m → off = i) ∧ Blk B 0 22 e15 [.slice (some ⟨gF, off, none⟩) (m - i) (m - i)])
            (fun _ _ _ => False) ?ci ?ix ?il ?ixl ?i0 ?round ?done ?stop
          case seq =>
            intro r
            have b61 : Below u.heap.size u ((u.alloc (.deferred (some []))).alloc (.loop r)) := (below_alloc _ _).trans ((below_alloc _ _).mono (by simp))
            refine each_seq x2 _ _ hx2 ((HT.out.below Ku.out).below b61) ?_
            rintro ((e | e) | e) <;> omega
          case sd => rintro (e | e) <;> omega
          case sl => rintro (e | e) <;> omega
          case st => rintro A B k o rfl _ h; exact h
          case ps => rintro i vs A rfl; rfl
          case r => rintro i vs A r r' h hl; exact h
          case ci => rintro i A B h rfl; exact h
          case ix => exact fun _ _ _ _ h _ => h
          case il =>
            rintro i B r r' ⟨hT, hG, off, ho, hb⟩ hl
            exact ⟨hT.putL (by omega) _, hG.cells (Cells.put hl _), off, ho, hb.put hl _⟩
          case ixl => exact fun _ _ _ _ _ h _ => h
          case i0 =>
            intro r
            have b61 : Below u.heap.size u ((u.alloc (.deferred (some []))).alloc (.loop r)) := (below_alloc _ _).trans ((below_alloc _ _).mono (by simp))
            exact ⟨Turn.of_below _ b61, by rw [List.take_zero, List.append_nil]; exact Gu.out.keep b61, 0, fun h => rfl, BEu.out.keep b61⟩
          case stop => exact fun _ _ _ _ h _ => h.elim
          case round =>
            rintro l i vs U0 B hi ⟨hT, hG, off, ho, hb⟩ rfl hlow
            have him : i < m := by rw [HM.out]; exact hi
            obtain rfl := ho him
            obtain ⟨t, ht⟩ : ∃ t, t = (digs x2).getD off 0 := ⟨_, rfl⟩
            rw [← ht]
            have htm : t ∈ digs x2 := by rw [ht]; exact getD_mem0 hi
            have htn : t < n := by rw [HNN.out]; exact HQb.out t htm
            have iB := IFu.out.turnG hT (by rintro (e | e) <;> omega) (fun j hj => by
              rcases hj with e | e
              · rw [e]; exact Gu.out.not8
              · rw [e]; exact fun o v hv => by rw [blk_one BEu.out hv]; exact fun _ h => by cases h)
            obtain ⟨bF, oF, A', c', eF, ck, ib, l1, m1⟩ := iB.at_ off (by rw [pick_len]; exact hi)
            cases eF
            have erow : (pick L (digs x2)).getD off [] = L.getD t [] := by rw [ht]; simp [pick, hi]
            have hlN : (L.getD t []).length = N := by rw [HLW.out]; exact ((wordL_shape a b N X).row (HQb.out t htm)).1
            rw [erow, hlN] at ck ib l1
            rw [Nat.zero_add] at ck
            have c13 : B.cell? ⟨y, 0, none⟩ = some (.slice (some ⟨g, 0, none⟩) n n) := (Yu.out.turn hT (by rintro (e | e) <;> omega)).cell 0
            obtain ⟨q, hq⟩ : ∃ q, q = m - off := ⟨_, rfl⟩
            rw [← hq] at hb
            have c15 : B.cell? ⟨e15, 0, none⟩ = some (.slice (some ⟨gF, off, none⟩) q q) := hb.cell 0
            have f15 := hb.frozen 0
            obtain ⟨_, _, _, cg⟩ := hG.cell htn
            have fg := hG.frozen t
            have tg : Turn (fun j => j = g) B (B.setCell ⟨g, t, none⟩ (.slice A' N c')) := (Turn.of_grown (grown_set B g t _)).mono (fun i e => by simpa using e)
            have GN := hide (show Got (B.setCell ⟨g, t, none⟩ (.slice A' N c')) 34 g n (fun l => L.getD l []) (digs x1 ++ (digs x2).take (off + 1)) from by
              have := hG.set (R := fun l => L.getD l []) htn ib
              rw [List.take_succ_eq_append_getElem hi, ← List.append_assoc]
              rw [show (digs x2)[off] = t by rw [ht]; simp [hi]]
              exact this)
            have B15 := hide (hb.turn tg (by omega))
            have TG := hide tg
            have HTu := hide hT
            have hti : (t : Int) < (n : Int) := by omega
            have hq1 : 1 ≤ q := by omega
            have hq0 : 0 < q := by omega
            have hqi : (0 : Int) < (q : Int) := by omega
            have hqi1 : (1 : Int) ≤ (q : Int) := by omega
            have x13 := tg.cell c13 (by show ¬ y = g; omega)
            have x15 := tg.cell c15 (by show ¬ e15 = g; omega)
            have xF := tg.cell ck (by show ¬ gF = g; omega)
            have fin : ∀ (C : World) (o2 : Nat), (q ≠ 1 → o2 = off + 1) → C = ((B.setCell ⟨g, t, none⟩ (.slice A' N c')).setCell ⟨e15, 0, none⟩ (.slice (some ⟨gF, o2, none⟩) (q - 1) (q - 1))).drew →
                Turn (fun j => j = g ∨ j = e15) B C ∧ Turn (fun j => j = g ∨ j = e15) u C ∧ Got C 34 g n (fun l => L.getD l []) (digs x1 ++ (digs x2).take (off + 1)) ∧ ∃ o3, (off + 1 < m → o3 = off + 1) ∧ Blk C 0 22 e15 [.slice (some ⟨gF, o3, none⟩) (m - (off + 1)) (m - (off + 1))] := fun C o2 ho2 hC => by
              subst hC
              have te : Turn (fun j => j = e15) (B.setCell ⟨g, t, none⟩ (.slice A' N c')) ((B.setCell ⟨g, t, none⟩ (.slice A' N c')).setCell ⟨e15, 0, none⟩ (.slice (some ⟨gF, o2, none⟩) (q - 1) (q - 1))) := (Turn.of_grown (grown_set _ e15 0 _)).mono (fun i e => by simpa using e)
              have t2 : Turn (fun j => j = g ∨ j = e15) B ((B.setCell ⟨g, t, none⟩ (.slice A' N c')).setCell ⟨e15, 0, none⟩ (.slice (some ⟨gF, o2, none⟩) (q - 1) (q - 1))) := (TG.out.mono (fun j e => .inl e)).trans (te.mono (fun j e => .inr e))
              refine ⟨t2.drewN 1, (HTu.out.trans t2).drewN 1, (GN.out.turn te (by omega) (fun j e o v hv => by rw [e] at hv; rw [blk_one B15.out hv]; exact fun _ h => by cases h)).cells (fun _ _ _ _ h => h), o2, fun h => ho2 (by omega), ?_⟩
              rw [show m - (off + 1) = q - 1 by omega]
              exact (B15.out.stored 0 _).drewN 1
            have FIN := hide fin
            have g15 := B15.out.frozen 0
            clear hT hG ho hb tg ib iB fin ht hlow erow hlN hq
            by_cases hq2 : q = 1
            · subst hq2
              gi_wp2
              refine ⟨trivial, ?_⟩
              gi_wp2
              refine ways_only (isW_round l) (fun W' => W'.cell? ⟨y, 0, none⟩ = some (.slice (some ⟨g, 0, none⟩) n n) ∧ W'.cell? ⟨e15, 0, none⟩ = some (.slice (some ⟨gF, off, none⟩) 1 1) ∧ W'.cell? ⟨gF, off, none⟩ = some (.slice A' N c')) 9 10 #[false, false, false, false, false, false, false, false, false, false] (by kernel_rfl) (by kernel_rfl) (by kernel_rfl) (by kernel_rfl) ?_
              have hHeld : B.drew.cell? ⟨y, 0, none⟩ = some (.slice (some ⟨g, 0, none⟩) n n) ∧ B.drew.cell? ⟨e15, 0, none⟩ = some (.slice (some ⟨gF, off, none⟩) 1 1) ∧ B.drew.cell? ⟨gF, off, none⟩ = some (.slice A' N c') := ⟨c13, c15, ck⟩
              refine' Ways.take (i := 0) (oi := ⟨_, _, _, _, _, _⟩) (v := _) rfl (by kernel_rfl) (by kernel_rfl) (by kernel_rfl) (by kernel_rfl) (fun _ _ _ h => h) hHeld (Or.inl ⟨rfl, ?_⟩) ?_
              rotate_left
              · (intro W hW; (try dsimp only at hW); go_simp; (try with_reducible rfl))
              try simp only [Act.put, List.setIfInBounds_toArray, List.set_cons_zero, List.set_cons_succ]
              refine' Ways.take (i := 1) (oi := ⟨_, _, _, _, _, _⟩) (v := _) rfl (by kernel_rfl) (by kernel_rfl) (by kernel_rfl) (by kernel_rfl) (fun _ _ _ h => h) hHeld (Or.inl ⟨rfl, ?_⟩) ?_
              rotate_left
              · (intro W hW; (try dsimp only at hW); go_simp; (try with_reducible rfl))
              try simp only [Act.put, List.setIfInBounds_toArray, List.set_cons_zero, List.set_cons_succ]
              refine' Ways.take (i := 2) (oi := ⟨_, _, _, _, _, _⟩) (v := _) rfl (by kernel_rfl) (by kernel_rfl) (by kernel_rfl) (by kernel_rfl) (fun _ _ _ h => h) hHeld (Or.inl ⟨rfl, ?_⟩) ?_
              rotate_left
              · (intro W hW; (try dsimp only at hW); go_simp; (try with_reducible rfl))
              try simp only [Act.put, List.setIfInBounds_toArray, List.set_cons_zero, List.set_cons_succ]
              refine' Ways.take (i := 3) (oi := ⟨_, _, _, _, _, _⟩) (v := _) rfl (by kernel_rfl) (by kernel_rfl) (by kernel_rfl) (by kernel_rfl) (fun _ _ _ h => h) hHeld (Or.inl ⟨rfl, ?_⟩) ?_
              rotate_left
              · (intro W hW; (try dsimp only at hW); go_simp; (try with_reducible rfl))
              try simp only [Act.put, List.setIfInBounds_toArray, List.set_cons_zero, List.set_cons_succ]
              refine' Ways.take (i := 4) (oi := ⟨_, _, _, _, _, _⟩) (v := _) rfl (by kernel_rfl) (by kernel_rfl) (by kernel_rfl) (by kernel_rfl) (fun _ _ _ h => h) hHeld (Or.inl ⟨rfl, ?_⟩) ?_
              rotate_left
              · (intro W hW; (try dsimp only at hW); go_simp; (try with_reducible rfl))
              try simp only [Act.put, List.setIfInBounds_toArray, List.set_cons_zero, List.set_cons_succ]
              refine' Ways.take (i := 5) (oi := ⟨_, _, _, _, _, _⟩) (v := _) rfl (by kernel_rfl) (by kernel_rfl) (by kernel_rfl) (by kernel_rfl) (fun _ _ _ h => h) hHeld (Or.inl ⟨rfl, ?_⟩) ?_
              rotate_left
              · (intro W hW; (try dsimp only at hW); go_simp; (try with_reducible rfl))
              try simp only [Act.put, List.setIfInBounds_toArray, List.set_cons_zero, List.set_cons_succ]
              refine' Ways.take (i := 6) (oi := ⟨_, _, _, _, _, _⟩) (v := _) rfl (by kernel_rfl) (by kernel_rfl) (by kernel_rfl) (by kernel_rfl) (fun _ _ _ h => h) hHeld (Or.inl ⟨rfl, ?_⟩) ?_
              rotate_left
              · (intro W hW; (try dsimp only at hW); go_simp; (try with_reducible rfl))
              try simp only [Act.put, List.setIfInBounds_toArray, List.set_cons_zero, List.set_cons_succ]
              refine' Ways.take (i := 7) (oi := ⟨_, _, _, _, _, _⟩) (v := _) rfl (by kernel_rfl) (by kernel_rfl) (by kernel_rfl) (by kernel_rfl) (fun _ _ _ h => h) hHeld (Or.inl ⟨rfl, ?_⟩) ?_
              rotate_left
              · (intro W hW; (try dsimp only at hW); go_simp; (try with_reducible rfl))
              try simp only [Act.put, List.setIfInBounds_toArray, List.set_cons_zero, List.set_cons_succ]
              refine Ways.one (i := 8) (by kernel_rfl) rfl (fun K hK => ?_)
              go_simp
              refine hK.out _ _ ⟨x13, x15, xF⟩ ?_
              clear hK
              try simp only [List.setIfInBounds_toArray, List.set_cons_zero, List.set_cons_succ]
              refine Ways.last (by kernel_rfl) rfl (by kernel_rfl) (fun K hK => ?_)
              go_simp
              refine hK.out _ _ ?_
              clear hK
              refine only_n ?_
              gi_wp2
              exact FIN.out _ off (fun h => absurd rfl h) rfl
            · have hqn : ¬ q = 1 := hq2
              gi_wp2
              refine ⟨trivial, ?_⟩
              gi_wp2
              refine ways_only (isW_round l) (fun W' => W'.cell? ⟨y, 0, none⟩ = some (.slice (some ⟨g, 0, none⟩) n n) ∧ W'.cell? ⟨e15, 0, none⟩ = some (.slice (some ⟨gF, off, none⟩) q q) ∧ W'.cell? ⟨gF, off, none⟩ = some (.slice A' N c')) 9 10 #[false, false, false, false, false, false, false, false, false, false] (by kernel_rfl) (by kernel_rfl) (by kernel_rfl) (by kernel_rfl) ?_
              have hHeld : B.drew.cell? ⟨y, 0, none⟩ = some (.slice (some ⟨g, 0, none⟩) n n) ∧ B.drew.cell? ⟨e15, 0, none⟩ = some (.slice (some ⟨gF, off, none⟩) q q) ∧ B.drew.cell? ⟨gF, off, none⟩ = some (.slice A' N c') := ⟨c13, c15, ck⟩
              refine' Ways.take (i := 0) (oi := ⟨_, _, _, _, _, _⟩) (v := _) rfl (by kernel_rfl) (by kernel_rfl) (by kernel_rfl) (by kernel_rfl) (fun _ _ _ h => h) hHeld (Or.inl ⟨rfl, ?_⟩) ?_
              rotate_left
              · (intro W hW; (try dsimp only at hW); go_simp; (try with_reducible rfl))
              try simp only [Act.put, List.setIfInBounds_toArray, List.set_cons_zero, List.set_cons_succ]
              refine' Ways.take (i := 1) (oi := ⟨_, _, _, _, _, _⟩) (v := _) rfl (by kernel_rfl) (by kernel_rfl) (by kernel_rfl) (by kernel_rfl) (fun _ _ _ h => h) hHeld (Or.inl ⟨rfl, ?_⟩) ?_
              rotate_left
              · (intro W hW; (try dsimp only at hW); go_simp; (try with_reducible rfl))
              try simp only [Act.put, List.setIfInBounds_toArray, List.set_cons_zero, List.set_cons_succ]
              refine' Ways.take (i := 2) (oi := ⟨_, _, _, _, _, _⟩) (v := _) rfl (by kernel_rfl) (by kernel_rfl) (by kernel_rfl) (by kernel_rfl) (fun _ _ _ h => h) hHeld (Or.inl ⟨rfl, ?_⟩) ?_
              rotate_left
              · (intro W hW; (try dsimp only at hW); go_simp; (try with_reducible rfl))
              try simp only [Act.put, List.setIfInBounds_toArray, List.set_cons_zero, List.set_cons_succ]
              refine' Ways.take (i := 3) (oi := ⟨_, _, _, _, _, _⟩) (v := _) rfl (by kernel_rfl) (by kernel_rfl) (by kernel_rfl) (by kernel_rfl) (fun _ _ _ h => h) hHeld (Or.inl ⟨rfl, ?_⟩) ?_
              rotate_left
              · (intro W hW; (try dsimp only at hW); go_simp; (try with_reducible rfl))
              try simp only [Act.put, List.setIfInBounds_toArray, List.set_cons_zero, List.set_cons_succ]
              refine' Ways.take (i := 4) (oi := ⟨_, _, _, _, _, _⟩) (v := _) rfl (by kernel_rfl) (by kernel_rfl) (by kernel_rfl) (by kernel_rfl) (fun _ _ _ h => h) hHeld (Or.inl ⟨rfl, ?_⟩) ?_
              rotate_left
              · (intro W hW; (try dsimp only at hW); go_simp; (try with_reducible rfl))
              try simp only [Act.put, List.setIfInBounds_toArray, List.set_cons_zero, List.set_cons_succ]
              refine' Ways.take (i := 5) (oi := ⟨_, _, _, _, _, _⟩) (v := _) rfl (by kernel_rfl) (by kernel_rfl) (by kernel_rfl) (by kernel_rfl) (fun _ _ _ h => h) hHeld (Or.inl ⟨rfl, ?_⟩) ?_
              rotate_left
              · (intro W hW; (try dsimp only at hW); go_simp; (try with_reducible rfl))
              try simp only [Act.put, List.setIfInBounds_toArray, List.set_cons_zero, List.set_cons_succ]
              refine' Ways.take (i := 6) (oi := ⟨_, _, _, _, _, _⟩) (v := _) rfl (by kernel_rfl) (by kernel_rfl) (by kernel_rfl) (by kernel_rfl) (fun _ _ _ h => h) hHeld (Or.inl ⟨rfl, ?_⟩) ?_
              rotate_left
              · (intro W hW; (try dsimp only at hW); go_simp; (try with_reducible rfl))
              try simp only [Act.put, List.setIfInBounds_toArray, List.set_cons_zero, List.set_cons_succ]
              refine' Ways.take (i := 7) (oi := ⟨_, _, _, _, _, _⟩) (v := _) rfl (by kernel_rfl) (by kernel_rfl) (by kernel_rfl) (by kernel_rfl) (fun _ _ _ h => h) hHeld (Or.inl ⟨rfl, ?_⟩) ?_
              rotate_left
              · (intro W hW; (try dsimp only at hW); go_simp; (try with_reducible rfl))
              try simp only [Act.put, List.setIfInBounds_toArray, List.set_cons_zero, List.set_cons_succ]
              refine Ways.one (i := 8) (by kernel_rfl) rfl (fun K hK => ?_)
              go_simp
              refine hK.out _ _ ⟨x13, x15, xF⟩ ?_
              clear hK
              try simp only [List.setIfInBounds_toArray, List.set_cons_zero, List.set_cons_succ]
              refine Ways.last (by kernel_rfl) rfl (by kernel_rfl) (fun K hK => ?_)
              go_simp
              refine hK.out _ _ ?_
              clear hK
              refine only_n ?_
              gi_wp2
              exact FIN.out _ (off + 1) (fun _ => rfl) rfl
          case done =>
            rintro B ⟨hT, hG, off, -, -⟩ hK
            have c13 : B.cell? ⟨y, 0, none⟩ = some (.slice (some ⟨g, 0, none⟩) n n) := (Yu.out.turn hT (by rintro (e | e) <;> omega)).cell 0
            have hW4u : W4.heap.size < u.heap.size := by have := heap_lt D1u.out; exact this
            have DB := hide (hT.at_ D1u.out (by rintro (e | e) <;> omega))
            have KB := hide (Ku.out.trans (hT.below (B := w.heap.size) Ku.out.size (fun j e => by rw [← HZ.out]; rcases e with e | e <;> omega)))
            rw [List.take_of_length_le (Nat.le_refl _)] at hG
            have GB := hide hG
            clear hT hG
            go_wp2_with fail
            have DB2 : (B.putObj u.heap.size (.deferred none)).heap[W4.heap.size]? = some (.deferred (some [])) := (World.putObj_heap_other (by omega)).trans DB.out
            refine ⟨by simp, .inl ⟨_, _, rfl, run_takeDeferred hK, ?_⟩⟩
            refine ⟨by simp, .inl ⟨_, _, rfl, run_takeDeferred DB2, ?_⟩⟩
            have GF := (GB.out.cells (Cells.putD hK (.deferred none))).cells (Cells.putD DB2 (.deferred none))
            refine ⟨.tuple #[.slice (some ⟨g, 0, none⟩) n n, .int .i64 0], ?_, _, L, 0, rfl, ⟨_, _, _, rfl, HLl.out, ?_, (fun h => by cases h), by omega⟩, ANS.out, ?_⟩
            · simp [results, Tryd.results9, go_sem]
            · rw [← HLl.out] at GF
              refine GF.isM (fun l hl => ?_)
              rw [HLl.out, HNN.out] at hl
              by_cases q : l ∈ digs x1
              · exact List.mem_append_left _ q
              · refine List.mem_append_right _ ?_
                rw [HD2.out]
                exact List.mem_filter.2 ⟨List.mem_range.2 hl, by simpa using q⟩
            · exact below_put (below_put KB.out (by have := Ku.out.size; omega) _) (by have := K4.out.size; omega) _
end Go.Proofs.YtpjocddeiehckaaDoor
