/- What a walk inside a fence wants: heads for ranges over functions; blocks that stand when a loop's record turns. It names nothing of the program. The contracts of shard's columns and of the function that it hands back: at each place the numbers of all rows there. Condition: at most 64 rows, of at most 1000000 numbers. The contracts of shard's dot and made: rows that have at each place the sums of products. Condition: at most 14 rows, of at most 1000000 numbers. The contract of the project's Sums: the rows of sums, or refused. Condition: at most 1500 rows of at most 1500 numbers. The contract of a set's each: it goes through the rows of the set, rising. Condition: fewer than 15 rows; the library's table lies as it was laid. What stands where only blocks that are no cells have turned, or new ones have come. No condition. The contract of a set's numbers: the rows of the set in an array, noughts behind them. Condition: fewer than 15 rows; the library's table lies as it was laid. The keys under which shard keeps inverses. Condition: at most 14 rows. The contract of a set's of: those of the rows that are in the set. Condition: fewer than 15 rows; the library's table lies as it was laid. -/
import Derived.Test.YtpjocddeiehckaaDoorPr11
import Derived.Test.YtpjocddeiehckaaDoorPr2
import Derived.Shelf.Abstract
import Derived.Shelf.RegionOpen
import Derived.WalkKit
import Derived.OwnWalkIn
import Derived.TacticsInMore
import Derived.LoopNIn
import Derived.LoopIn
import Derived.Test.YtpjocddeiehckaaDoorPr5
import Derived.Test.YtpjocddeiehckaaDoorPr7
import Derived.Test.YtpjocddeiehckaaDoorPr4
import Derived.Test.YtpjocddeiehckaaDoorPr3
namespace Go.Proofs.YtpjocddeiehckaaDoor
open Go.RowKit
theorem Blk.put {w : World} {B : Nat} {e : TypeId} {g : Nat} {cs : List Value} (h : Blk w B e g cs) {l : Nat} {r : Loop} (hl : w.heap[l]? = some (.loop r)) (o : Obj) : Blk (w.putObj l o) B e g cs := by
  obtain ⟨hB, cur, hh, hc⟩ := h
  refine ⟨hB, cur, ?_, hc⟩
  rw [World.putObj_heap_other (fun q => by subst q; rw [hh] at hl; cases hl)]
  exact hh
theorem Blk.putD {w : World} {B : Nat} {e : TypeId} {g : Nat} {cs : List Value} (h : Blk w B e g cs) {l : Nat} {r : Option (List Deferred)} (hl : w.heap[l]? = some (.deferred r)) (o : Obj) : Blk (w.putObj l o) B e g cs := by
  obtain ⟨hB, cur, hh, hc⟩ := h
  refine ⟨hB, cur, ?_, hc⟩
  rw [World.putObj_heap_other (fun q => by subst q; rw [hh] at hl; cases hl)]
  exact hh
theorem Blk.low {w w' : World} {B z : Nat} {e : TypeId} {g : Nat} {cs : List Value} (h : Blk w B e g cs) (hb : Below z w w') (hg : g < z) : Blk w' B e g cs := by
  obtain ⟨hB, cur, hh, hc⟩ := h
  exact ⟨hB, cur, by rw [hb.block g hg]; exact hh, hc⟩
theorem Turn.low {S : Nat → Prop} {W A B : World} {z : Nat} (h : Turn S W A) (hb : Below z A B) (hz : W.heap.size ≤ z) : Turn S W B :=
  ⟨hb.os.trans h.os, hb.tape.trans h.tape, hb.output.trans h.output, Nat.le_trans h.size hb.size, fun k hk hn => (hb.block k (by omega)).trans (h.block k hk hn)⟩
theorem Turn.putL {S : Nat → Prop} {W A : World} {l : Nat} (h : Turn S W A) (hl : W.heap.size ≤ l) (o : Obj) : Turn S W (A.putObj l o) :=
  ⟨h.os, h.tape, h.output, by rw [World.putObj_size]; exact h.size, fun k hk hn => (World.putObj_heap_other (by omega)).trans (h.block k hk hn)⟩
theorem Turn.alloc {S : Nat → Prop} {W A : World} (h : Turn S W A) (o : Obj) : Turn S W (A.alloc o) := h.trans (Turn.of_below _ (below_alloc A o))
theorem Turn.cell {S : Nat → Prop} {W A : World} {a : Addr} {v : Value} (h : Turn S W A) (hc : W.cell? a = some v) (hn : ¬ S a.block) : A.cell? a = some v := by
  rw [← hc]
  exact World.cell?_of_block (h.block a.block (cell_lt hc) hn)
theorem below_put {w A : World} {B l : Nat} (h : Below B w A) (hl : B ≤ l) (o : Obj) : Below B w (A.putObj l o) :=
  ⟨h.os, h.tape, h.output, by rw [World.putObj_size]; exact h.size, fun k hk => (World.putObj_heap_other (by omega)).trans (h.block k hk)⟩
section
variable {P : Program} {r : Option Nat} {n : Nat}
/-- The wide fence, in a round or not. -/
def WF (r : Option Nat) : Fence := { Fence.wide with round := r }
def IsW (F : Fence) : Prop := ∃ r, F = WF r
theorem isW_wide : IsW Fence.wide := ⟨none, rfl⟩
theorem isW_round (l : Nat) : IsW (Fence.wide.inRound l) := ⟨some l, rfl⟩
theorem rowsIn_wide {row : String} {args : Array Value} {w : World} {R : Value → World → Prop} (h : Rows P row args w R) : RowsIn (WF r) n P row args w R :=
  fun c cs _ => let ⟨v, w', q, s⟩ := h c cs; ⟨v, w', q, stepsIn_wide.2 s⟩
/-- An operation that is no defer statement goes in a round as anywhere. -/
theorem oper_in {o : Oper} {a : Act} {w : World} {K : Act → World → Prop} {Q : Exit → Act → World → Prop} (hd : ∀ c, o.op ≠ .defer c) (h : Oper.wp P o a w K Q) : Oper.wpIn (WF r) n P o a w K Q := by
  refine ⟨fun _ _ => trivial, ?_⟩
  have e : o.semAt (WF r).round a.eval = execOp a.eval o := by
    cases r with
    | none => exact Oper.semAt_none _ _
    | some l => exact Oper.semAt_some l _ _ hd
  rw [e]
  unfold Oper.wp at h
  generalize (execOp a.eval o).run P w = R at h ⊢
  cases R with
  | ok x w' =>
    cases x with
    | value v => exact h
    | skip => exact h
    | defer d => exact h
    | enter f args => exact ⟨(fun q => by cases q), callsIn_wide.2 h⟩
    | row row args => exact ⟨(fun q => by cases q), rowsIn_wide h⟩
    | round l f tmps assign body => exact h.elim
    | _ => exact h.elim
  | halt x w' => cases x <;> exact h
theorem wpListIn_by {ops : Array Oper} {Q : Exit → Act → World → Prop} {rest : List Oper} {o : Oper} {a : Act} {w : World} (hd : ∀ c, o.op ≠ .defer c)
    (h : ∀ K : Act → World → Prop, (∀ b u, wpListIn (WF r) n P ops Q rest b u → K b u) → if Region.wanted o (yielded ops a.tmps) = true then Oper.wp P o a w K Q else K (a.put o.dst undef) w) :
    wpListIn (WF r) n P ops Q (o :: rest) a w := by
  refine wpListIn_step fun K hK => ?_
  have := h K hK
  split at this
  · rename_i e
    rw [if_pos e]
    exact oper_in hd this
  · rename_i e
    rw [if_neg e]
    exact ⟨fun _ _ => trivial, this⟩
theorem wpOpIn_by {ops : Array Oper} {Q : Exit → Act → World → Prop} {i : Nat} {K : Act → World → Prop} {a : Act} {w : World} (hd : ∀ o : Oper, ops[i]? = some o → ∀ c, o.op ≠ .defer c) (hQ : ¬ LetsOut Q) (h : wpOp P ops Q i K a w) : wpOpIn (WF r) n P ops Q i K a w := by
  unfold wpOp at h
  unfold wpOpIn
  cases e : ops[i]? with
  | none => rw [e] at h; exact h
  | some o =>
    rw [e] at h
    simp only at h ⊢
    by_cases q : Region.wanted o (yielded ops a.tmps) = true
    · rw [if_pos q] at h ⊢
      exact oper_in (hd o e) (h.resolve_right (fun q => hQ q.2))
    · rw [if_neg q] at h ⊢
      exact ⟨fun _ _ => trivial, h⟩
theorem wpAnyIn_by {ops : Array Oper} {md : Region.Mode} {Q : Exit → Act → World → Prop} (hd : ∀ (i : Nat) (o : Oper), ops[i]? = some o → ∀ c, o.op ≠ .defer c) (hQ : ¬ LetsOut Q) :
    ∀ (fuel : Nat) (listed : Array Bool) (a : Act) (w : World), wpAny P md ops Q fuel listed a w → wpAnyIn (WF r) n P md ops Q fuel listed a w
  | 0, _, _, _, h => h
  | fuel + 1, _, _, _, h => ⟨h.1, fun i hi => wpOpIn_by (hd i) hQ (wpOp_mono (fun b u hb => wpAnyIn_by hd hQ fuel _ b u hb) (h.2 i hi))⟩
/-- A region that draws its order, in a round as anywhere. -/
theorem region_in {ops : Array Oper} {Q : Exit → Act → World → Prop} {id : Nat} {a : Act} {w : World} (hm : P.follows .mixedOrders = true) (hd : ∀ (i : Nat) (o : Oper), ops[i]? = some o → ∀ c, o.op ≠ .defer c) (hQ : ¬ LetsOut Q)
    (h : wpAny P .any ops Q ops.size (Array.replicate ops.size false) a w.drew) : (Code.region id ops true).wpIn (WF r) n P Q a w := wpIn_region_any hm (wpAnyIn_by hd hQ _ _ _ _ h)
theorem no_defer {ops : Array Oper} (h : ops.all (fun o : Oper => match o.op with | .defer _ => false | _ => true) = true) : ∀ (i : Nat) (o : Oper), ops[i]? = some o → ∀ c, o.op ≠ .defer c := by
  intro i o hi c e
  rw [Array.all_eq_true] at h
  obtain ⟨hlt, rfl⟩ := Array.getElem?_eq_some_iff.1 hi
  have := h i hlt
  rw [e] at this
  cases this
theorem Ways.startIn {ops : Array Oper} {Q : Exit → Act → World → Prop} {id : Nat} {a : Act} {w : World} (S : World → Prop) (L k : Nat) (l : Array Bool) (hn : ops.size = k) (hl : Array.replicate k false = l) (hm : P.follows .mixedOrders = true)
    (hd : ops.all (fun o : Oper => match o.op with | .defer _ => false | _ => true) = true) (hQ : ¬ LetsOut Q) (h : Ways P .any ops Q S L k l a w.drew) : (Code.region id ops true).wpIn (WF r) n P Q a w := by
  subst hn
  subst hl
  exact region_in hm (no_defer hd) hQ (Ways.any _ _ _ _ h)
end
section
variable {P : Program} {F : Fence} {n : Nat}
theorem wpListIn_op (hF : IsW F) {ops : Array Oper} {Q : Exit → Act → World → Prop} {rest : List Oper} {o : Oper} {a : Act} {w : World} (hd : ∀ c, o.op ≠ .defer c)
    (h : ∀ K : Act → World → Prop, (∀ b u, wpListIn F n P ops Q rest b u → K b u) → if Region.wanted o (yielded ops a.tmps) = true then Oper.wp P o a w K Q else K (a.put o.dst undef) w) :
    wpListIn F n P ops Q (o :: rest) a w := by
  obtain ⟨r, rfl⟩ := hF
  exact wpListIn_by hd h
/-- make, of whole length. -/
theorem wpListIn_make_full (hF : IsW F) (w : World) {ops : Array Oper} {rest : List Oper} {o : Oper} {a : Act} {Q : Exit → Act → World → Prop}
    (hg : o.guard = none) (l c : Operand) (t : TypeId) (hop : o.op = Op.makeSlice t l c)
    (base : Nat) (e : TypeId) (i : TypeInfo) (z : Value) (size : Nat) (h1 : P.underlying t = some (.slice e)) (h2 : P.info? e = some i) (h3 : i.zero = some z) (h4 : i.size = size)
    (kl kc : IntKind) (m : Nat) (hl : a.eval l = .int kl (m : Int)) (hc : a.eval c = .int kc (m : Int)) (b2 : i.bytes * m ≤ 281474976710656) (b3 : m ≤ maxLen) (b4 : base ≤ w.heap.size)
    (hK : ∀ w', w'.ownsRow base e size (.slice (some ⟨w.heap.size, 0, none⟩) m m) m (madeCells z.cells (m * size)).toList → w.grownBy w' none → wpListIn F n P ops Q rest (a.put o.dst (.slice (some ⟨w.heap.size, 0, none⟩) m m)) w') :
    wpListIn F n P ops Q (o :: rest) a w := by
  refine wpListIn_op hF (by rw [hop]; intro c h; cases h) fun K hK' => ?_
  obtain ⟨w', hrun, r1, r2⟩ := run_make_full (P := P) w base t e i z size h1 h2 h3 h4 kl kc m b2 b3 b4
  rw [if_pos (by simp [Region.wanted, hg])]
  unfold Oper.wp
  simp [execOp, hop, hl, hc, hrun, Result.andThen]
  exact hK' _ _ (hK w' r1 r2)
/-- A region that draws its order and whose last operation turns what others load. -/
theorem ways_in (hF : IsW F) {ops : Array Oper} {Q : Exit → Act → World → Prop} {id : Nat} {a : Act} {w : World} (S : World → Prop) (L k : Nat) (l : Array Bool) (hn : ops.size = k) (hl : Array.replicate k false = l) (hm : P.follows .mixedOrders = true)
    (hd : ops.all (fun o : Oper => match o.op with | .defer _ => false | _ => true) = true) (hQ : ¬ LetsOut Q) (h : Ways P .any ops Q S L k l a w.drew) : (Code.region id ops true).wpIn F n P Q a w := by
  obtain ⟨r, rfl⟩ := hF
  exact Ways.startIn S L k l hn hl hm hd hQ h
/-- A region that draws its order and whose loads may all be taken first. -/
theorem held_in (hF : IsW F) {ops : Array Oper} {Q : Exit → Act → World → Prop} {id : Nat} {a : Act} {w : World} (S : World → Prop) (k : Nat) (l : Array Bool) (hn : ops.size = k) (hl : Array.replicate k false = l) (hm : P.follows .mixedOrders = true)
    (hd : ops.all (fun o : Oper => match o.op with | .defer _ => false | _ => true) = true) (hQ : ¬ LetsOut Q) (h : wpAnyH P .any ops Q S k l a w.drew) : (Code.region id ops true).wpIn F n P Q a w := by
  obtain ⟨r, rfl⟩ := hF
  subst hn
  subst hl
  exact region_in hm (no_defer hd) hQ (wpAny_of_held _ _ _ _ h)
theorem held_one {ops : Array Oper} {md : Region.Mode} {Q : Exit → Act → World → Prop} {S : World → Prop} {i : Nat} {o : Oper} {fuel : Nat} {listed : Array Bool} {a : Act} {w : World} (hr : Region.ready md ops listed = [i]) (ho : ops[i]? = some o)
    (h : ∀ K : Act → World → Prop, Hid (∀ b u, S u → wpAnyH P md ops Q S fuel (listed.setIfInBounds i true) b u → K b u) → if Region.wanted o (yielded ops a.tmps) = true then Oper.wp P o a w K Q else K (a.put o.dst undef) w) :
    wpAnyH P md ops Q S (fuel + 1) listed a w := by
  refine wpAnyH_all hr (by simp) (fun j hj => ?_)
  rw [List.mem_singleton] at hj
  subst hj
  exact wpOp_step ho (fun K hK => h K (hide fun b u hS hW => hK b u ⟨hS, hW⟩))
end
end Go.Proofs.YtpjocddeiehckaaDoor
namespace Go.Proofs.YtpjocddeiehckaaDoor
open Go.RowKit
attribute [local go_sem] Oper.semAt_some
def numV (D : ML) (j i : Nat) : Value := .int .u8 (((D.getD j []).getD i 0 : Nat) : Int)
/-- The column i of rows. -/
def colC (D : ML) (k i : Nat) : List Value := (List.range k).map fun j => numV D j i
/-- What a round is handed. -/
def colR (D : ML) (k z i : Nat) (vs : Array Value) (A : World) : Prop := ∃ C, vs = #[.int .i64 (i : Int), .slice (some ⟨C, 0, none⟩) k k] ∧ Blk A z 5 C (colC D k i)
/-- A column of which q places are laid. -/
def colP (D : ML) (k i q : Nat) (y : Nat → Value) : List Value := (List.range k).map fun j => if j < q then numV D j i else y j
theorem colP_done (D : ML) (k i : Nat) (y : Nat → Value) : colP D k i k y = colC D k i := List.map_congr_left (fun _ hj => if_pos (List.mem_range.1 hj))
theorem colP_none (D : ML) (k i : Nat) (y : Nat → Value) : colP D k i 0 y = (List.range k).map y := List.map_congr_left (fun _ _ => if_neg (Nat.not_lt_zero _))
theorem colP_set (D : ML) {k q : Nat} (i : Nat) (y : Nat → Value) : (colP D k i q y).set q (numV D q i) = colP D k i (q + 1) y := by
  apply List.ext_getElem
  · simp [colP]
  · intro b h1 h2
    rw [List.getElem_set]
    simp only [colP, List.getElem_map, List.getElem_range]
    by_cases e : q = b
    · subst e; simp
    · rw [if_neg e]
      by_cases h : b < q
      · rw [if_pos h, if_pos (by omega)]
      · rw [if_neg h, if_neg (by omega)]
theorem colP_at (D : ML) {k i q : Nat} (y : Nat → Value) (h : q < k) : (colP D k i q y)[q]? = some (y q) := by simp [colP, h]
theorem colC_any (D : ML) (k i : Nat) : ∃ y : Nat → Value, colC D k i = (List.range k).map y := ⟨fun j => numV D j i, rfl⟩
theorem columns_any (A : Option Addr) (n c : Nat) (w : World) :
    Calls Tryd.prog 41 #[.slice A n c] w fun e w' => e = .returned (.func (.func 58) #[] #[.pointer (some ⟨w.heap.size, 0, none⟩)]) ∧ w' = w.alloc (.cells #[.slice A n c] 22) := by
  go_enter Tryd.func41, Tryd.ntmps41
  go_wp2_with fail
  go_ret
  exact ⟨rfl, rfl⟩
set_option maxRecDepth 100000 in
set_option maxHeartbeats 3200000 in
theorem cols_seq (A0 : Option Addr) (k c N Bx : Nat) (D : ML) (W : World) (S : Nat → Prop) (hk1 : 1 ≤ k) (hk : k ≤ 64) (hN : N ≤ 1000000) (sh : Shape D k N) (hBx : W.cell? ⟨Bx, 0, none⟩ = some (.slice A0 k c)) (hB : ¬ S Bx) (hS : ∀ j, S j → j < W.heap.size) (hIs : ∀ A, Turn S W A → IsM A A0 D) :
    SeqC Tryd.prog 58 #[] #[.pointer (some ⟨Bx, 0, none⟩)] (colR D k W.heap.size) (Below W.heap.size) S N W := by
  intro l J Jx hJ hJx hY h0
  obtain ⟨i1, hj, hy0, hy1, hy2⟩ := info_parts Tryd.info_u8'
  have HJ := hide (And.intro hj (And.intro hy0 (And.intro hy1 hy2)))
  clear hj hy0 hy1 hy2
  have HY := hide hY
  have HIs := hide hIs
  have HS := hide hS
  have HStep := hide hJ
  have HSh := hide sh
  obtain ⟨z, hz⟩ : ∃ z, z = W.heap.size := ⟨_, rfl⟩
  rw [← hz] at HY HS HStep
  have HZ := hide hz
  have HB := hide hB
  have HBX := hide hBx
  have len0 := sh.len_at 0 (by omega)
  obtain ⟨b0, off0, A1, c1, rfl, ck0, -, -, -⟩ := (hIs W (Turn.refl _ _)).at_ 0 (by rw [sh.high]; omega)
  rw [len0] at ck0
  clear hY hIs hS hJ hJx sh hB hz len0
  refine callsIn_of_wp Tryd.func58 rfl trivial ?_ rfl
  simp only [Tryd.ntmps58, List.size_toArray, List.length_cons, List.length_nil, Nat.reduceAdd, Nat.reduceSub, Array.replicate_succ, Array.replicate_zero, List.push_toArray, List.append_toArray, List.nil_append, List.cons_append]
  obtain ⟨hj, hy0, hy1, hy2⟩ := HJ.out
  gi_wp2_with (gi_at_make; refine halt ?_)
  refine ⟨?_⟩
  refine wpListIn_make_full isW_wide _ rfl (.tmp 8) (.tmp 8) 34 rfl W.heap.size 5 i1 (.int .u8 0) 1 Tryd.underlying34 hj hy0 hy1 .i64 .i64 k rfl rfl (by rw [hy2]; omega) (by unfold maxLen; omega) (Nat.le_refl _) ?_
  intro w2 h2' g2
  have z2 := made_zeros h2' 0
  have k2 : Below W.heap.size W w2 := (Below.refl _ _).grown g2 (Nat.le_refl _) (by simp)
  have T2 : Turn S W w2 := Turn.of_below S k2
  have c2 := T2.cell hBx HB.out
  have d2 := k2.cell (p := ⟨b0, off0 + 0, none⟩) (cell_lt ck0)
  rw [ck0, Nat.add_zero] at d2
  rw [← HZ.out] at z2 k2 ⊢
  have Z2 := hide (show ∃ y : Nat → Value, Blk w2 z 5 z ((List.range k).map y) from ⟨fun j => .int .u8 (((fun _ _ => G.zero : Mat) 0 j).n : Int), z2⟩)
  have J2 := hide (HStep.out 0 W w2 h0 k2)
  have TT2 := hide T2
  clear h2' g2 z2 k2 T2 hj hy0 hy1 hy2 HJ h0 hBx ck0
  gi_wp2
  gi_loopw [14] (fun p wr => ∃ i : Nat, i ≤ N ∧ p = .int .i64 (i : Int) ∧ Hid (J i wr) ∧ Hid (Turn S W wr) ∧ Hid (∃ y : Nat → Value, Blk wr z 5 z ((List.range k).map y))) (fun p _ => N - (intOf p).toNat)
  case atStart => exact ⟨0, Nat.zero_le _, rfl, J2, TT2, Z2⟩
  case round =>
    obtain ⟨i, hi, rfl, hJi, hTi, hZi⟩ := hrel
    have hbx := hTi.out.cell HBX.out HB.out
    by_cases hlt : i < N
    · obtain ⟨y, hy⟩ := hZi.out
      have hy := hide hy
      clear hZi
      gi_wp2
      gi_loopw [19] (fun p wr => ∃ t : Nat, t ≤ k ∧ p = .int .i64 (t : Int) ∧ Hid (J i wr) ∧ Hid (Turn S W wr) ∧ Hid (Blk wr z 5 z (colP D k i t y))) (fun p _ => k - (intOf p).toNat)
      case atStart => exact ⟨0, Nat.zero_le _, rfl, hJi, hTi, hide (by rw [colP_none]; exact hy.out)⟩
      case round =>
        obtain ⟨q, hq, rfl, hJq, hTq, hZq⟩ := hrel
        by_cases hql : q < k
        · obtain ⟨b', off', A', c', e1, ck, ib, l1, m1⟩ := (HIs.out _ hTq.out).at_ q (by rw [HSh.out.high]; exact hql)
          cases e1
          have lq := HSh.out.len_at q hql
          rw [lq] at ck ib l1
          have hmem := mem_getD (xss := D) (k := q) (by rw [HSh.out.high]; exact hql)
          obtain ⟨b2, off2, rfl, cn, -⟩ := at_place ib.rd lq (HSh.out.byte _ hmem) i hlt
          have cv : wr.cell? ⟨z, q, none⟩ = some (y q) := by rw [hZq.out.cell, colP_at D y hql]
          have fz := hZq.out.frozen q
          have ST := hide (hZq.out.stored q (numV D q i))
          have SJ := hide (HStep.out i wr (wr.setCell ⟨z, q, none⟩ (numV D q i)) hJq.out ((Below.refl z wr).setCell (p := ⟨z, q, none⟩) (Nat.le_refl _) (numV D q i)))
          have SU := hide (Turn.low (z := z) hTq.out ((Below.refl z wr).setCell (p := ⟨z, q, none⟩) (Nat.le_refl _) (numV D q i)) (Nat.le_of_eq HZ.out.symm))
          rw [colP_set] at ST
          have ev : numV D q i = .int .u8 (((D.getD q []).getD i 0 : Nat) : Int) := rfl
          rw [ev] at ST SJ SU
          obtain ⟨x, hx⟩ : ∃ x, x = (D.getD q []).getD i 0 := ⟨_, rfl⟩
          rw [← hx] at ST SJ SU cn
          clear hZq hJq hTq ib hmem ev hx lq
          gi_wp2
          go_roundw
          case rel => exact ⟨q + 1, by omega, by go_num, SJ, SU, ST⟩
          case measure => simp [intOf]; omega
        · obtain rfl : q = k := by omega
          have hRr : colR D q z i #[.int .i64 (i : Int), .slice (some ⟨z, 0, none⟩) q q] wr := ⟨z, rfl, by rw [← colP_done D q i y]; exact hZq.out⟩
          obtain ⟨fn, tmps, assign, body, hyy, hR⟩ := HY.out i _ wr hlt hJq.out hRr
          have ZC := hide hRr
          clear hRr
          gi_wp2
          refine hR.mono ?_
          rintro e W3 (⟨rfl, hJ3, hk3⟩ | ⟨rfl, hJx3⟩)
          · have J3 := hide hJ3
            have T3 := hide (hTq.out.trans hk3)
            have Z3 : Hid (∃ y : Nat → Value, Blk W3 z 5 z ((List.range q).map y)) := by
              obtain ⟨C, e, hb⟩ := ZC.out
              obtain rfl : C = z := by
                simp at e
                exact e.symm
              exact hide ⟨fun j => numV D j i, hb.turn hk3 (fun h => by have := HS.out _ h; omega)⟩
            clear hJ3 hk3 hJq hTq hZq ZC hy hJi hTi hR hyy
            gi_wp2
            go_roundw
            case rel => exact ⟨i + 1, by omega, by go_num, J3, T3, Z3⟩
            case measure => simp [intOf]; omega
          · gi_wp2
            refine bodyPost_ret (results_none rfl _ _ _) rfl ?_
            exact ⟨⟨_, rfl⟩, .inr ⟨i + 1, by omega, hJx3⟩⟩
    · obtain rfl : i = N := by omega
      gi_wp2
      go_end0
      exact ⟨⟨_, rfl⟩, .inl hJi.out⟩
end Go.Proofs.YtpjocddeiehckaaDoor
namespace Go.Proofs.YtpjocddeiehckaaDoor
open Go.RowKit
attribute [local go_sem] Oper.semAt_some
theorem sdot_any (A B : Option Addr) (n c d : Nat) (xs ys : List Nat) (w : World) (hA : Rd w A xs) (hB : Rd w B ys) (hn : xs.length = n) (hm : ys.length = n) (hb : ∀ x ∈ xs, x < 256) (hc : ∀ y ∈ ys, y < 256) (h3 : n ≤ 1000000) :
    Calls Tryd.prog 42 #[.slice A n c, .slice B n d] w fun e w' => e = .returned (.int .u8 (dotS xs ys n : Nat)) ∧ w = w' := by
  have H := hide (dot_any A B n c d xs ys w hA hB hn hm hb hc h3)
  clear hA hB hn hm hb hc h3
  go_enter Tryd.func42, Tryd.ntmps42
  go_wp2_with fail
  refine H.out.mono ?_
  rintro e w1 ⟨rfl, rfl⟩
  go_wp2_with fail
  go_ret
  exact ⟨rfl, rfl⟩
def colN (D : ML) (k i : Nat) : List Nat := (List.range k).map fun j => (D.getD j []).getD i 0
theorem colC_nums (D : ML) (k i : Nat) : colC D k i = (colN D k i).map fun x : Nat => Value.int .u8 (x : Int) := by
  unfold colC colN
  rw [List.map_map]
  rfl
theorem colN_turn {D : ML} {k N i : Nat} (h : Shape D k N) (hi : i < N) : colN D k i = (laid N k (turn (en D))).getD i [] := by
  rw [laid_row _ hi]
  exact List.map_congr_left (fun j hj => h.num j i (List.mem_range.1 hj))
theorem colN_low {D : ML} {k N : Nat} (h : Shape D k N) (i : Nat) : ∀ x ∈ colN D k i, x < 256 := by
  intro x hx
  obtain ⟨j, hj, rfl⟩ := List.mem_map.1 hx
  have hj := List.mem_range.1 hj
  exact getD_lt (h.byte _ (mem_getD (by rw [h.high]; exact hj))) i
theorem dot_col {V D : ML} {m k N : Nat} (hV : Shape V m k) (hD : Shape D k N) (a i : Nat) (ha : a < m) (hi : i < N) : dotS (V.getD a []) (colN D k i) k = (mm k (en V) (en D) a i).n := by
  rw [colN_turn hD hi]
  exact dot_mm D hV a i ha hi
theorem col_rd {A : World} {z k i C : Nat} {D : ML} (h : Blk A z 5 C (colC D k i)) (hk : k ≤ 64) : Rd A (some ⟨C, 0, none⟩) (colN D k i) := by
  rw [colC_nums] at h
  have := blk_own h (n := k) (by simp [colN]) (by omega)
  exact this.isB.rd
theorem Grid.put {w : World} {B g n m : Nat} {R : Nat → Nat} {f : Mat} (h : Grid w B g n m R f) {l : Nat} {r : Loop} (hl : w.heap[l]? = some (.loop r)) (o : Obj) : Grid (w.putObj l o) B g n m R f := ⟨h.outer.put hl o, fun i hi => (h.row i hi).put hl o, h.apart⟩
theorem Grid.putD {w : World} {B g n m : Nat} {R : Nat → Nat} {f : Mat} (h : Grid w B g n m R f) {l : Nat} {r : Option (List Deferred)} (hl : w.heap[l]? = some (.deferred r)) (o : Obj) : Grid (w.putObj l o) B g n m R f := ⟨h.outer.putD hl o, fun i hi => (h.row i hi).putD hl o, h.apart⟩
theorem Grid.low {w w' : World} {B g n m z : Nat} {R : Nat → Nat} {f : Mat} (h : Grid w B g n m R f) (hb : Below z w w') (hg : g < z) (hR : ∀ i, i < n → R i < z) : Grid w' B g n m R f := ⟨h.outer.low hb hg, fun i hi => (h.row i hi).low hb (hR i hi), h.apart⟩
theorem below_drewN_ {w w' : World} {B : Nat} (h : Below B w.drew w') : Below B w w' := ⟨h.os, h.tape, h.output, h.size, h.block⟩
theorem cell_new_at (w : World) (v : Value) (t : TypeId) : (w.alloc (.cells #[v] t)).cell? ⟨w.heap.size, 0, none⟩ = some v := by simp
set_option maxRecDepth 100000 in
set_option maxHeartbeats 6400000 in
theorem made_any (AW AD : Option Addr) (m cw k cd N : Nat) (V D : ML) (w : World) (hW : IsM w AW V) (sW : Shape V m k) (hD : IsM w AD D) (sD : Shape D k N) (hm : m ≤ 14) (hk1 : 1 ≤ k) (hk : k ≤ 14) (hN : N ≤ 1000000) :
    Calls Tryd.prog 24 #[.slice AW m cw, .slice AD k cd] w fun e w' => ∃ g, e = .returned (.slice (some ⟨g, 0, none⟩) m m) ∧ OwnMt w' w.heap.size (.slice (some ⟨g, 0, none⟩) m m) (laid m N (mm k (en V) (en D))) ∧ Below w.heap.size w w' := by
  obtain ⟨i0, hi, hz0, hz1, hz2⟩ := info_parts Tryd.info_rows
  obtain ⟨i1, hj, hy0, hy1, hy2⟩ := info_parts Tryd.info_u8'
  have HJ := hide (And.intro hj (And.intro hy0 (And.intro hy1 hy2)))
  have HW := hide hW
  have HD := hide hD
  have SW := hide sW
  have SD := hide sD
  clear hj hy0 hy1 hy2 hW hD sW sD
  refine calls_marks Tryd.func24 rfl ?_
  simp only [Tryd.ntmps24, List.size_toArray, List.length_cons, List.length_nil, Nat.reduceAdd, Nat.reduceSub, Array.replicate_succ, Array.replicate_zero, List.push_toArray, List.append_toArray, List.nil_append, List.cons_append]
  go_wp2_with (at_make; refine halt ?_)
  refine ⟨?_⟩
  obtain ⟨B, hB⟩ : ∃ B, B = w.heap.size := ⟨_, rfl⟩
  refine wpList_make_full _ rfl (.tmp 12) (.tmp 12) 22 rfl B 34 i0 (.slice none 0 0) 1 Tryd.underlying22 hi hz0 hz1 .i64 .i64 m m m rfl rfl rfl rfl (by rw [hz2]; omega) (by unfold maxLen; omega) (by simp [hB]) ?_
  intro w2 h2' g2
  have o2 := made_nils h2'
  have b1 : Below (w.alloc (.cells #[.slice AW m cw] 22)).heap.size (w.alloc (.cells #[.slice AW m cw] 22)) w2 := (Below.refl _ _).grown g2 (Nat.le_refl _) (by simp)
  have b2 : Below w.heap.size w w2 := (below_alloc w _).trans (b1.mono (by simp))
  have cb2 : w2.cell? ⟨w.heap.size, 0, none⟩ = some (.slice AW m cw) := (b1.cell (p := ⟨w.heap.size, 0, none⟩) (by simp)).trans (cell_new_at w _ _)
  rw [← hB] at b2 cb2 ⊢
  obtain ⟨g, hg⟩ : ∃ g, g = (w.alloc (.cells #[.slice AW m cw] 22)).heap.size := ⟨_, rfl⟩
  rw [← hg] at o2 ⊢
  have hgB : B < g := by rw [hg, hB]; simp
  have hg2 : g < w2.heap.size := o2.lt
  clear h2' g2 hi hz0 hz1 hz2 i0 b1 hg
  obtain ⟨B2, hB2⟩ : ∃ B2, B2 = w2.heap.size := ⟨_, rfl⟩
  have O2 := hide o2
  have K2 := hide b2
  have HB2 := hide hB2
  have HBw := hide hB
  clear o2 b2 hB
  go_wp2_with fail
  rw [← hB2]
  obtain ⟨W3, hW3⟩ : ∃ W3, W3 = w2.alloc (.cells #[.slice (some ⟨g, 0, none⟩) m m] 22) := ⟨_, rfl⟩
  have cl3 : W3.cell? ⟨B2, 0, none⟩ = some (.slice (some ⟨g, 0, none⟩) m m) := by rw [hW3, hB2]; exact cell_new_at _ _ _
  have a3 : Below w2.heap.size w2 W3 := by rw [hW3]; exact below_alloc _ _
  have cw3 := (a3.cell (p := ⟨B, 0, none⟩) (cell_lt cb2)).trans cb2
  have o3 := O2.out.keep a3
  have s3 : w2.heap.size < W3.heap.size := by rw [hW3]; simp
  have k3 : Below B w W3 := K2.out.trans (a3.mono (by have := K2.out.size; rw [HBw.out]; exact this))
  rw [← hW3]
  have CL3 := hide cl3
  have CW3 := hide cw3
  have O3 := hide o3
  have K3 := hide k3
  have HG2 := hide (show g < B2 ∧ B < g ∧ B2 < W3.heap.size from ⟨by omega, hgB, by omega⟩)
  have neB : ¬ B2 = g := by omega
  have neW : ¬ B = g := by omega
  clear cl3 cw3 o3 k3 hW3 a3 cb2 O2 K2 HB2 hB2 s3 hg2 hgB
  go_loopw [16] (fun i wr => ∃ q : Nat, q ≤ m ∧ i = .int .i64 (q : Int) ∧ Hid (∃ R, Begun wr B g m N q R ∧ ∀ j, j < q → W3.heap.size ≤ R j) ∧ Hid (Turn (fun k => k = g) W3 wr)) (fun i _ => m - (intOf i).toNat)
  case atStart =>
    refine ⟨0, Nat.zero_le _, rfl, hide ⟨fun _ => 0, ⟨?_, fun i hi => absurd hi (Nat.not_lt_zero i), fun i j hi => absurd hi (Nat.not_lt_zero i)⟩, fun j h => absurd h (Nat.not_lt_zero j)⟩, hide (Turn.refl _ _)⟩
    have e : ((List.range m).map fun i => if i < 0 then rowV 0 N else .slice none 0 0) = List.replicate m (.slice none 0 0) := by
      apply List.ext_getElem
      · simp
      · intro i h1 h2
        simp
    rw [e]
    exact O3.out
  case round =>
    obtain ⟨q, hq, rfl, hbeg, htn⟩ := hrel
    have kb : Below B w wr := K3.out.trans (htn.out.below (by have := HG2.out; omega) (fun k e => by have := HG2.out; omega))
    by_cases hlt : q < m
    · obtain ⟨b0, off0, A0, c0, rfl, ck, -, -, -⟩ := (HD.out.below (by rw [← HBw.out]; exact kb)).at_ 0 (by rw [SD.out.high]; omega)
      rw [SD.out.len_at 0 (by omega), Nat.add_zero] at ck
      have cl := htn.out.cell CL3.out neB
      have hqi : (q : Int) < (m : Int) := by omega
      have hk0 : 0 < k := hk1
      have hm' : (m : Int) ≤ 14 := by omega
      go_wp2_with fail
      refine Ways.start (fun W' => W'.cell? ⟨B2, 0, none⟩ = some (.slice (some ⟨g, 0, none⟩) m m) ∧ W'.cell? ⟨b0, off0, none⟩ = some (.slice A0 N c0)) 8 9 #[false, false, false, false, false, false, false, false, false] (by kernel_rfl) (by kernel_rfl) (by kernel_rfl) ?_
      have hHeld : wr.drew.cell? ⟨B2, 0, none⟩ = some (.slice (some ⟨g, 0, none⟩) m m) ∧ wr.drew.cell? ⟨b0, off0, none⟩ = some (.slice A0 N c0) := ⟨cl, ck⟩
      refine' Ways.take (i := 0) (oi := ⟨_, _, _, _, _, _⟩) (v := _) rfl (by kernel_rfl) (by kernel_rfl) (by kernel_rfl) (by kernel_rfl) (fun _ _ _ h => h) hHeld (Or.inl ⟨rfl, ?_⟩) ?_
      rotate_left
      · (intro W hW; (try dsimp only at hW); go_simp; (try with_reducible rfl))
      try simp only [Act.put, List.setIfInBounds_toArray, List.set_cons_zero, List.set_cons_succ]
      refine' Ways.take (i := 1) (oi := ⟨_, _, _, _, _, _⟩) (v := _) rfl (by kernel_rfl) (by kernel_rfl) (by kernel_rfl) (by kernel_rfl) (fun _ _ _ h => h) hHeld (Or.inl ⟨rfl, ?_⟩) ?_
      rotate_left
      · (intro W hW; (try dsimp only at hW); go_simp; (try with_reducible rfl))
      try simp only [Act.put, List.setIfInBounds_toArray, List.set_cons_zero, List.set_cons_succ]
      refine' Ways.take (i := 2) (oi := ⟨_, _, _, _, _, _⟩) (v := _) rfl (by kernel_rfl) (by kernel_rfl) (by kernel_rfl) (by kernel_rfl) (fun _ _ _ h => h) hHeld (Or.inl ⟨rfl, ?_⟩) ?_
      rotate_left
      · (intro W hW; (try dsimp only at hW); go_simp; (try with_reducible rfl))
      try simp only [Act.put, List.setIfInBounds_toArray, List.set_cons_zero, List.set_cons_succ]
      refine' Ways.take (i := 3) (oi := ⟨_, _, _, _, _, _⟩) (v := _) rfl (by kernel_rfl) (by kernel_rfl) (by kernel_rfl) (by kernel_rfl) (fun _ _ _ h => h) hHeld (Or.inl ⟨rfl, ?_⟩) ?_
      rotate_left
      · (intro W hW; (try dsimp only at hW); go_simp; (try with_reducible rfl))
      try simp only [Act.put, List.setIfInBounds_toArray, List.set_cons_zero, List.set_cons_succ]
      refine' Ways.take (i := 4) (oi := ⟨_, _, _, _, _, _⟩) (v := _) rfl (by kernel_rfl) (by kernel_rfl) (by kernel_rfl) (by kernel_rfl) (fun _ _ _ h => h) hHeld (Or.inl ⟨rfl, ?_⟩) ?_
      rotate_left
      · (intro W hW; (try dsimp only at hW); go_simp; (try with_reducible rfl))
      try simp only [Act.put, List.setIfInBounds_toArray, List.set_cons_zero, List.set_cons_succ]
      refine' Ways.take (i := 5) (oi := ⟨_, _, _, _, _, _⟩) (v := _) rfl (by kernel_rfl) (by kernel_rfl) (by kernel_rfl) (by kernel_rfl) (fun _ _ _ h => h) hHeld (Or.inl ⟨rfl, ?_⟩) ?_
      rotate_left
      · (intro W hW; (try dsimp only at hW); go_simp; (try with_reducible rfl))
      try simp only [Act.put, List.setIfInBounds_toArray, List.set_cons_zero, List.set_cons_succ]
      obtain ⟨hj, hy0, hy1, hy2⟩ := HJ.out
      refine Ways.one (i := 6) (by kernel_rfl) rfl (fun K hK => ?_)
      refine step_make rfl (.tmp 24) (.tmp 24) 34 rfl wr.heap.size 5 i1 (.int .u8 0) 1 Tryd.underlying34 hj hy0 hy1 .i64 .i64 N rfl rfl (by rw [hy2]; omega) (by unfold maxLen; omega) (Nat.le_refl _) ?_
      intro w4 h4 g4
      clear hj hy0 hy1 hy2
      obtain ⟨R, hR, hRn⟩ := hbeg.out
      have z4 := made_zeros h4 q
      have k4 : Below wr.heap.size wr w4 := below_drewN_ (((Below.refl _ _).grown g4 (Nat.le_refl _) (by simp)))
      have hwr : W3.heap.size ≤ wr.heap.size := htn.out.size
      have hBw : B ≤ wr.heap.size := by have := HG2.out; omega
      have nx := hR.next hlt (z4.more (show B ≤ wr.drew.heap.size from hBw)) k4 (Nat.le_refl _)
      have f4 := (hR.outer.keep k4).frozen q
      have c4 : w4.cell? ⟨g, q, none⟩ = some (.slice none 0 0) := by
        rw [(hR.outer.keep k4).cell]
        simp [hlt]
      have x1 := (k4.cell (p := ⟨B2, 0, none⟩) (cell_lt cl)).trans cl
      have x2 := (k4.cell (p := ⟨b0, off0, none⟩) (cell_lt ck)).trans ck
      have NX := hide (show ∃ R, Begun (w4.setCell ⟨g, q, none⟩ (.slice (some ⟨wr.heap.size, 0, none⟩) N N)) B g m N (q + 1) R ∧ ∀ j, j < q + 1 → W3.heap.size ≤ R j from ⟨_, nx, fun j hj => by
        by_cases e : j = q
        · subst e; rw [if_pos rfl]; exact hwr
        · rw [if_neg e]; exact hRn j (by omega)⟩)
      have TN := hide (show Turn (fun k => k = g) W3 (w4.setCell ⟨g, q, none⟩ (.slice (some ⟨wr.heap.size, 0, none⟩) N N)) from (htn.out.trans (Turn.of_below _ k4)).trans ((Turn.of_grown (grown_set w4 g q _)).mono (fun i e => by simpa using e)))
      refine hK.out _ _ ⟨x1, x2⟩ ?_
      clear hK hHeld h4 g4 z4 k4 nx hR hRn hbeg htn kb cl ck
      try simp only [Act.put, List.setIfInBounds_toArray, List.set_cons_zero, List.set_cons_succ]
      have hHeld : w4.cell? ⟨B2, 0, none⟩ = some (.slice (some ⟨g, 0, none⟩) m m) ∧ w4.cell? ⟨b0, off0, none⟩ = some (.slice A0 N c0) := ⟨x1, x2⟩
      refine' Ways.take (i := 7) (oi := ⟨_, _, _, _, _, _⟩) (v := _) rfl (by kernel_rfl) (by kernel_rfl) (by kernel_rfl) (by kernel_rfl) (fun _ _ _ h => h) hHeld (Or.inl ⟨rfl, ?_⟩) ?_
      rotate_left
      · (intro W hW; (try dsimp only at hW); go_simp; (try with_reducible rfl))
      try simp only [Act.put, List.setIfInBounds_toArray, List.set_cons_zero, List.set_cons_succ]
      refine Ways.last (by kernel_rfl) rfl (by kernel_rfl) (fun K hK => ?_)
      go_simp
      refine hK.out _ _ ?_
      clear hK hHeld x1 x2
      obtain ⟨w5, hw5⟩ : ∃ w5, w5 = w4.setCell ⟨g, q, none⟩ (.slice (some ⟨wr.heap.size, 0, none⟩) N N) := ⟨_, rfl⟩
      rw [← hw5] at NX TN
      try rw [← hw5]
      clear hw5 c4 f4
      go_wp2_with fail
      go_roundw
      case rel => exact ⟨q + 1, by omega, by go_num, NX, TN⟩
      case measure => simp [intOf]; omega
    · obtain rfl : q = m := by omega
      obtain ⟨R, hR, hRn⟩ := hbeg.out
      have gd := hR.done
      have bx5 := below_alloc wr (.cells #[.slice AD k cd] 22)
      have gd5 := gd.keep bx5
      have cl5 := (bx5.cell (p := ⟨B2, 0, none⟩) (cell_lt (htn.out.cell CL3.out neB))).trans (htn.out.cell CL3.out neB)
      have cw5 := (bx5.cell (p := ⟨B, 0, none⟩) (cell_lt (htn.out.cell CW3.out neW))).trans (htn.out.cell CW3.out neW)
      have cx5 := cell_new_at wr (.slice AD k cd) 22
      have kb5 : Below B w (wr.alloc (.cells #[.slice AD k cd] 22)) := kb.trans (bx5.mono (by have := HG2.out; have := htn.out.size; omega))
      have hRx : ∀ j, j < q → W3.heap.size ≤ R j ∧ R j < wr.heap.size := fun j hj => ⟨hRn j hj, (gd.row j hj).lt⟩
      have hgx : g < wr.heap.size := gd.outer.lt
      have hs5 : (wr.alloc (.cells #[.slice AD k cd] 22)).heap.size = wr.heap.size + 1 := by simp
      have HC := hide (columns_any AD k cd wr)
      obtain ⟨W5, hW5⟩ : ∃ W5, W5 = wr.alloc (.cells #[.slice AD k cd] 22) := ⟨_, rfl⟩
      rw [← hW5] at HC gd5 cl5 cw5 cx5 kb5 hs5
      have G5 := hide gd5
      have CL5 := hide cl5
      have CW5 := hide cw5
      have CX5 := hide cx5
      have K5 := hide kb5
      have HRX := hide hRx
      have HGX := hide hgx
      have HS5 := hide hs5
      clear hbeg kb gd hR hRn bx5 gd5 cl5 cw5 cx5 kb5 hRx hgx hs5 hW5 htn CL3 CW3 O3 K3
      go_wp2_with fail
      refine HC.out.mono ?_
      rintro e W6 ⟨rfl, rfl⟩
      clear HC
      go_wp2_with fail
      have hBm : B ≤ W6.heap.size := by have := K5.out.size; rw [HBw.out]; exact this
      refine wp_range (gf := 58) (pb := #[]) (lb := #[.pointer (some ⟨wr.heap.size, 0, none⟩)]) rfl (enters_of Tryd.func58 (by kernel_rfl) rfl)
        (R := colR D k (W6.heap.size + 2)) (St := Below (W6.heap.size + 2)) (S := fun j => ∃ a, a < q ∧ j = R a) (N := N) ?seq ?sd ?sl ?st ?ps ?r
        (fun i A => Turn (fun j => ∃ a, a < q ∧ j = R a) W6 A ∧ ∃ f, Grid A B g q N R f ∧ ∀ a b, a < q → f a b = if b < i then mm k (en V) (en D) a b else G.zero)
        (fun _ _ _ => False) ?i ?ix ?il ?ixl ?i0 ?round ?done ?stop
      case seq =>
        intro r
        have hs1 : ((W6.alloc (.deferred (some []))).alloc (.loop r)).heap.size = W6.heap.size + 2 := by simp
        have b61 : Below W6.heap.size W6 ((W6.alloc (.deferred (some []))).alloc (.loop r)) := (below_alloc _ _).trans ((below_alloc _ _).mono (by simp))
        have := cols_seq AD k cd N wr.heap.size D ((W6.alloc (.deferred (some []))).alloc (.loop r)) (fun j => (∃ a, a < q ∧ j = R a) ∨ j = W6.heap.size + 1) hk1 (by omega) hN SD.out
          ((b61.cell (p := ⟨wr.heap.size, 0, none⟩) (by rw [HS5.out]; simp)).trans CX5.out)
          (fun h => by
            rcases h with ⟨a, ha, e⟩ | e
            · have := (HRX.out a ha).2; omega
            · have := HS5.out; omega)
          (fun j h => by
            rw [hs1]
            rcases h with ⟨a, ha, e⟩ | e
            · have := (HRX.out a ha).2; have := HS5.out; omega
            · omega)
          (fun A hA => HD.out.below (by
            rw [← HBw.out]
            exact (K5.out.trans (b61.mono hBm)).trans (hA.below (by rw [hs1]; omega) (fun j h => by
              rcases h with ⟨a, ha, e⟩ | e
              · have := (HRX.out a ha).1; have := HG2.out; omega
              · omega))))
        rw [hs1] at this
        exact this
      case sd => rintro ⟨a, ha, e⟩; have := (HRX.out a ha).2; have := HS5.out; omega
      case sl => rintro ⟨a, ha, e⟩; have := (HRX.out a ha).2; have := HS5.out; omega
      case st => exact fun A B' j o h hj ho => (h.block j hj).trans ho
      case ps => rintro i vs A ⟨C, rfl, _⟩; rfl
      case r => rintro i vs A r r' ⟨C, rfl, hC⟩ hl; exact ⟨C, rfl, hC.put hl _⟩
      case i =>
        rintro i A B' ⟨hT, f, hG, hf⟩ hb
        exact ⟨hT.low hb (by omega), f, hG.low hb (by have := HGX.out; have := HS5.out; omega) (fun j hj => by have := (HRX.out j hj).2; have := HS5.out; omega), hf⟩
      case ix => exact fun _ _ _ _ h _ => h
      case il =>
        rintro i A r r' ⟨hT, f, hG, hf⟩ hl
        exact ⟨hT.putL (by omega) _, f, hG.put hl _, hf⟩
      case ixl => exact fun _ _ _ _ _ h _ => h
      case i0 =>
        intro r
        have b61 : Below W6.heap.size W6 ((W6.alloc (.deferred (some []))).alloc (.loop r)) := (below_alloc _ _).trans ((below_alloc _ _).mono (by simp))
        exact ⟨Turn.of_below _ b61, fun _ _ => G.zero, G5.out.keep b61, fun a b _ => (if_neg (Nat.not_lt_zero b)).symm⟩
      case round =>
        rintro l i vs W0 W hi ⟨hT, hG⟩ ⟨C, rfl, hC⟩ hlow
        have HT := hide hT
        have HG := hide hG
        have HCC := hide hC
        have lowR := HRX.out
        have nB2 : ¬ (∃ a, a < q ∧ B2 = R a) := fun ⟨a, ha, e⟩ => by have := (HRX.out a ha).1; have := HG2.out; omega
        have nB : ¬ (∃ a, a < q ∧ B = R a) := fun ⟨a, ha, e⟩ => by have := (HRX.out a ha).1; have := HG2.out; omega
        have nC : ¬ (∃ a, a < q ∧ C = R a) := fun ⟨a, ha, e⟩ => by have := (HRX.out a ha).2; have := HS5.out; have := hC.1; omega
        have NB := hide (And.intro nB2 (And.intro nB nC))
        have cl := hT.cell CL5.out nB2
        clear hT hG hC lowR nB2 nB nC
        gi_wp2
        refine ⟨trivial, ?_⟩
        gi_wp2
        gi_loopw [34] (fun p wr => ∃ t : Nat, t ≤ q ∧ p = .int .i64 (t : Int) ∧ Hid (Turn (fun j => ∃ a, a < q ∧ j = R a) W wr) ∧ Hid (∃ f, Grid wr B g q N R f ∧ ∀ a b, a < q → f a b = if b < i ∨ (b = i ∧ a < t) then mm k (en V) (en D) a b else G.zero)) (fun p _ => q - (intOf p).toNat)
        case atStart =>
          obtain ⟨f, hf, ef⟩ := HG.out
          refine ⟨0, Nat.zero_le _, rfl, hide (Turn.refl _ _), hide ⟨f, hf, fun a b ha => ?_⟩⟩
          rw [ef a b ha]
          by_cases e : b < i
          · rw [if_pos e, if_pos (.inl e)]
          · rw [if_neg e, if_neg (fun h => by rcases h with h | h <;> omega)]
        case round =>
          obtain ⟨t, ht, rfl, htn, hgr⟩ := hrel
          by_cases hlt : t < q
          · obtain ⟨f, gf, ef⟩ := hgr.out
            have TT := HT.out.trans htn.out
            have c1 := gf.cell t hlt
            have c2 := gf.num t i hlt hi
            have c3 := gf.frozen t i hlt
            have cw := TT.cell CW5.out NB.out.2.1
            have kb : Below B w wr := K5.out.trans (TT.below hBm (fun j ⟨a, ha, e⟩ => by have := (HRX.out a ha).1; have := HG2.out; omega))
            obtain ⟨bV, oV, Ar, cr, rfl, ck, ib, l1, m1⟩ := (HW.out.below (by rw [← HBw.out]; exact kb)).at_ t (by rw [SW.out.high]; exact hlt)
            have lt := SW.out.len_at t hlt
            rw [lt] at ck ib l1
            have hmem := mem_getD (xss := V) (k := t) (by rw [SW.out.high]; exact hlt)
            have HDOT := hide (sdot_any Ar (some ⟨C, 0, none⟩) k cr k (V.getD t []) (colN D k i) wr ib.rd (col_rd (HCC.out.turn htn.out NB.out.2.2) (by omega)) lt (by simp [colN]) (SW.out.byte _ hmem) (colN_low SD.out i) (by omega))
            rw [dot_col SW.out SD.out t i hlt hi] at HDOT
            have st := gf.set t i hlt (mm k (en V) (en D) t i)
            have NX := hide (show ∃ f, Grid (wr.setCell ⟨R t, i, none⟩ (.int .u8 ((mm k (en V) (en D) t i).n : Int))) B g q N R f ∧ ∀ a b, a < q → f a b = if b < i ∨ (b = i ∧ a < t + 1) then mm k (en V) (en D) a b else G.zero from ⟨_, st, fun a b ha => by
              by_cases e1 : a = t
              · subst e1
                by_cases e2 : b = i
                · subst e2; rw [upd_at, if_pos (.inr ⟨rfl, by omega⟩)]
                · rw [upd_col e2, ef a b ha]
                  by_cases e3 : b < i
                  · rw [if_pos (.inl e3), if_pos (.inl e3)]
                  · rw [if_neg (fun h => by rcases h with h | h <;> omega), if_neg (fun h => by rcases h with h | h <;> omega)]
              · rw [upd_row e1, ef a b ha]
                by_cases e3 : b < i ∨ (b = i ∧ a < t)
                · rw [if_pos e3, if_pos (e3.imp id (fun h => ⟨h.1, by omega⟩))]
                · rw [if_neg e3, if_neg (fun h => e3 (h.imp id (fun h => ⟨h.1, by omega⟩)))]⟩)
            have TN := hide (show Turn (fun j => ∃ a, a < q ∧ j = R a) W (wr.setCell ⟨R t, i, none⟩ (.int .u8 ((mm k (en V) (en D) t i).n : Int))) from htn.out.trans ((Turn.of_grown (grown_set wr (R t) i _)).mono (fun j e => ⟨t, hlt, by simpa using e⟩)))
            obtain ⟨v, hv⟩ : ∃ v, v = (mm k (en V) (en D) t i).n := ⟨_, rfl⟩
            rw [← hv] at HDOT NX TN
            have htq : (t : Int) < (q : Int) := by omega
            have hiN : (i : Int) < (N : Int) := by omega
            clear hv st gf ef hgr htn TT kb ib hmem lt
            gi_wp2
            refine ⟨trivial, (CallsIn.inRound l (callsIn_wide.2 HDOT.out)).mono ?_⟩
            rintro e w' ⟨rfl, rfl⟩
            gi_wp2
            go_roundw
            case rel => exact ⟨t + 1, by omega, by go_num, TN, NX⟩
            case measure => simp [intOf]; omega
          · obtain rfl : t = q := by omega
            gi_wp2
            refine ⟨htn.out, HT.out.trans htn.out, ?_⟩
            obtain ⟨f, gf, ef⟩ := hgr.out
            refine ⟨f, gf, fun a b ha => ?_⟩
            rw [ef a b ha]
            by_cases e : b < i + 1
            · rw [if_pos e, if_pos (show b < i ∨ (b = i ∧ a < t) by omega)]
            · rw [if_neg e, if_neg (fun h => by rcases h with h | h <;> omega)]
      case done =>
        rintro W ⟨hT, f, hG, hf⟩ hK
        have nB2 : ¬ (∃ a, a < q ∧ B2 = R a) := fun ⟨a, ha, e⟩ => by have := (HRX.out a ha).1; have := HG2.out; omega
        have cl := hT.cell CL5.out nB2
        have nD : W6.heap.size ≥ B := hBm
        have kb : Below B w W := K5.out.trans (hT.below hBm (fun j ⟨a, ha, e⟩ => by have := (HRX.out a ha).1; have := HG2.out; omega))
        have KB := hide kb
        have HG := hide hG
        have HF := hide hf
        clear hT kb hG hf
        go_wp2_with fail
        refine ⟨by simp, .inl ⟨_, _, rfl, run_takeDeferred hK, ?_⟩⟩
        refine ⟨_, results_tmp rfl _ _ _, g, rfl, ?_, ?_⟩
        · have := (HG.out.putD hK (.deferred none)).own (by omega) hN
          rw [← HBw.out, ← show laid q N f = laid q N (mm k (en V) (en D)) from laid_congr (fun a ha b hb => by rw [HF.out a b ha, if_pos hb])]
          exact this
        · rw [← HBw.out]
          exact below_put KB.out nD _
      case stop => exact fun _ _ _ _ h _ => h.elim
end Go.Proofs.YtpjocddeiehckaaDoor
namespace Go.Proofs.YtpjocddeiehckaaDoor
open Go.RowKit
theorem IsM.tail {w : World} {A : Option Addr} {xss : ML} (h : IsM w A xss) {b off k : Nat} (e : A = some ⟨b, off, none⟩) (off' : Nat) (ho : k < xss.length → off' = off + k) : IsM w (some ⟨b, off', none⟩) (xss.drop k) := by
  subst e
  obtain ⟨vs, h1, h2⟩ := h
  refine ⟨vs.drop k, fun hne => ?_, ?_⟩
  · have hl : k < vs.length := by
      rcases Nat.lt_or_ge k vs.length with q | q
      · exact q
      · exact absurd (List.drop_of_length_le q) hne
    obtain ⟨b', off0, e, hc⟩ := h1 (by intro q; rw [q] at hl; exact absurd hl (Nat.not_lt_zero k))
    cases e
    refine ⟨b, off', rfl, fun i hi => ?_⟩
    rw [List.length_drop] at hi
    rw [ho (by rw [← h2.1]; exact hl)]
    have := hc (k + i) (by omega)
    rw [← Nat.add_assoc] at this
    rw [this]
    congr 1
    simp [List.getD_eq_getElem?_getD]
  · refine ⟨by rw [List.length_drop, List.length_drop, h2.1], fun i hi => ?_⟩
    rw [List.length_drop] at hi
    have := h2.2 (k + i) (by omega)
    rw [show (vs.drop k).getD i (.slice none 0 0) = vs.getD (k + i) (.slice none 0 0) by simp [List.getD_eq_getElem?_getD], show (xss.drop k).getD i [] = xss.getD (k + i) [] by simp [List.getD_eq_getElem?_getD]]
    exact this
theorem code_tail (k b : Nat) : Shape ((codeL k b).drop k) b k ∧ ∀ i, i < b → ∀ j, j < k → en ((codeL k b).drop k) i j = codeRow k (k + i) j := by
  have hs : Shape (codeL k b) (k + b) k := by unfold codeL; exact laid_shape _ _ _
  refine ⟨⟨by rw [List.length_drop, hs.high]; omega, fun r hr => hs.wide r (List.mem_of_mem_drop hr), fun r hr => hs.byte r (List.mem_of_mem_drop hr)⟩, fun i hi j hj => ?_⟩
  have e : en ((codeL k b).drop k) i j = en (codeL k b) (k + i) j := by
    unfold en
    congr 1
    simp [List.getD_eq_getElem?_getD]
  rw [e]
  unfold codeL
  exact laid_at _ (by omega) hj
theorem laid_drop (n m k : Nat) (f : Mat) : (laid (k + n) m f).drop k = laid n m (fun i j => f (k + i) j) := by
  apply List.ext_getElem
  · simp [laid]
  · intro i h1 h2
    simp [laid]
/-- What made makes of the Code's last rows. -/
theorem made_word (k b N : Nat) (D : ML) : laid b N (mm k (en ((codeL k b).drop k)) (en D)) = (wordL k b N (en D)).drop k := by
  unfold wordL
  rw [laid_drop]
  refine laid_congr (fun i hi j hj => ?_)
  exact gs_congr (fun t ht => by rw [(code_tail k b).2 i hi t ht])
theorem bad_even {D : ML} {m : Int} (h : ¬ even D) : sumsBad D m := by
  refine .inr (.inr (.inr ?_))
  apply Decidable.byContradiction
  intro q
  refine h ⟨(D.getD 0 []).length, fun r hr _ => ?_⟩
  rcases Decidable.em (r.length = (D.getD 0 []).length) with e | e
  · exact e
  · exact absurd ⟨r, hr, .inr e⟩ q
theorem present_all {D : ML} (h : D.length ≤ (present D).length) : ∀ r ∈ D, r ≠ [] := by
  intro r hr e
  obtain ⟨i, hi, rfl⟩ := List.getElem_of_mem hr
  have hl : (present D).length < D.length := by
    have h1 := List.length_filter_lt_length_iff_exists (l := List.range D.length) (p := fun i => !(D.getD i []).isEmpty)
    rw [List.length_range] at h1
    refine h1.2 ⟨i, List.mem_range.2 hi, ?_⟩
    have : D.getD i [] = [] := by simp [hi, e]
    rw [this]
    simp
  omega
theorem present_some {D : ML} (h : (present D).length < D.length) : ∃ r ∈ D, r = [] := by
  apply Decidable.byContradiction
  intro q
  have e : present D = List.range D.length := List.filter_eq_self.2 (fun i hi => by
    have hi := List.mem_range.1 hi
    have hm := mem_getD (xss := D) (k := i) hi
    cases e : D.getD i [] with
    | nil => exact absurd ⟨_, hm, e⟩ q
    | cons a b => rfl)
  rw [e, List.length_range] at h
  omega
theorem OwnMt.cap_ge {w : World} {B n c : Nat} {A : Option Addr} {xss : ML} (h : OwnMt w B (.slice A n c) xss) : n ≤ c ∧ c ≤ 9223372036854775807 ∧ (1 ≤ n → ∃ g, A = some ⟨g, 0, none⟩) := by
  obtain ⟨vs, h1, _⟩ := h
  rcases h1.2 with ⟨q, q2⟩ | ⟨g, cap, cur, q, _, _, h5, h6, h7, _⟩
  · cases q; exact ⟨by omega, by omega, fun h => by omega⟩
  · cases q; exact ⟨by omega, by unfold maxLen at h6; omega, fun _ => ⟨g, rfl⟩⟩
set_option maxHeartbeats 3200000 in
theorem sumsC : SumsC := by
  intro A n c m D w ⟨hA, hn, h15, hb, hl⟩ hm
  have HA := hide hA
  have HN := hide hn
  have HB := hide hb
  have HL := hide hl
  have HC := hide (code_all (n : Int) m w (by omega) (by omega) hm.1 hm.2)
  by_cases hbad : (n : Int) < 1 ∨ m < 0 ∨ 14 < (n : Int) + m
  · have e1 : codeE (n : Int) m = 1 := if_pos hbad
    rw [e1] at HC
    have ANS := hide (show sumsAns D m [] 1 from .inl ⟨rfl, rfl, by
      unfold sumsBad
      rw [hn]
      omega⟩)
    clear hA hn hb hl hm hbad e1
    go_enter Tryd.func13, Tryd.ntmps13
    go_wp2_with fail
    refine HC.out.mono ?_
    rintro e w1 ⟨v, rfl, o1, k1⟩
    go_wp2_with fail
    go_ret2
    exact ⟨_, [], 1, rfl, ⟨none, 0, 0, rfl, rfl, ⟨[], fun h => absurd rfl h, rfl, fun i hi => absurd hi (Nat.not_lt_zero i)⟩, fun _ => rfl, by decide⟩, ANS.out, k1⟩
  · have e1 : codeE (n : Int) m = 0 := if_neg hbad
    have e2 : codeR (n : Int) m = codeL n m.toNat := by unfold codeR; rw [if_neg hbad, Int.toNat_natCast]
    rw [e1, e2] at HC
    obtain ⟨b, rfl⟩ : ∃ b : Nat, m = (b : Int) := ⟨m.toNat, by omega⟩
    rw [Int.toNat_natCast] at HC e2
    have hn1 : 1 ≤ n := by omega
    have h14 : n + b ≤ 14 := by omega
    have hE : ∀ hbd : sumsBad D (b : Int), sumsAns D (b : Int) [] 1 := fun hbd => .inl ⟨rfl, rfl, hbd⟩
    have hOK : (∀ r ∈ D, r ≠ []) → even D → sumsAns D (b : Int) ((wordL n b (D.getD 0 []).length (en D)).drop n) 0 ∧ Shape D n (D.getD 0 []).length := fun hf ⟨N, hN⟩ => by
      have h0 : (D.getD 0 []).length = N := hN _ (mem_getD (by omega)) (hf _ (mem_getD (by omega)))
      refine ⟨.inr ⟨rfl, ?_, by rw [hn, Int.toNat_natCast]⟩, hn, fun r hr => by rw [h0]; exact hN r hr (hf r hr), hb⟩
      rintro (q | q | q | ⟨r, hr, q⟩)
      · omega
      · omega
      · omega
      · rcases q with q | q
        · exact hf r hr q
        · exact q (by rw [h0]; exact hN r hr (hf r hr))
    have HE := hide hE
    have HOK := hide hOK
    have hnil : ∀ W : World, OutM W (.slice none 0 0) [] := fun W => ⟨none, 0, 0, rfl, rfl, ⟨[], fun h => absurd rfl h, rfl, fun i hi => absurd hi (Nat.not_lt_zero i)⟩, fun _ => rfl, by decide⟩
    have HNIL := hide hnil
    clear hA hn hb hl hm hbad e1 e2 hE hOK hnil
    go_enter Tryd.func13, Tryd.ntmps13
    go_wp2_with fail
    refine HC.out.mono ?_
    rintro e w1 ⟨v, rfl, o1, k1⟩
    have O1 := hide o1
    have K1 := hide k1
    have A1 := hide (HA.out.below k1)
    have HP := hide (present_any A n c D w1 A1.out HN.out (by omega))
    obtain ⟨A4, c4, rfl, -, -⟩ := o1.form (n := n + b) (by unfold codeL; rw [laid_len])
    have hcap := O1.out.cap_ge
    clear o1 k1 HC
    go_wp2_with fail
    refine HP.out.mono ?_
    rintro e w2 ⟨v, rfl, hp, rfl⟩
    rcases hp with ⟨x, rfl, hset, hev⟩ | ⟨rfl, hev⟩
    · have HX := hide (count_any x w1 hset.1)
      have hdx := present_digs hset (by rw [HN.out]; omega)
      rw [hdx] at HX
      have HEV := hide hev
      clear hset hev hdx HP
      obtain ⟨p, hp⟩ : ∃ p, p = (present D).length := ⟨_, rfl⟩
      rw [← hp] at HX
      have HP := hide hp
      by_cases hlt : p < n
      · have hli : (p : Int) < (n : Int) := by omega
        clear hp
        go_wp2_with fail
        refine HX.out.mono ?_
        rintro e w2 ⟨rfl, rfl⟩
        go_wp2_with fail
        go_ret2
        refine ⟨_, [], 1, rfl, HNIL.out _, HE.out (.inr (.inr (.inr ?_))), K1.out⟩
        obtain ⟨r, hr, e⟩ := present_some (D := D) (by rw [HN.out]; have := HP.out; omega)
        exact ⟨r, hr, .inl e⟩
      · have hli : ¬ (p : Int) < (n : Int) := by omega
        obtain ⟨hans, hsh⟩ := HOK.out (present_all (by rw [HN.out]; have := HP.out; omega)) HEV.out
        obtain ⟨g, rfl⟩ := hcap.2.2 (by omega)
        have hN1 : (D.getD 0 []).length ≤ 1000000 := Nat.le_trans (HL.out _ (mem_getD (by rw [HN.out]; omega))) (by decide)
        have HM := hide (fun (off' cc : Nat) (ho : n < (codeL n b).length → off' = 0 + n) => made_any (some ⟨g, off', none⟩) A b cc n c (D.getD 0 []).length ((codeL n b).drop n) D w1 (O1.out.isM.1.tail rfl off' ho) (code_tail n b).1 A1.out hsh (by omega) hn1 (by omega) hN1)
        rw [made_word] at HM
        have HANS := hide hans
        have hl0 : (codeL n b).length = n + b := by unfold codeL; rw [laid_len]
        have fin : ∀ (W' : World) (B2 g2 : Nat), OwnMt W' B2 (.slice (some ⟨g2, 0, none⟩) b b) ((wordL n b (D.getD 0 []).length (en D)).drop n) → OutM W' (.slice (some ⟨g2, 0, none⟩) b b) ((wordL n b (D.getD 0 []).length (en D)).drop n) := fun _ _ _ h => ⟨_, _, _, rfl, h.isM.2, h.isM.1, h.nilc, by omega⟩
        have FIN := hide fin
        have hc1 : n + b ≤ c4 := hcap.1
        have hc2 : c4 ≤ 9223372036854775807 := hcap.2.1
        clear hans hsh hN1 hp fin hcap
        by_cases hcn : c4 = n
        · have HM := hide (HM.out 0 0 (by rw [hl0]; omega))
          have hnc : (n : Int) ≤ (c4 : Int) := by omega
          have hb0 : (n : Int) ≤ (n : Int) + (b : Int) := by omega
          clear hl0
          go_wp2_with fail
          refine HX.out.mono ?_
          rintro e w2 ⟨rfl, rfl⟩
          go_wp2_with fail
          refine HM.out.mono ?_
          rintro e w3 ⟨g3, rfl, o3, k3⟩
          have O3 := hide (FIN.out _ _ _ o3)
          have K3 := hide (below_step K1.out k3)
          clear o3 k3 HM
          go_wp2_with fail
          go_ret2
          exact ⟨_, _, 0, rfl, O3.out, HANS.out, K3.out⟩
        · have HM := hide (HM.out n (c4 - n) (fun _ => by omega))
          clear hl0
          go_wp2_with fail
          refine HX.out.mono ?_
          rintro e w2 ⟨rfl, rfl⟩
          go_wp2_with fail
          refine HM.out.mono ?_
          rintro e w3 ⟨g3, rfl, o3, k3⟩
          have O3 := hide (FIN.out _ _ _ o3)
          have K3 := hide (below_step K1.out k3)
          clear o3 k3 HM
          go_wp2_with fail
          go_ret2
          exact ⟨_, _, 0, rfl, O3.out, HANS.out, K3.out⟩
    · clear HP
      go_wp2_with fail
      go_ret2
      exact ⟨_, [], 1, rfl, HNIL.out _, HE.out (bad_even hev), K1.out⟩
end Go.Proofs.YtpjocddeiehckaaDoor
namespace Go.Proofs.YtpjocddeiehckaaDoor
open Go.RowKit
attribute [local go_sem] Oper.semAt_some
/-- What a round is handed. -/
def eachR (x i : Nat) (vs : Array Value) (_ : World) : Prop := vs = #[.int .i64 (((digs x).getD i 0 : Nat) : Int)]
theorem drop_cons {xs r : List Nat} {i t : Nat} (h : xs.drop i = t :: r) : i < xs.length ∧ xs.getD i 0 = t ∧ xs.drop (i + 1) = r := by
  have hl : i < xs.length := by
    rcases Nat.lt_or_ge i xs.length with q | q
    · exact q
    · rw [List.drop_of_length_le q] at h; cases h
  rw [List.drop_eq_getElem_cons hl] at h
  obtain ⟨rfl, rfl⟩ := List.cons.inj h
  exact ⟨hl, by simp [hl], rfl⟩
set_option maxRecDepth 100000 in
set_option maxHeartbeats 1600000 in
theorem each_seq (x : Nat) (W : World) (S : Nat → Prop) (hx : x < 16384) (hT : TabW W) (hS : ¬ S 1) :
    SeqC Tryd.prog 22 #[.int .u64 (x : Int)] #[] (eachR x) (fun A B => B = A) S (digs x).length W := by
  intro l J Jx hJ hJx hY h0
  have HY := hide hY
  have HT := hide hT
  have HS := hide hS
  have H0 := hide h0
  clear hJ hJx hY hT hS h0
  refine callsIn_of_wp Tryd.func22 rfl trivial ?_ rfl
  simp only [Tryd.ntmps22, List.size_toArray, List.length_cons, List.length_nil, Nat.reduceAdd, Nat.reduceSub, Array.replicate_succ, Array.replicate_zero, List.push_toArray, List.append_toArray, List.nil_append, List.cons_append]
  gi_wp2
  gi_loopw [0] (fun p wr => ∃ i y : Nat, i ≤ (digs x).length ∧ p = .int .u64 (y : Int) ∧ y < 16384 ∧ Hid ((digs x).drop i = digs y) ∧ Hid (J i wr) ∧ Hid (Turn S W wr)) (fun p _ => (intOf p).toNat)
  case atStart => exact ⟨0, x, Nat.zero_le _, rfl, hx, hide rfl, H0, hide (Turn.refl _ _)⟩
  case round =>
    obtain ⟨i, y, hi, rfl, hy, hd, hj, ht⟩ := hrel
    by_cases y0 : y = 0
    · have hN : Hid (i = (digs x).length) := hide (by
        have := hd.out
        rw [y0, digs_zero] at this
        have := List.drop_eq_nil_iff.1 this
        omega)
      have f0 : ((y : Int) != 0) = false := by simp; omega
      clear y0
      gi_wp2
      go_end0
      exact ⟨⟨_, rfl⟩, .inl (hN.out ▸ hj.out)⟩
    · have f0 : ((y : Int) != 0) = true := by simp; omega
      have hTw : TabW wr := by
        refine ⟨Nat.lt_of_lt_of_le HT.out.1 ht.out.size, fun j hj => ht.out.cell (HT.out.2 j hj) HS.out⟩
      have HTZ := hide (tz_any y wr hTw hy y0)
      obtain ⟨e1, -, e3, -, -⟩ := lowD_at hy y0
      obtain ⟨t, htt⟩ : ∃ t, t = tzT.getD (tzI y) 0 := ⟨_, rfl⟩
      obtain ⟨y', hy'⟩ : ∃ y', y' = y &&& (y - 1) := ⟨_, rfl⟩
      rw [← htt] at HTZ e1
      have hy1 : y' < y := by
        rw [hy']
        exact Nat.lt_of_le_of_lt Nat.and_le_right (by omega)
      rw [← hy'] at e1 e3
      obtain ⟨q1, q2, q3⟩ := drop_cons (hd.out.trans e1)
      have w1 : IntKind.u64.wrap ((y : Int) - 1) = ((y - 1 : Nat) : Int) := by rw [IntKind.wrap_u64]; omega
      have a1 : bits .and .u64 (y : Int) ((y - 1 : Nat) : Int) = (y' : Int) := by rw [hy']; exact u64_and_nat _ _ (by omega) (by omega)
      obtain ⟨z, hz⟩ : ∃ z, z = y - 1 := ⟨_, rfl⟩
      rw [← hz] at w1 a1
      have hR : eachR x i #[.int .i64 (t : Int)] wr := by unfold eachR; rw [q2]
      obtain ⟨fn, tmps, assign, body, hyy, hRd⟩ := HY.out i _ wr q1 hj.out hR
      have Q1 := hide q1
      have Q3 := hide q3
      have HY1 := hide hy1
      clear y0 hTw e1 htt hy' hz hR q1 q2 q3 hy1
      gi_wp2
      refine ⟨trivial, (callsIn_wide.2 HTZ.out).mono ?_⟩
      rintro e w1 ⟨rfl, rfl⟩
      gi_wp2
      refine hRd.mono ?_
      rintro e W3 (⟨rfl, hJ3, hk3⟩ | ⟨rfl, hJx3⟩)
      · have J3 := hide hJ3
        have T3 := hide (ht.out.trans hk3)
        clear hJ3 hk3 hyy hRd hj ht hd
        gi_wp2
        go_roundw
        case rel => exact ⟨i + 1, y', by have := Q1.out; omega, rfl, e3, Q3, J3, T3⟩
        case measure => have := HY1.out; simp [intOf]; omega
      · gi_wp2
        refine bodyPost_ret (results_none rfl _ _ _) rfl ?_
        exact ⟨⟨_, rfl⟩, .inr ⟨i + 1, by have := Q1.out; omega, hJx3⟩⟩
end Go.Proofs.YtpjocddeiehckaaDoor
namespace Go.Proofs.YtpjocddeiehckaaDoor
open Go.RowKit
/-- All that was cells is what it was. -/
def Cells (A B : World) : Prop := ∀ (k : Nat) (cur : Array Value) (e : TypeId) (fr : Nat × Nat), A.heap[k]? = some (.cells cur e fr) → B.heap[k]? = some (.cells cur e fr)
theorem Cells.put {A : World} {l : Nat} {r : Loop} (hl : A.heap[l]? = some (.loop r)) (o : Obj) : Cells A (A.putObj l o) := fun k cur e fr h => by
  rw [World.putObj_heap_other (fun q => by subst q; rw [hl] at h; cases h)]
  exact h
theorem Cells.putD {A : World} {l : Nat} {r : Option (List Deferred)} (hl : A.heap[l]? = some (.deferred r)) (o : Obj) : Cells A (A.putObj l o) := fun k cur e fr h => by
  rw [World.putObj_heap_other (fun q => by subst q; rw [hl] at h; cases h)]
  exact h
theorem Cells.of_below {A B : World} (h : Below A.heap.size A B) : Cells A B := fun k _ _ _ hk => (h.block k (heap_lt hk)).trans hk
theorem cells_of {w : World} {a : Addr} {v : Value} (h : w.cell? a = some v) : ∃ cur e fr, w.heap[a.block]? = some (.cells cur e fr) := by
  unfold World.cell? at h
  cases q : w.heap[a.block]? with
  | none => rw [q] at h; cases h
  | some o =>
    cases o with
    | cells cur e fr => exact ⟨cur, e, fr, rfl⟩
    | _ => rw [q] at h; cases h
theorem Cells.cell {A B : World} (h : Cells A B) {a : Addr} {v : Value} (hc : A.cell? a = some v) : B.cell? a = some v := by
  obtain ⟨cur, e, fr, hk⟩ := cells_of hc
  rw [← hc]
  exact World.cell?_of_block ((h _ _ _ _ hk).trans hk.symm)
theorem Cells.frozen {A B : World} (h : Cells A B) {a : Addr} {v : Value} (hc : A.cell? a = some v) {t : Bool} (hf : A.frozen? a = t) : B.frozen? a = t := by
  obtain ⟨cur, e, fr, hk⟩ := cells_of hc
  rw [← hf]
  exact World.frozen?_of_block ((h _ _ _ _ hk).trans hk.symm)
theorem Rd.cells {w w' : World} {A : Option Addr} {xs : List Nat} (h : Rd w A xs) (c : Cells w w') : Rd w' A xs := fun hne => by
  obtain ⟨b, off, e, hc⟩ := h hne
  exact ⟨b, off, e, fun i hi => c.cell (hc i hi)⟩
theorem IsB.cells {w w' : World} {v : Value} {xs : List Nat} (h : IsB w v xs) (c : Cells w w') : IsB w' v xs := by
  obtain ⟨A, k, e, r, z⟩ := h
  exact ⟨A, k, e, r.cells c, z⟩
theorem RdV.cells {w w' : World} {A : Option Addr} {vs : List Value} (h : RdV w A vs) (c : Cells w w') : RdV w' A vs := fun hne => by
  obtain ⟨b, off, e, hc⟩ := h hne
  exact ⟨b, off, e, fun i hi => c.cell (hc i hi)⟩
theorem IsM.cells {w w' : World} {A : Option Addr} {xss : ML} (h : IsM w A xss) (c : Cells w w') : IsM w' A xss := by
  obtain ⟨vs, h1, h2, h3⟩ := h
  exact ⟨vs, h1.cells c, h2, fun i hi => (h3 i hi).cells c⟩
theorem Own.cells {w w' : World} {B : Nat} {v : Value} {xs : List Nat} (h : Own w B v xs) (c : Cells w w') : Own w' B v xs := by
  unfold Own at h ⊢
  refine ⟨h.1, ?_⟩
  rcases h.2 with hn | ⟨g, cap, cur, hv, h1, h2, r⟩
  · exact .inl hn
  · exact .inr ⟨g, cap, cur, hv, h1, c _ _ _ _ h2, r⟩
theorem OwnV.cells {w w' : World} {B : Nat} {v : Value} {vs : List Value} (h : OwnV w B v vs) (c : Cells w w') : OwnV w' B v vs := by
  unfold OwnV at h ⊢
  refine ⟨h.1, ?_⟩
  rcases h.2 with hn | ⟨g, cap, cur, hv, h1, h2, r⟩
  · exact .inl hn
  · exact .inr ⟨g, cap, cur, hv, h1, c _ _ _ _ h2, r⟩
theorem OwnMt.cells {w w' : World} {B : Nat} {v : Value} {xss : ML} (h : OwnMt w B v xss) (c : Cells w w') : OwnMt w' B v xss := by
  obtain ⟨vs, h1, h2, h3⟩ := h
  exact ⟨vs, h1.cells c, h2, fun i hi => (h3 i hi).cells c⟩
theorem RowOff.cells {w w' : World} {B : Nat} {u : Value} {xs : List Nat} (h : RowOff w B u xs) (c : Cells w w') : RowOff w' B u xs := by
  refine ⟨h.1.cells c, fun hne b e => ?_⟩
  rcases h.2 hne b e with h1 | ⟨cur, fr, h1⟩
  · exact .inl h1
  · exact .inr ⟨cur, fr, c _ _ _ _ h1⟩
theorem RowsOff.cells {w w' : World} {B : Nat} {A : Option Addr} {xss : ML} (h : RowsOff w B A xss) (c : Cells w w') : RowsOff w' B A xss := by
  obtain ⟨us, h1, h2, h3⟩ := h
  exact ⟨us, h1.cells c, h2, fun i hi => (h3 i hi).cells c⟩
theorem Held.cells {w w' : World} {B : Nat} {v : Value} {xss : ML} (h : Held w B v xss) (c : Cells w w') : Held w' B v xss := by
  obtain ⟨vs, h1, h2, h3⟩ := h
  exact ⟨vs, h1.cells c, h2, fun i hi => (h3 i hi).cells c⟩
/-- What lay below B when the rows were gathered lies apart from lists that begin further on. -/
theorem IsM.offLow {w w' : World} {B : Nat} {A : Option Addr} {xss : ML} (h : IsM w A xss) (hb : Below w.heap.size w w') (hB : w.heap.size ≤ B) : RowsOff w' B A xss := by
  obtain ⟨us, h1, h2, h3⟩ := h.off hB
  exact ⟨us, h1.below hb, h2, fun i hi => (h3 i hi).keep hb⟩
theorem RowsOff.at_ {w : World} {B : Nat} {A : Option Addr} {xss : ML} (h : RowsOff w B A xss) (k : Nat) (hk : k < xss.length) :
    ∃ b off A' c', A = some ⟨b, off, none⟩ ∧ w.cell? ⟨b, off + k, none⟩ = some (.slice A' (xss.getD k []).length c') ∧ RowOff w B (.slice A' (xss.getD k []).length c') (xss.getD k []) ∧ (xss.getD k []).length ≤ c' ∧ c' ≤ 9223372036854775807 := by
  obtain ⟨us, h1, h2, h3⟩ := h
  obtain ⟨b, off, e, hc⟩ := h1 (by intro e; rw [e] at h2; simp at h2; omega)
  have hv := h3 k (by omega)
  have ck := hc k (by omega)
  obtain ⟨A', c', e1, i1, l1, m1⟩ := hv.1.form rfl
  rw [e1] at ck hv
  exact ⟨b, off, A', c', e, ck, hv, l1, m1⟩
/-- A store into a box that holds a slice leaves rows of bytes as they were. -/
theorem IsB.box {w : World} {g : Nat} {e : TypeId} {A : Option Addr} {n c : Nat} {v u : Value} {xs : List Nat} (h : IsB w v xs) (hb : Blk w 0 e g [.slice A n c]) : IsB (w.setCell ⟨g, 0, none⟩ u) v xs := by
  obtain ⟨A', k, e', r, z⟩ := h
  refine ⟨A', k, e', fun hne => ?_, z⟩
  obtain ⟨b, off, e1, hc⟩ := r hne
  refine ⟨b, off, e1, fun i hi => ?_⟩
  have hx := hc i hi
  have hbg : b ≠ g := by
    rintro rfl
    rw [hb.cell] at hx
    rcases Nat.eq_zero_or_pos (off + i) with q | q
    · rw [q] at hx; cases hx
    · rw [List.getElem?_eq_none (by simp; omega)] at hx; cases hx
  rw [← hx]
  exact World.cell?_of_block (heap_setCell_other w ⟨g, 0, none⟩ b u hbg)
theorem RowOff.box {w : World} {B g : Nat} {e : TypeId} {A : Option Addr} {n c : Nat} {v u : Value} {xs : List Nat} (h : RowOff w B v xs) (hb : Blk w 0 e g [.slice A n c]) (he : e ≠ 5) : RowOff (w.setCell ⟨g, 0, none⟩ u) B v xs := by
  refine ⟨h.1.box hb, fun hne b q => ?_⟩
  rcases h.2 hne b q with h1 | ⟨cur, fr, h1⟩
  · exact .inl h1
  · refine .inr ⟨cur, fr, ?_⟩
    rw [heap_setCell_other w ⟨g, 0, none⟩ b u (by
      rintro rfl
      obtain ⟨_, cur', hh, _⟩ := hb
      rw [hh] at h1
      simp only [Option.some.injEq, Obj.cells.injEq] at h1
      exact he h1.2.1)]
    exact h1
theorem Held.box {w : World} {B g : Nat} {e : TypeId} {A : Option Addr} {n c : Nat} {v u : Value} {xss : ML} (h : Held w B v xss) (hb : Blk w 0 e g [.slice A n c]) (he : e ≠ 5) (hg : g < B) : Held (w.setCell ⟨g, 0, none⟩ u) B v xss := by
  obtain ⟨vs, h1, h2, h3⟩ := h
  refine ⟨vs, ?_, h2, fun i hi => (h3 i hi).box hb he⟩
  exact World.ownsRow.kept h1 (grown_set w g 0 u) (by
    rcases q : v.ownBlock with _ | b
    · exact .inl rfl
    · refine .inr ?_
      have := (World.ownsRow.lt h1 b q).1
      intro q2
      cases q2
      omega)
end Go.Proofs.YtpjocddeiehckaaDoor
namespace Go.Proofs.YtpjocddeiehckaaDoor
open Go.RowKit
attribute [local go_sem] Oper.semAt_some
/-- Of the numbers of P the first i in an array, noughts behind them. -/
def numV14 (P : List Nat) (i j : Nat) : Value := .int .i64 (((P.take i).getD j 0 : Nat) : Int)
def numC (P : List Nat) (i : Nat) : List Value := (List.range 14).map fun j => numV14 P i j
theorem numC_zero (P : List Nat) : numC P 0 = [.int .i64 0, .int .i64 0, .int .i64 0, .int .i64 0, .int .i64 0, .int .i64 0, .int .i64 0, .int .i64 0, .int .i64 0, .int .i64 0, .int .i64 0, .int .i64 0, .int .i64 0, .int .i64 0] := by
  unfold numC numV14
  simp [List.range_succ]
theorem take_getD (P : List Nat) (i j : Nat) : (P.take i).getD j 0 = if j < i then P.getD j 0 else 0 := by
  rw [List.getD_eq_getElem?_getD, List.getElem?_take]
  by_cases h : j < i
  · rw [if_pos h, if_pos h, ← List.getD_eq_getElem?_getD]
  · rw [if_neg h, if_neg h]
    rfl
theorem numC_set (P : List Nat) (i : Nat) : (numC P i).set i (.int .i64 ((P.getD i 0 : Nat) : Int)) = numC P (i + 1) := by
  apply List.ext_getElem
  · simp [numC]
  · intro j h1 h2
    rw [List.getElem_set]
    simp only [numC, numV14, List.getElem_map, List.getElem_range, take_getD]
    by_cases e : i = j
    · subst e; simp
    · rw [if_neg e]
      by_cases h : j < i
      · rw [if_pos h, if_pos (by omega)]
      · rw [if_neg h, if_neg (by omega)]
theorem numC_at (P : List Nat) (i : Nat) {j : Nat} (h : j < 14) : (numC P i)[j]? = some (numV14 P i j) := by simp [numC, h]
/-- The array as a value. -/
def numA (P : List Nat) : Value := .agg #[numV14 P P.length 0, numV14 P P.length 1, numV14 P P.length 2, numV14 P P.length 3, numV14 P P.length 4, numV14 P P.length 5, numV14 P P.length 6, numV14 P P.length 7, numV14 P P.length 8, numV14 P P.length 9, numV14 P P.length 10, numV14 P P.length 11, numV14 P P.length 12, numV14 P P.length 13]
set_option maxRecDepth 100000 in
set_option maxHeartbeats 3200000 in
theorem numbers_any (x : Nat) (w : World) (hx : x < 16384) (hT : TabW w) :
    Calls Tryd.prog 63 #[.int .u64 (x : Int)] w fun e w' => e = .returned (numA (digs x)) ∧ Below w.heap.size w w' := by
  have HT := hide hT
  clear hT
  refine calls_marks Tryd.func63 rfl ?_
  simp only [Tryd.ntmps63, List.size_toArray, List.length_cons, List.length_nil, Nat.reduceAdd, Nat.reduceSub, Array.replicate_succ, Array.replicate_zero, List.push_toArray, List.append_toArray, List.nil_append, List.cons_append]
  go_wp2_with fail
  obtain ⟨za, hza⟩ : ∃ za : Array Value, za = #[.int .i64 0, .int .i64 0, .int .i64 0, .int .i64 0, .int .i64 0, .int .i64 0, .int .i64 0, .int .i64 0, .int .i64 0, .int .i64 0, .int .i64 0, .int .i64 0, .int .i64 0, .int .i64 0] := ⟨_, rfl⟩
  rw [← hza]
  have b1 := below_alloc w (.cells za 95)
  have b2 := below_alloc (w.alloc (.cells za 95)) (.cells za 95)
  have b3 := below_alloc ((w.alloc (.cells za 95)).alloc (.cells za 95)) (.cells #[.int .i64 0] 3)
  have l1 := ((Blk.new w (B := 0) 95 za (Nat.zero_le _)).keep b2).keep b3
  have l2 := (Blk.new (w.alloc (.cells za 95)) (B := 0) 95 za (Nat.zero_le _)).keep b3
  have l3 := Blk.new ((w.alloc (.cells za 95)).alloc (.cells za 95)) (B := 0) 3 #[.int .i64 0] (Nat.zero_le _)
  have k6 : Below w.heap.size w (((w.alloc (.cells za 95)).alloc (.cells za 95)).alloc (.cells #[.int .i64 0] 3)) := (b1.trans (b2.mono (by simp))).trans (b3.mono (by simp; omega))
  have hs6 : (((w.alloc (.cells za 95)).alloc (.cells za 95)).alloc (.cells #[.int .i64 0] 3)).heap.size = w.heap.size + 3 := by simp
  simp only [World.size_alloc] at l2 l3
  obtain ⟨W6, hW6⟩ : ∃ W6, W6 = (((w.alloc (.cells za 95)).alloc (.cells za 95)).alloc (.cells #[.int .i64 0] 3)) := ⟨_, rfl⟩
  rw [← hW6] at k6 l1 l2 l3 hs6 ⊢
  have hzl : za.toList = numC (digs x) 0 := by rw [numC_zero, hza]
  rw [hzl] at l1 l2
  obtain ⟨z, hz⟩ : ∃ z, z = w.heap.size := ⟨_, rfl⟩
  rw [← hz] at k6 l1 l2 l3 hs6 ⊢
  have HZ := hide hz
  have K6 := hide k6
  have L1 := hide l1
  have L2 := hide l2
  have L3 := hide l3
  have HS6 := hide hs6
  have hz6 : W6.heap.size = z + 3 := hs6
  clear k6 l1 l2 l3 hs6 hW6 hz b1 b2 b3 hza hzl za
  refine wp_range (gf := 22) (pb := #[.int .u64 (x : Int)]) (lb := #[]) rfl (enters_of Tryd.func22 (by kernel_rfl) rfl)
    (R := eachR x) (St := fun A B => B = A) (S := fun k => k = z + 1 ∨ k = z + 1 + 1) (N := (digs x).length) ?seq ?sd ?sl ?st ?ps ?r
    (fun i A => Turn (fun k => k = z + 1 ∨ k = z + 1 + 1) W6 A ∧ Blk A 0 95 (z + 1) (numC (digs x) i) ∧ Blk A 0 3 (z + 1 + 1) [.int .i64 (i : Int)])
    (fun _ _ _ => False) ?i ?ix ?il ?ixl ?i0 ?round ?done ?stop
  case seq =>
    intro r
    have b61 : Below W6.heap.size W6 ((W6.alloc (.deferred (some []))).alloc (.loop r)) := (below_alloc _ _).trans ((below_alloc _ _).mono (by simp))
    refine each_seq x _ _ hx ((HT.out.low K6.out (by rw [HZ.out]; exact HT.out.1)).below b61) ?_
    have := HT.out.1
    have := HZ.out
    rintro ((e | e) | e) <;> omega
  case sd => rintro (e | e) <;> omega
  case sl => rintro (e | e) <;> omega
  case st => rintro A B k o rfl _ h; exact h
  case ps => rintro i vs A rfl; rfl
  case r => rintro i vs A r r' h hl; exact h
  case i => rintro i A B h rfl; exact h
  case ix => exact fun _ _ _ _ h _ => h
  case il =>
    rintro i A r r' ⟨hT, hb, hn⟩ hl
    exact ⟨hT.putL (by omega) _, hb.put hl _, hn.put hl _⟩
  case ixl => exact fun _ _ _ _ _ h _ => h
  case i0 =>
    intro r
    have b61 : Below W6.heap.size W6 ((W6.alloc (.deferred (some []))).alloc (.loop r)) := (below_alloc _ _).trans ((below_alloc _ _).mono (by simp))
    exact ⟨Turn.of_below _ b61, L2.out.keep b61, L3.out.keep b61⟩
  case stop => exact fun _ _ _ _ h _ => h.elim
  case done =>
    rintro W ⟨hT, hb, hn⟩ hK
    have HTN := hide hT
    have HB := hide hb
    obtain ⟨y0, hy0⟩ : ∃ y : Nat, y = ((digs x).take (digs x).length).getD 0 0 := ⟨_, rfl⟩
    have c0 : W.cell? ⟨z + 1, 0, none⟩ = some (.int .i64 (y0 : Int)) := by rw [hy0]; exact (hb.cell 0).trans (numC_at _ _ (by decide))
    obtain ⟨y1, hy1⟩ : ∃ y : Nat, y = ((digs x).take (digs x).length).getD 1 0 := ⟨_, rfl⟩
    have c1 : W.cell? ⟨z + 1, 1, none⟩ = some (.int .i64 (y1 : Int)) := by rw [hy1]; exact (hb.cell 1).trans (numC_at _ _ (by decide))
    obtain ⟨y2, hy2⟩ : ∃ y : Nat, y = ((digs x).take (digs x).length).getD 2 0 := ⟨_, rfl⟩
    have c2 : W.cell? ⟨z + 1, 2, none⟩ = some (.int .i64 (y2 : Int)) := by rw [hy2]; exact (hb.cell 2).trans (numC_at _ _ (by decide))
    obtain ⟨y3, hy3⟩ : ∃ y : Nat, y = ((digs x).take (digs x).length).getD 3 0 := ⟨_, rfl⟩
    have c3 : W.cell? ⟨z + 1, 3, none⟩ = some (.int .i64 (y3 : Int)) := by rw [hy3]; exact (hb.cell 3).trans (numC_at _ _ (by decide))
    obtain ⟨y4, hy4⟩ : ∃ y : Nat, y = ((digs x).take (digs x).length).getD 4 0 := ⟨_, rfl⟩
    have c4 : W.cell? ⟨z + 1, 4, none⟩ = some (.int .i64 (y4 : Int)) := by rw [hy4]; exact (hb.cell 4).trans (numC_at _ _ (by decide))
    obtain ⟨y5, hy5⟩ : ∃ y : Nat, y = ((digs x).take (digs x).length).getD 5 0 := ⟨_, rfl⟩
    have c5 : W.cell? ⟨z + 1, 5, none⟩ = some (.int .i64 (y5 : Int)) := by rw [hy5]; exact (hb.cell 5).trans (numC_at _ _ (by decide))
    obtain ⟨y6, hy6⟩ : ∃ y : Nat, y = ((digs x).take (digs x).length).getD 6 0 := ⟨_, rfl⟩
    have c6 : W.cell? ⟨z + 1, 6, none⟩ = some (.int .i64 (y6 : Int)) := by rw [hy6]; exact (hb.cell 6).trans (numC_at _ _ (by decide))
    obtain ⟨y7, hy7⟩ : ∃ y : Nat, y = ((digs x).take (digs x).length).getD 7 0 := ⟨_, rfl⟩
    have c7 : W.cell? ⟨z + 1, 7, none⟩ = some (.int .i64 (y7 : Int)) := by rw [hy7]; exact (hb.cell 7).trans (numC_at _ _ (by decide))
    obtain ⟨y8, hy8⟩ : ∃ y : Nat, y = ((digs x).take (digs x).length).getD 8 0 := ⟨_, rfl⟩
    have c8 : W.cell? ⟨z + 1, 8, none⟩ = some (.int .i64 (y8 : Int)) := by rw [hy8]; exact (hb.cell 8).trans (numC_at _ _ (by decide))
    obtain ⟨y9, hy9⟩ : ∃ y : Nat, y = ((digs x).take (digs x).length).getD 9 0 := ⟨_, rfl⟩
    have c9 : W.cell? ⟨z + 1, 9, none⟩ = some (.int .i64 (y9 : Int)) := by rw [hy9]; exact (hb.cell 9).trans (numC_at _ _ (by decide))
    obtain ⟨y10, hy10⟩ : ∃ y : Nat, y = ((digs x).take (digs x).length).getD 10 0 := ⟨_, rfl⟩
    have c10 : W.cell? ⟨z + 1, 10, none⟩ = some (.int .i64 (y10 : Int)) := by rw [hy10]; exact (hb.cell 10).trans (numC_at _ _ (by decide))
    obtain ⟨y11, hy11⟩ : ∃ y : Nat, y = ((digs x).take (digs x).length).getD 11 0 := ⟨_, rfl⟩
    have c11 : W.cell? ⟨z + 1, 11, none⟩ = some (.int .i64 (y11 : Int)) := by rw [hy11]; exact (hb.cell 11).trans (numC_at _ _ (by decide))
    obtain ⟨y12, hy12⟩ : ∃ y : Nat, y = ((digs x).take (digs x).length).getD 12 0 := ⟨_, rfl⟩
    have c12 : W.cell? ⟨z + 1, 12, none⟩ = some (.int .i64 (y12 : Int)) := by rw [hy12]; exact (hb.cell 12).trans (numC_at _ _ (by decide))
    obtain ⟨y13, hy13⟩ : ∃ y : Nat, y = ((digs x).take (digs x).length).getD 13 0 := ⟨_, rfl⟩
    have c13 : W.cell? ⟨z + 1, 13, none⟩ = some (.int .i64 (y13 : Int)) := by rw [hy13]; exact (hb.cell 13).trans (numC_at _ _ (by decide))
    have HYS := hide (show numA (digs x) = .agg #[.int .i64 (y0 : Int), .int .i64 (y1 : Int), .int .i64 (y2 : Int), .int .i64 (y3 : Int), .int .i64 (y4 : Int), .int .i64 (y5 : Int), .int .i64 (y6 : Int), .int .i64 (y7 : Int), .int .i64 (y8 : Int), .int .i64 (y9 : Int), .int .i64 (y10 : Int), .int .i64 (y11 : Int), .int .i64 (y12 : Int), .int .i64 (y13 : Int)] by rw [hy0, hy1, hy2, hy3, hy4, hy5, hy6, hy7, hy8, hy9, hy10, hy11, hy12, hy13]; rfl)
    clear hy0 hy1 hy2 hy3 hy4 hy5 hy6 hy7 hy8 hy9 hy10 hy11 hy12 hy13
    have l1 := L1.out.turn hT (by rintro (e | e) <;> omega)
    have HL := hide l1
    have d0 : W.cell? ⟨z, 0, none⟩ = some (.int .i64 0) := by rw [l1.cell, numC_zero]; rfl
    have e0 : W.frozen? ⟨z, 0, none⟩ = false := l1.frozen 0
    have d1 : W.cell? ⟨z, 1, none⟩ = some (.int .i64 0) := by rw [l1.cell, numC_zero]; rfl
    have e1 : W.frozen? ⟨z, 1, none⟩ = false := l1.frozen 1
    have d2 : W.cell? ⟨z, 2, none⟩ = some (.int .i64 0) := by rw [l1.cell, numC_zero]; rfl
    have e2 : W.frozen? ⟨z, 2, none⟩ = false := l1.frozen 2
    have d3 : W.cell? ⟨z, 3, none⟩ = some (.int .i64 0) := by rw [l1.cell, numC_zero]; rfl
    have e3 : W.frozen? ⟨z, 3, none⟩ = false := l1.frozen 3
    have d4 : W.cell? ⟨z, 4, none⟩ = some (.int .i64 0) := by rw [l1.cell, numC_zero]; rfl
    have e4 : W.frozen? ⟨z, 4, none⟩ = false := l1.frozen 4
    have d5 : W.cell? ⟨z, 5, none⟩ = some (.int .i64 0) := by rw [l1.cell, numC_zero]; rfl
    have e5 : W.frozen? ⟨z, 5, none⟩ = false := l1.frozen 5
    have d6 : W.cell? ⟨z, 6, none⟩ = some (.int .i64 0) := by rw [l1.cell, numC_zero]; rfl
    have e6 : W.frozen? ⟨z, 6, none⟩ = false := l1.frozen 6
    have d7 : W.cell? ⟨z, 7, none⟩ = some (.int .i64 0) := by rw [l1.cell, numC_zero]; rfl
    have e7 : W.frozen? ⟨z, 7, none⟩ = false := l1.frozen 7
    have d8 : W.cell? ⟨z, 8, none⟩ = some (.int .i64 0) := by rw [l1.cell, numC_zero]; rfl
    have e8 : W.frozen? ⟨z, 8, none⟩ = false := l1.frozen 8
    have d9 : W.cell? ⟨z, 9, none⟩ = some (.int .i64 0) := by rw [l1.cell, numC_zero]; rfl
    have e9 : W.frozen? ⟨z, 9, none⟩ = false := l1.frozen 9
    have d10 : W.cell? ⟨z, 10, none⟩ = some (.int .i64 0) := by rw [l1.cell, numC_zero]; rfl
    have e10 : W.frozen? ⟨z, 10, none⟩ = false := l1.frozen 10
    have d11 : W.cell? ⟨z, 11, none⟩ = some (.int .i64 0) := by rw [l1.cell, numC_zero]; rfl
    have e11 : W.frozen? ⟨z, 11, none⟩ = false := l1.frozen 11
    have d12 : W.cell? ⟨z, 12, none⟩ = some (.int .i64 0) := by rw [l1.cell, numC_zero]; rfl
    have e12 : W.frozen? ⟨z, 12, none⟩ = false := l1.frozen 12
    have d13 : W.cell? ⟨z, 13, none⟩ = some (.int .i64 0) := by rw [l1.cell, numC_zero]; rfl
    have e13 : W.frozen? ⟨z, 13, none⟩ = false := l1.frozen 13
    have kb : Below z w W := K6.out.trans (hT.below (by omega) (fun k e => by rcases e with e | e <;> omega))
    have BF := hide ((((((((((((((l1.stored 0 (.int .i64 (y0 : Int))).stored 1 (.int .i64 (y1 : Int))).stored 2 (.int .i64 (y2 : Int))).stored 3 (.int .i64 (y3 : Int))).stored 4 (.int .i64 (y4 : Int))).stored 5 (.int .i64 (y5 : Int))).stored 6 (.int .i64 (y6 : Int))).stored 7 (.int .i64 (y7 : Int))).stored 8 (.int .i64 (y8 : Int))).stored 9 (.int .i64 (y9 : Int))).stored 10 (.int .i64 (y10 : Int))).stored 11 (.int .i64 (y11 : Int))).stored 12 (.int .i64 (y12 : Int))).stored 13 (.int .i64 (y13 : Int)))
    have KF := hide ((((((((((((((kb.setCell (p := ⟨z, 0, none⟩) (Nat.le_refl _) (.int .i64 (y0 : Int))).setCell (p := ⟨z, 1, none⟩) (Nat.le_refl _) (.int .i64 (y1 : Int))).setCell (p := ⟨z, 2, none⟩) (Nat.le_refl _) (.int .i64 (y2 : Int))).setCell (p := ⟨z, 3, none⟩) (Nat.le_refl _) (.int .i64 (y3 : Int))).setCell (p := ⟨z, 4, none⟩) (Nat.le_refl _) (.int .i64 (y4 : Int))).setCell (p := ⟨z, 5, none⟩) (Nat.le_refl _) (.int .i64 (y5 : Int))).setCell (p := ⟨z, 6, none⟩) (Nat.le_refl _) (.int .i64 (y6 : Int))).setCell (p := ⟨z, 7, none⟩) (Nat.le_refl _) (.int .i64 (y7 : Int))).setCell (p := ⟨z, 8, none⟩) (Nat.le_refl _) (.int .i64 (y8 : Int))).setCell (p := ⟨z, 9, none⟩) (Nat.le_refl _) (.int .i64 (y9 : Int))).setCell (p := ⟨z, 10, none⟩) (Nat.le_refl _) (.int .i64 (y10 : Int))).setCell (p := ⟨z, 11, none⟩) (Nat.le_refl _) (.int .i64 (y11 : Int))).setCell (p := ⟨z, 12, none⟩) (Nat.le_refl _) (.int .i64 (y12 : Int))).setCell (p := ⟨z, 13, none⟩) (Nat.le_refl _) (.int .i64 (y13 : Int)))
    have tz : ∀ (A : World) (j : Nat) (v : Value), Turn (fun k => k = z) A (A.setCell ⟨z, j, none⟩ v) := fun A j v => (Turn.of_grown (grown_set A z j v)).mono (fun i e => by simpa using e)
    have TF := hide (show Turn (fun k => k = z) W ((((((((((((((W.setCell ⟨z, 0, none⟩ (.int .i64 (y0 : Int))).setCell ⟨z, 1, none⟩ (.int .i64 (y1 : Int))).setCell ⟨z, 2, none⟩ (.int .i64 (y2 : Int))).setCell ⟨z, 3, none⟩ (.int .i64 (y3 : Int))).setCell ⟨z, 4, none⟩ (.int .i64 (y4 : Int))).setCell ⟨z, 5, none⟩ (.int .i64 (y5 : Int))).setCell ⟨z, 6, none⟩ (.int .i64 (y6 : Int))).setCell ⟨z, 7, none⟩ (.int .i64 (y7 : Int))).setCell ⟨z, 8, none⟩ (.int .i64 (y8 : Int))).setCell ⟨z, 9, none⟩ (.int .i64 (y9 : Int))).setCell ⟨z, 10, none⟩ (.int .i64 (y10 : Int))).setCell ⟨z, 11, none⟩ (.int .i64 (y11 : Int))).setCell ⟨z, 12, none⟩ (.int .i64 (y12 : Int))).setCell ⟨z, 13, none⟩ (.int .i64 (y13 : Int))) from ((((((((((((((tz _ 0 _).trans (tz _ 1 _)).trans (tz _ 2 _)).trans (tz _ 3 _)).trans (tz _ 4 _)).trans (tz _ 5 _)).trans (tz _ 6 _)).trans (tz _ 7 _)).trans (tz _ 8 _)).trans (tz _ 9 _)).trans (tz _ 10 _)).trans (tz _ 11 _)).trans (tz _ 12 _)).trans (tz _ 13 _)))
    have e14 : ((((((((((((((numC (digs x) 0).set 0 (.int .i64 (y0 : Int))).set 1 (.int .i64 (y1 : Int))).set 2 (.int .i64 (y2 : Int))).set 3 (.int .i64 (y3 : Int))).set 4 (.int .i64 (y4 : Int))).set 5 (.int .i64 (y5 : Int))).set 6 (.int .i64 (y6 : Int))).set 7 (.int .i64 (y7 : Int))).set 8 (.int .i64 (y8 : Int))).set 9 (.int .i64 (y9 : Int))).set 10 (.int .i64 (y10 : Int))).set 11 (.int .i64 (y11 : Int))).set 12 (.int .i64 (y12 : Int))).set 13 (.int .i64 (y13 : Int)) = [.int .i64 (y0 : Int), .int .i64 (y1 : Int), .int .i64 (y2 : Int), .int .i64 (y3 : Int), .int .i64 (y4 : Int), .int .i64 (y5 : Int), .int .i64 (y6 : Int), .int .i64 (y7 : Int), .int .i64 (y8 : Int), .int .i64 (y9 : Int), .int .i64 (y10 : Int), .int .i64 (y11 : Int), .int .i64 (y12 : Int), .int .i64 (y13 : Int)] := by rw [numC_zero]; rfl
    have HK0 := hide hK
    clear hT hb hn l1 kb tz hK
    go_wp2_with fail
    obtain ⟨W9, hW9⟩ : ∃ W9, W9 = ((((((((((((((W.setCell ⟨z, 0, none⟩ (.int .i64 (y0 : Int))).setCell ⟨z, 1, none⟩ (.int .i64 (y1 : Int))).setCell ⟨z, 2, none⟩ (.int .i64 (y2 : Int))).setCell ⟨z, 3, none⟩ (.int .i64 (y3 : Int))).setCell ⟨z, 4, none⟩ (.int .i64 (y4 : Int))).setCell ⟨z, 5, none⟩ (.int .i64 (y5 : Int))).setCell ⟨z, 6, none⟩ (.int .i64 (y6 : Int))).setCell ⟨z, 7, none⟩ (.int .i64 (y7 : Int))).setCell ⟨z, 8, none⟩ (.int .i64 (y8 : Int))).setCell ⟨z, 9, none⟩ (.int .i64 (y9 : Int))).setCell ⟨z, 10, none⟩ (.int .i64 (y10 : Int))).setCell ⟨z, 11, none⟩ (.int .i64 (y11 : Int))).setCell ⟨z, 12, none⟩ (.int .i64 (y12 : Int))).setCell ⟨z, 13, none⟩ (.int .i64 (y13 : Int))) := ⟨_, rfl⟩
    have BF := BF.out
    rw [← hW9, e14] at BF
    have KF := KF.out
    rw [← hW9] at KF
    have TF := TF.out
    rw [← hW9] at TF
    rw [← hW9]
    have hK := TF.at_ HK0.out (by omega)
    have BF := BF.putD hK (.deferred none)
    have g0 : (W9.putObj W6.heap.size (.deferred none)).cell? ⟨z, 0, none⟩ = some (.int .i64 (y0 : Int)) := BF.cell 0
    have g1 : (W9.putObj W6.heap.size (.deferred none)).cell? ⟨z, 1, none⟩ = some (.int .i64 (y1 : Int)) := BF.cell 1
    have g2 : (W9.putObj W6.heap.size (.deferred none)).cell? ⟨z, 2, none⟩ = some (.int .i64 (y2 : Int)) := BF.cell 2
    have g3 : (W9.putObj W6.heap.size (.deferred none)).cell? ⟨z, 3, none⟩ = some (.int .i64 (y3 : Int)) := BF.cell 3
    have g4 : (W9.putObj W6.heap.size (.deferred none)).cell? ⟨z, 4, none⟩ = some (.int .i64 (y4 : Int)) := BF.cell 4
    have g5 : (W9.putObj W6.heap.size (.deferred none)).cell? ⟨z, 5, none⟩ = some (.int .i64 (y5 : Int)) := BF.cell 5
    have g6 : (W9.putObj W6.heap.size (.deferred none)).cell? ⟨z, 6, none⟩ = some (.int .i64 (y6 : Int)) := BF.cell 6
    have g7 : (W9.putObj W6.heap.size (.deferred none)).cell? ⟨z, 7, none⟩ = some (.int .i64 (y7 : Int)) := BF.cell 7
    have g8 : (W9.putObj W6.heap.size (.deferred none)).cell? ⟨z, 8, none⟩ = some (.int .i64 (y8 : Int)) := BF.cell 8
    have g9 : (W9.putObj W6.heap.size (.deferred none)).cell? ⟨z, 9, none⟩ = some (.int .i64 (y9 : Int)) := BF.cell 9
    have g10 : (W9.putObj W6.heap.size (.deferred none)).cell? ⟨z, 10, none⟩ = some (.int .i64 (y10 : Int)) := BF.cell 10
    have g11 : (W9.putObj W6.heap.size (.deferred none)).cell? ⟨z, 11, none⟩ = some (.int .i64 (y11 : Int)) := BF.cell 11
    have g12 : (W9.putObj W6.heap.size (.deferred none)).cell? ⟨z, 12, none⟩ = some (.int .i64 (y12 : Int)) := BF.cell 12
    have g13 : (W9.putObj W6.heap.size (.deferred none)).cell? ⟨z, 13, none⟩ = some (.int .i64 (y13 : Int)) := BF.cell 13
    refine ⟨by simp, .inl ⟨_, _, rfl, run_takeDeferred hK, ?_⟩⟩
    rw [HYS.out]
    refine ⟨.agg #[.int .i64 (y0 : Int), .int .i64 (y1 : Int), .int .i64 (y2 : Int), .int .i64 (y3 : Int), .int .i64 (y4 : Int), .int .i64 (y5 : Int), .int .i64 (y6 : Int), .int .i64 (y7 : Int), .int .i64 (y8 : Int), .int .i64 (y9 : Int), .int .i64 (y10 : Int), .int .i64 (y11 : Int), .int .i64 (y12 : Int), .int .i64 (y13 : Int)], ?_, rfl, ?_⟩
    · simp [results, Tryd.results63, go_sem, g0, g1, g2, g3, g4, g5, g6, g7, g8, g9, g10, g11, g12, g13]
    · rw [← HZ.out]
      exact below_put KF (show z ≤ W6.heap.size by omega) _
  case round =>
    rintro l i vs W0 W hi ⟨hT, hb, hn⟩ rfl hlow
    have h14 := digs_len x
    have c1 := (hb.cell i).trans (numC_at _ _ (by omega))
    have f1 := hb.frozen i
    have c2 : W.cell? ⟨z + 1 + 1, 0, none⟩ = some (.int .i64 (i : Int)) := hn.cell 0
    have f2 := hn.frozen 0
    obtain ⟨t, ht⟩ : ∃ t, t = (digs x).getD i 0 := ⟨_, rfl⟩
    have T1 : Turn (fun k => k = z + 1 ∨ k = z + 1 + 1) W ((W.setCell ⟨z + 1, i, none⟩ (.int .i64 (t : Int))).setCell ⟨z + 1 + 1, 0, none⟩ (.int .i64 ((i + 1 : Nat) : Int))) := ((Turn.of_grown (grown_set W (z + 1) i _)).mono (fun j e => .inl (by simpa using e))).trans ((Turn.of_grown (grown_set _ (z + 1 + 1) 0 _)).mono (fun j e => .inr (by simpa using e)))
    have B1 := (hb.stored i (.int .i64 (t : Int))).kept (grown_set _ (z + 1 + 1) 0 (.int .i64 ((i + 1 : Nat) : Int))) (by simp)
    have N1 := (hn.kept (grown_set W (z + 1) i (.int .i64 (t : Int))) (by simp)).stored 0 (.int .i64 ((i + 1 : Nat) : Int))
    rw [ht, numC_set, ← ht] at B1
    rw [← ht]
    have HT1 := hide (hT.trans T1)
    have TT := hide T1
    have HB1 := hide B1
    have HN1 := hide N1
    have hi14 : (i : Int) < 14 := by omega
    clear hT hb hn T1 B1 N1 ht hlow
    gi_wp2
    refine ⟨trivial, ?_⟩
    gi_wp2
    refine ⟨TT.out, HT1.out, HB1.out, HN1.out⟩
end Go.Proofs.YtpjocddeiehckaaDoor
namespace Go.Proofs.YtpjocddeiehckaaDoor
open Go.RowKit Go.WideMaps
theorem arr_key : ArrKey Tryd.prog 95 3 14 := ⟨by kernel_rfl, by kernel_rfl, by kernel_rfl, by kernel_rfl⟩
theorem key_law : KeyLaw Tryd.prog 95 := arr_key.law
theorem numA_cells (P : List Nat) : (numA P).cells.toList = numC P P.length := by
  unfold numC
  simp [List.range_succ, numA, Value.cells]
set_option maxRecDepth 100000 in
theorem keyOf_num {P : List Nat} (hP : ∀ i ∈ P, i < 14) : ∃ l, keyOf Tryd.prog 95 (numA P) = some l := by
  have hu : Tryd.prog.underlying 95 = some (.array 14 3) := arr_key.hu
  have hi : Tryd.prog.underlying 3 = some (.int .i64) := by kernel_rfl
  have c1 : Tryd.prog.cellsOf 95 = 14 := by kernel_rfl
  have c2 : Tryd.prog.cellsOf 3 = 1 := by kernel_rfl
  have h1 : Nat.ble 1 Tryd.prog.types.size = true := by kernel_rfl
  have h2 := Nat.le_of_ble_eq_true h1
  obtain ⟨m, hm⟩ : ∃ m, Tryd.prog.types.size + 1 = m + 1 + 1 := ⟨Tryd.prog.types.size - 1, by omega⟩
  have hk : Tryd.prog.keyType 95 = true := by kernel_rfl
  have hf : Value.formed Tryd.prog 95 (numA P) = true := by
    unfold Value.formed numA
    simp only [hu, c1]
    rfl
  have hl : ∃ la, Tryd.prog.keyLits (Tryd.prog.types.size + 1) 95 (numA P).cells.toList = some la := by
    rw [hm, numA_cells]
    unfold Program.keyLits
    rw [hu]
    simp only [c1, c2]
    rw [if_pos (by simp [numC])]
    obtain ⟨bs, hbs⟩ := mapM_some (f := fun i => Tryd.prog.keyLits (m + 1) 3 (((numC P P.length).drop (i * 1)).take 1)) (List.range 14) (fun i h => by
      have h14 := List.mem_range.1 h
      have e : ((numC P P.length).drop (i * 1)).take 1 = [numV14 P P.length i] := by
        rw [Nat.mul_one]
        have := numC_at P P.length h14
        rw [List.take_one, List.head?_drop, this]
        rfl
      rw [e]
      unfold Program.keyLits
      rw [hi]
      unfold numV14
      have hv : (P.take P.length).getD i 0 < 14 := by
        rw [List.take_length, List.getD_eq_getElem?_getD]
        cases q : P[i]? with
        | none => decide
        | some y => exact hP y (List.mem_of_getElem? q)
      refine ⟨[.int .i64 (((P.take P.length).getD i 0 : Nat) : Int)], ?_⟩
      simp only
      rw [if_pos ⟨trivial, by
        have h1 : IntKind.i64.min = -9223372036854775808 := by decide
        have h2 : IntKind.i64.max = 9223372036854775807 := by decide
        show (decide (IntKind.i64.min ≤ (((P.take P.length).getD i 0 : Nat) : Int)) && decide ((((P.take P.length).getD i 0 : Nat) : Int) ≤ IntKind.i64.max)) = true
        rw [h1, h2, Bool.and_eq_true]
        exact ⟨decide_eq_true (by omega), decide_eq_true (by omega)⟩⟩])
    exact ⟨_, by rw [hbs]; rfl⟩
  obtain ⟨la, hla⟩ := hl
  refine ⟨.string (keyBytes la), ?_⟩
  unfold keyOf
  rw [hu]
  simp only
  rw [if_pos (by rw [hk, hf]; rfl), hla]
  rfl
theorem numA_inj {P Q : List Nat} (h : numA P = numA Q) (hl : P.length = Q.length) (h14 : P.length ≤ 14) : P = Q := by
  have h1 := congrArg (fun v => v.cells.toList) h
  simp only [numA_cells] at h1
  apply List.ext_getElem hl
  intro i h2 h3
  have e1 := numC_at P P.length (j := i) (by omega)
  have e2 := numC_at Q Q.length (j := i) (by omega)
  rw [h1, e2] at e1
  unfold numV14 at e1
  rw [List.take_length, List.take_length] at e1
  have e3 : Q.getD i 0 = P.getD i 0 := by
    have := Option.some.inj e1
    injection this with _ this
    exact Int.ofNat_inj.1 this
  have p1 : P.getD i 0 = P[i] := by simp [h2]
  have p2 : Q.getD i 0 = Q[i] := by simp [h3]
  rw [← p1, ← p2, e3]
end Go.Proofs.YtpjocddeiehckaaDoor
namespace Go.Proofs.YtpjocddeiehckaaDoor
open Go.RowKit
attribute [local go_sem] Oper.semAt_some
def pick (L : ML) (P : List Nat) : ML := P.map fun t => L.getD t []
theorem pick_len (L : ML) (P : List Nat) : (pick L P).length = P.length := by simp [pick]
theorem pick_take (L : ML) {P : List Nat} {i : Nat} (h : i < P.length) : pick L (P.take (i + 1)) = pick L (P.take i) ++ [L.getD (P.getD i 0) []] := by
  unfold pick
  rw [List.take_succ_eq_append_getElem h, List.map_append]
  simp [h]
theorem Act.put_none (a : Act) (v : Value) : a.put none v = a := rfl
set_option maxRecDepth 100000 in
set_option maxHeartbeats 3200000 in
theorem of_any (x n c : Nat) (A : Option Addr) (L : ML) (w : World) (hx : x < 16384) (hT : TabW w) (hA : IsM w A L) (hn : L.length = n) (hd : ∀ i ∈ digs x, i < n) :
    Calls Tryd.prog 26 #[.int .u64 (x : Int), .slice A n c] w fun e w' => ∃ A' c', e = .returned (.slice A' (digs x).length c') ∧ IsM w' A' (pick L (digs x)) ∧ (A' = none → c' = 0) ∧ Below w.heap.size w w' := by
  have HT := hide hT
  have HA := hide hA
  have HN := hide hn
  have HD := hide hd
  clear hT hA hn hd
  refine calls_marks Tryd.func26 rfl ?_
  simp only [Tryd.ntmps26, List.size_toArray, List.length_cons, List.length_nil, Nat.reduceAdd, Nat.reduceSub, Array.replicate_succ, Array.replicate_zero, List.push_toArray, List.append_toArray, List.nil_append, List.cons_append]
  go_wp2_with fail
  have b12 : Below w.heap.size w ((w.alloc (.cells #[.slice A n c] 22)).alloc (.cells #[.slice none 0 0] 22)) := (below_alloc _ _).trans ((below_alloc _ _).mono (by simp))
  have bl3 : Blk ((w.alloc (.cells #[.slice A n c] 22)).alloc (.cells #[.slice none 0 0] 22)) 0 22 w.heap.size [.slice A n c] := (Blk.new w (B := 0) _ #[.slice A n c] (Nat.zero_le _)).keep (below_alloc _ _)
  have bl5 : Blk ((w.alloc (.cells #[.slice A n c] 22)).alloc (.cells #[.slice none 0 0] 22)) 0 22 (w.heap.size + 1) [.slice none 0 0] := by
    have := Blk.new (w.alloc (.cells #[.slice A n c] 22)) (B := 0) 22 #[.slice none 0 0] (Nat.zero_le _)
    rw [World.size_alloc] at this
    exact this
  have hs6 : ((w.alloc (.cells #[.slice A n c] 22)).alloc (.cells #[.slice none 0 0] 22)).heap.size = w.heap.size + 2 := by simp
  obtain ⟨W6, hW6⟩ : ∃ W6, W6 = (w.alloc (.cells #[.slice A n c] 22)).alloc (.cells #[.slice none 0 0] 22) := ⟨_, rfl⟩
  rw [← hW6] at b12 bl3 bl5 hs6 ⊢
  obtain ⟨z, hz⟩ : ∃ z, z = w.heap.size := ⟨_, rfl⟩
  rw [← hz] at b12 bl3 bl5 hs6 ⊢
  have HZ := hide hz
  have K6 := hide b12
  have BL3 := hide bl3
  have BL5 := hide bl5
  have HS6 := hide hs6
  clear b12 bl3 bl5 hs6 hW6 hz
  have hz6 : W6.heap.size = z + 2 := HS6.out
  refine wp_range (gf := 22) (pb := #[.int .u64 (x : Int)]) (lb := #[]) rfl (enters_of Tryd.func22 (by kernel_rfl) rfl)
    (R := eachR x) (St := fun A B => B = A) (S := fun k => k = z + 1 ∨ z + 4 ≤ k) (N := (digs x).length) ?seq ?sd ?sl ?st ?ps ?r
    (fun i A => Turn (fun k => k = z + 1 ∨ z + 4 ≤ k) W6 A ∧ ∃ v, Blk A 0 22 (z + 1) [v] ∧ Held A (z + 4) v (pick L ((digs x).take i)))
    (fun _ _ _ => False) ?i ?ix ?il ?ixl ?i0 ?round ?done ?stop
  case seq =>
    intro r
    have b61 : Below W6.heap.size W6 ((W6.alloc (.deferred (some []))).alloc (.loop r)) := (below_alloc _ _).trans ((below_alloc _ _).mono (by simp))
    refine each_seq x _ _ hx ((HT.out.low K6.out (by rw [HZ.out]; exact HT.out.1)).below b61) ?_
    have := HT.out.1
    have := HZ.out
    rintro ((e | e) | e) <;> omega
  case sd => rintro (e | e) <;> omega
  case sl => rintro (e | e) <;> omega
  case st => rintro A B k o rfl _ h; exact h
  case ps => rintro i vs A rfl; rfl
  case r => rintro i vs A r r' h hl; exact h
  case i => rintro i A B h rfl; exact h
  case ix => exact fun _ _ _ _ h _ => h
  case il =>
    rintro i A r r' ⟨hT, v, hb, hh⟩ hl
    exact ⟨hT.putL (by omega) _, v, hb.put hl _, hh.cells (Cells.put hl _)⟩
  case ixl => exact fun _ _ _ _ _ h _ => h
  case i0 =>
    intro r
    have b61 : Below W6.heap.size W6 ((W6.alloc (.deferred (some []))).alloc (.loop r)) := (below_alloc _ _).trans ((below_alloc _ _).mono (by simp))
    exact ⟨Turn.of_below _ b61, _, BL5.out.keep b61, Held.nil _ _⟩
  case stop => exact fun _ _ _ _ h _ => h.elim
  case done =>
    rintro W ⟨hT, v, hb, hh⟩ hK
    have c5 := hb.cell 0
    obtain ⟨Av, cv, rfl, hro, -⟩ := hh.form (n := (digs x).length) (by rw [pick_len, List.take_length])
    have HRO := hide hro
    clear hro
    have HH := hide hh
    have KB := hide (K6.out.trans (hT.below (by omega) (fun k e => by rcases e with e | e <;> omega)))
    have c5' : W.cell? ⟨z + 1, 0, none⟩ = some (.slice Av (digs x).length cv) := c5
    clear hT hb hh c5
    go_wp2_with fail
    refine ⟨by simp, .inl ⟨_, _, rfl, run_takeDeferred hK, ?_⟩⟩
    refine ⟨_, results_tmp rfl _ _ _, _, _, rfl, ?_, ?_, ?_⟩
    · have := HRO.out.isM.cells (Cells.putD hK (.deferred none))
      rw [List.take_length] at this
      exact this
    · exact HH.out.nilc
    · rw [← HZ.out]
      exact below_put KB.out (show z ≤ W6.heap.size by omega) _
  case round =>
    rintro l i vs W0 W hi ⟨hT, v, hb, hh⟩ rfl hlow
    obtain ⟨t, ht⟩ : ∃ t, t = (digs x).getD i 0 := ⟨_, rfl⟩
    rw [← ht]
    have htn : t < n := HD.out t (by rw [ht]; simp [hi])
    have KB : Below z w W := K6.out.trans (hT.below (by omega) (fun k e => by rcases e with e | e <;> omega))
    obtain ⟨bA, oA, A', c', rfl, ck, hr, l1, m1⟩ := (HA.out.offLow (B := z + 4) (by rw [← HZ.out]; exact KB) (by have := HZ.out; omega)).at_ t (by rw [HN.out]; exact htn)
    have hbA : bA < z := by
      obtain ⟨b', o', _, _, e, ck', -, -, -⟩ := HA.out.at_ t (by rw [HN.out]; exact htn)
      cases e
      rw [HZ.out]
      exact cell_lt ck'
    obtain ⟨Av, cv, rfl, -, hv63⟩ := hh.form (n := i) (by rw [pick_len, List.length_take]; omega)
    have c5 : W.cell? ⟨z + 1, 0, none⟩ = some (.slice Av i cv) := hb.cell 0
    have f5 := hb.frozen 0
    have c3 := (BL3.out.turn hT (by rintro (e | e) <;> omega)).cell 0
    have c3 : W.cell? ⟨z, 0, none⟩ = some (.slice (some ⟨bA, oA, none⟩) n c) := c3
    have h14 := digs_len x
    obtain ⟨rl, hrl⟩ : ∃ rl, rl = (L.getD t []).length := ⟨_, rfl⟩
    rw [← hrl] at ck hr l1
    have HTn := hide hT
    have HB5 := hide hb
    have HH := hide hh
    have HR := hide hr
    have HTE := hide ht
    have HLO := hide hlow
    have htc : (t : Int) < (n : Int) := by omega
    clear hT hb hh hr ht hlow KB hrl
    gi_wp2
    refine ⟨trivial, ?_⟩
    gi_wp2
    refine ways_in (isW_round l) (fun W' => W'.cell? ⟨z + 1, 0, none⟩ = some (.slice Av i cv) ∧ W'.cell? ⟨z, 0, none⟩ = some (.slice (some ⟨bA, oA, none⟩) n c) ∧ W'.cell? ⟨bA, oA + t, none⟩ = some (.slice A' rl c')) 7 8 #[false, false, false, false, false, false, false, false] (by kernel_rfl) (by kernel_rfl) (by kernel_rfl) (by kernel_rfl) (fun ⟨_, _, h⟩ => h) ?_
    have hHeld : W.drew.cell? ⟨z + 1, 0, none⟩ = some (.slice Av i cv) ∧ W.drew.cell? ⟨z, 0, none⟩ = some (.slice (some ⟨bA, oA, none⟩) n c) ∧ W.drew.cell? ⟨bA, oA + t, none⟩ = some (.slice A' rl c') := ⟨c5, c3, ck⟩
    refine' Ways.take (i := 0) (oi := ⟨_, _, _, _, _, _⟩) (v := _) rfl (by kernel_rfl) (by kernel_rfl) (by kernel_rfl) (by kernel_rfl) (fun _ _ _ h => h) hHeld (Or.inl ⟨rfl, ?_⟩) ?_
    rotate_left
    · (intro W hW; (try dsimp only at hW); go_simp; (try with_reducible rfl))
    try simp only [Act.put, List.setIfInBounds_toArray, List.set_cons_zero, List.set_cons_succ]
    refine' Ways.take (i := 1) (oi := ⟨_, _, _, _, _, _⟩) (v := _) rfl (by kernel_rfl) (by kernel_rfl) (by kernel_rfl) (by kernel_rfl) (fun _ _ _ h => h) hHeld (Or.inl ⟨rfl, ?_⟩) ?_
    rotate_left
    · (intro W hW; (try dsimp only at hW); go_simp; (try with_reducible rfl))
    try simp only [Act.put, List.setIfInBounds_toArray, List.set_cons_zero, List.set_cons_succ]
    refine' Ways.take (i := 2) (oi := ⟨_, _, _, _, _, _⟩) (v := _) rfl (by kernel_rfl) (by kernel_rfl) (by kernel_rfl) (by kernel_rfl) (fun _ _ _ h => h) hHeld (Or.inl ⟨rfl, ?_⟩) ?_
    rotate_left
    · (intro W hW; (try dsimp only at hW); go_simp; (try with_reducible rfl))
    try simp only [Act.put, List.setIfInBounds_toArray, List.set_cons_zero, List.set_cons_succ]
    refine' Ways.take (i := 3) (oi := ⟨_, _, _, _, _, _⟩) (v := _) rfl (by kernel_rfl) (by kernel_rfl) (by kernel_rfl) (by kernel_rfl) (fun _ _ _ h => h) hHeld (Or.inl ⟨rfl, ?_⟩) ?_
    rotate_left
    · (intro W hW; (try dsimp only at hW); go_simp; (try with_reducible rfl))
    try simp only [Act.put, List.setIfInBounds_toArray, List.set_cons_zero, List.set_cons_succ]
    refine' Ways.take (i := 4) (oi := ⟨_, _, _, _, _, _⟩) (v := _) rfl (by kernel_rfl) (by kernel_rfl) (by kernel_rfl) (by kernel_rfl) (fun _ _ _ h => h) hHeld (Or.inl ⟨rfl, ?_⟩) ?_
    rotate_left
    · (intro W hW; (try dsimp only at hW); go_simp; (try with_reducible rfl))
    try simp only [Act.put, List.setIfInBounds_toArray, List.set_cons_zero, List.set_cons_succ]
    refine Ways.one (i := 5) (by kernel_rfl) rfl (fun K hK => ?_)
    go_simp
    have b7 : Below W.heap.size W (W.alloc (.cells #[.slice A' rl c'] 34)).drew := below_drewN (below_alloc _ _) 1
    have n7 : (W.alloc (.cells #[.slice A' rl c'] 34)).drew.cell? ⟨W.heap.size, 0, none⟩ = some (.slice A' rl c') := by
      have := Blk.new W (B := 0) 34 #[.slice A' rl c'] (Nat.zero_le _)
      exact (this.drewN 1).cell 0
    obtain ⟨w7, hw7⟩ : ∃ w7, w7 = (W.alloc (.cells #[.slice A' rl c'] 34)).drew := ⟨_, rfl⟩
    rw [← hw7] at b7 n7
    try rw [← hw7]
    have x1 := (b7.cell (p := ⟨z + 1, 0, none⟩) (cell_lt c5)).trans c5
    have x2 := (b7.cell (p := ⟨z, 0, none⟩) (cell_lt c3)).trans c3
    have x3 := (b7.cell (p := ⟨bA, oA + t, none⟩) (cell_lt ck)).trans ck
    have B7 := hide b7
    have HH7 := hide (HH.out.keep b7)
    have HR7 := hide (HR.out.keep b7)
    have HS7 := hide (show z + 4 ≤ w7.heap.size by have := b7.size; have := HLO.out (z + 3) (by omega); omega)
    refine hK.out _ _ ⟨x1, x2, x3⟩ ?_
    clear hK hHeld b7 hw7 c5 c3 ck HH HR
    try simp only [List.setIfInBounds_toArray, List.set_cons_zero, List.set_cons_succ]
    refine Ways.one (i := 6) (by kernel_rfl) rfl (fun K hK => ?_)
    refine step_append_held rfl (.tmp 10) (.tmp 15) rfl (z + 4) _ _ rfl HH7.out W.heap.size _ _ rfl n7 HR7.out (by rw [pick_len, List.length_take]; omega) HS7.out ?_
    intro v8 w8 h8 k8
    rw [HTE.out, ← pick_take L hi] at h8
    obtain ⟨A8, c8, rfl, -, -⟩ := h8.form (n := i + 1) (by rw [pick_len, List.length_take]; omega)
    have y1 := (k8.cell (p := ⟨z + 1, 0, none⟩) (by show z + 1 < z + 4; omega)).trans x1
    have y2 := (k8.cell (p := ⟨z, 0, none⟩) (by show z < z + 4; omega)).trans x2
    have T8 := hide (show Turn (fun k => k = z + 1 ∨ z + 4 ≤ k) W w8 from (Turn.of_below _ B7.out).trans ⟨k8.os, k8.tape, k8.output, k8.size, fun k _ hn => k8.block k (by omega)⟩)
    have B8 := hide ((HB5.out.keep B7.out).low k8 (by omega))
    have HH8 := hide h8
    have fz8 := B8.out.frozen 0
    have TN := hide (T8.out.trans ((Turn.of_grown (grown_set w8 (z + 1) 0 (.slice A8 (i + 1) c8))).mono (fun j e => .inl (by simpa using e))))
    have BN := hide (B8.out.stored 0 (.slice A8 (i + 1) c8))
    have HN8 := hide (HH8.out.box (u := .slice A8 (i + 1) c8) B8.out (by decide) (by omega))
    have y3 := (k8.cell (p := ⟨bA, oA + t, none⟩) (by show bA < z + 4; omega)).trans x3
    refine hK.out _ _ ⟨y1, y2, y3⟩ ?_
    clear hK h8 k8 x1 x2 x3 HB5 HH7 HR7 n7
    try simp only [Act.put, List.setIfInBounds_toArray, List.set_cons_zero, List.set_cons_succ]
    refine Ways.last (by kernel_rfl) rfl (by kernel_rfl) (fun K hK => ?_)
    go_simp
    refine hK.out _ _ ?_
    clear hK y2 y3
    obtain ⟨w9, hw9⟩ : ∃ w9, w9 = w8.setCell ⟨z + 1, 0, none⟩ (.slice A8 (i + 1) c8) := ⟨_, rfl⟩
    rw [← hw9] at TN BN HN8
    try rw [← hw9]
    clear hw9 y1 fz8
    gi_wp2
    exact ⟨TN.out, HTn.out.trans TN.out, _, BN.out, HN8.out⟩
end Go.Proofs.YtpjocddeiehckaaDoor
