/- What a walk inside a fence wants: heads for ranges over functions; blocks that stand when a loop's record turns. It names nothing of the program. The contracts of shard's columns and of the function that it hands back: at each place the numbers of all rows there. Condition: at most 64 rows, of at most 1000000 numbers. The contracts of shard's dot and made: rows that have at each place the sums of products. Condition: at most 14 rows, of at most 1000000 numbers. -/
import Derived.Test.YtdbngchbhoanpaaSr15
import Derived.Test.YtdbngchbhoanpaaSr4
import Derived.Shelf.Abstract
import Derived.Shelf.RegionOpen
import Derived.WalkKit
import Derived.OwnWalkIn
import Derived.TacticsInMore
import Derived.LoopNIn
import Derived.LoopIn
import Derived.Test.YtdbngchbhoanpaaSr8
import Derived.Test.YtdbngchbhoanpaaSr7
import Derived.Test.YtdbngchbhoanpaaSr10
namespace Go.Proofs.Ytdbngchbhoanpaa
open Go.RowKit
theorem Blk.put {w : World} {B : Nat} {e : TypeId} {g : Nat} {cs : List Value} (h : Blk w B e g cs) {l : Nat} {r : Loop} (hl : w.heap[l]? = some (.loop r)) (o : Obj) : Blk (w.putObj l o) B e g cs := by
  obtain ⟨hB, cur, hh, hc⟩ := h
  refine ⟨hB, cur, ?_, hc⟩
  rw [World.putObj_heap_other (fun q => by subst q; rw [hh] at hl; cases hl)]
  exact hh
theorem Blk.putD {w : World} {B : Nat} {e : TypeId} {g : Nat} {cs : List Value} (h : Blk w B e g cs) {l : Nat} {r : Option (List Deferred)} (hl : w.heap[l]? = some (.deferred r)) (o : Obj) : Blk (w.putObj l o) B e g cs := by
  obtain ⟨hB, cur, hh, hc⟩ := h
  refine ⟨hB, cur, ?_, hc⟩
  rw [World.putObj_heap_other (fun q => by subst q; rw [hh] at hl; cases hl)]
  exact hh
theorem Blk.low {w w' : World} {B z : Nat} {e : TypeId} {g : Nat} {cs : List Value} (h : Blk w B e g cs) (hb : Below z w w') (hg : g < z) : Blk w' B e g cs := by
  obtain ⟨hB, cur, hh, hc⟩ := h
  exact ⟨hB, cur, by rw [hb.block g hg]; exact hh, hc⟩
theorem Turn.low {S : Nat → Prop} {W A B : World} {z : Nat} (h : Turn S W A) (hb : Below z A B) (hz : W.heap.size ≤ z) : Turn S W B :=
  ⟨hb.os.trans h.os, hb.tape.trans h.tape, hb.output.trans h.output, Nat.le_trans h.size hb.size, fun k hk hn => (hb.block k (by omega)).trans (h.block k hk hn)⟩
theorem Turn.putL {S : Nat → Prop} {W A : World} {l : Nat} (h : Turn S W A) (hl : W.heap.size ≤ l) (o : Obj) : Turn S W (A.putObj l o) :=
  ⟨h.os, h.tape, h.output, by rw [World.putObj_size]; exact h.size, fun k hk hn => (World.putObj_heap_other (by omega)).trans (h.block k hk hn)⟩
theorem Turn.alloc {S : Nat → Prop} {W A : World} (h : Turn S W A) (o : Obj) : Turn S W (A.alloc o) := h.trans (Turn.of_below _ (below_alloc A o))
theorem Turn.cell {S : Nat → Prop} {W A : World} {a : Addr} {v : Value} (h : Turn S W A) (hc : W.cell? a = some v) (hn : ¬ S a.block) : A.cell? a = some v := by
  rw [← hc]
  exact World.cell?_of_block (h.block a.block (cell_lt hc) hn)
theorem below_put {w A : World} {B l : Nat} (h : Below B w A) (hl : B ≤ l) (o : Obj) : Below B w (A.putObj l o) :=
  ⟨h.os, h.tape, h.output, by rw [World.putObj_size]; exact h.size, fun k hk => (World.putObj_heap_other (by omega)).trans (h.block k hk)⟩
section
variable {P : Program} {r : Option Nat} {n : Nat}
/-- The wide fence, in a round or not. -/
def WF (r : Option Nat) : Fence := { Fence.wide with round := r }
def IsW (F : Fence) : Prop := ∃ r, F = WF r
theorem isW_wide : IsW Fence.wide := ⟨none, rfl⟩
theorem isW_round (l : Nat) : IsW (Fence.wide.inRound l) := ⟨some l, rfl⟩
theorem rowsIn_wide {row : String} {args : Array Value} {w : World} {R : Value → World → Prop} (h : Rows P row args w R) : RowsIn (WF r) n P row args w R :=
  fun c cs _ => let ⟨v, w', q, s⟩ := h c cs; ⟨v, w', q, stepsIn_wide.2 s⟩
/-- An operation that is no defer statement goes in a round as anywhere. -/
theorem oper_in {o : Oper} {a : Act} {w : World} {K : Act → World → Prop} {Q : Exit → Act → World → Prop} (hd : ∀ c, o.op ≠ .defer c) (h : Oper.wp P o a w K Q) : Oper.wpIn (WF r) n P o a w K Q := by
  refine ⟨fun _ _ => trivial, ?_⟩
  have e : o.semAt (WF r).round a.eval = execOp a.eval o := by
    cases r with
    | none => exact Oper.semAt_none _ _
    | some l => exact Oper.semAt_some l _ _ hd
  rw [e]
  unfold Oper.wp at h
  generalize (execOp a.eval o).run P w = R at h ⊢
  cases R with
  | ok x w' =>
    cases x with
    | value v => exact h
    | skip => exact h
    | defer d => exact h
    | enter f args => exact ⟨(fun q => by cases q), callsIn_wide.2 h⟩
    | row row args => exact ⟨(fun q => by cases q), rowsIn_wide h⟩
    | round l f tmps assign body => exact h.elim
    | _ => exact h.elim
  | halt x w' => cases x <;> exact h
theorem wpListIn_by {ops : Array Oper} {Q : Exit → Act → World → Prop} {rest : List Oper} {o : Oper} {a : Act} {w : World} (hd : ∀ c, o.op ≠ .defer c)
    (h : ∀ K : Act → World → Prop, (∀ b u, wpListIn (WF r) n P ops Q rest b u → K b u) → if Region.wanted o (yielded ops a.tmps) = true then Oper.wp P o a w K Q else K (a.put o.dst undef) w) :
    wpListIn (WF r) n P ops Q (o :: rest) a w := by
  refine wpListIn_step fun K hK => ?_
  have := h K hK
  split at this
  · rename_i e
    rw [if_pos e]
    exact oper_in hd this
  · rename_i e
    rw [if_neg e]
    exact ⟨fun _ _ => trivial, this⟩
theorem wpOpIn_by {ops : Array Oper} {Q : Exit → Act → World → Prop} {i : Nat} {K : Act → World → Prop} {a : Act} {w : World} (hd : ∀ o : Oper, ops[i]? = some o → ∀ c, o.op ≠ .defer c) (hQ : ¬ LetsOut Q) (h : wpOp P ops Q i K a w) : wpOpIn (WF r) n P ops Q i K a w := by
  unfold wpOp at h
  unfold wpOpIn
  cases e : ops[i]? with
  | none => rw [e] at h; exact h
  | some o =>
    rw [e] at h
    simp only at h ⊢
    by_cases q : Region.wanted o (yielded ops a.tmps) = true
    · rw [if_pos q] at h ⊢
      exact oper_in (hd o e) (h.resolve_right (fun q => hQ q.2))
    · rw [if_neg q] at h ⊢
      exact ⟨fun _ _ => trivial, h⟩
theorem wpAnyIn_by {ops : Array Oper} {md : Region.Mode} {Q : Exit → Act → World → Prop} (hd : ∀ (i : Nat) (o : Oper), ops[i]? = some o → ∀ c, o.op ≠ .defer c) (hQ : ¬ LetsOut Q) :
    ∀ (fuel : Nat) (listed : Array Bool) (a : Act) (w : World), wpAny P md ops Q fuel listed a w → wpAnyIn (WF r) n P md ops Q fuel listed a w
  | 0, _, _, _, h => h
  | fuel + 1, _, _, _, h => ⟨h.1, fun i hi => wpOpIn_by (hd i) hQ (wpOp_mono (fun b u hb => wpAnyIn_by hd hQ fuel _ b u hb) (h.2 i hi))⟩
/-- A region that draws its order, in a round as anywhere. -/
theorem region_in {ops : Array Oper} {Q : Exit → Act → World → Prop} {id : Nat} {a : Act} {w : World} (hm : P.follows .mixedOrders = true) (hd : ∀ (i : Nat) (o : Oper), ops[i]? = some o → ∀ c, o.op ≠ .defer c) (hQ : ¬ LetsOut Q)
    (h : wpAny P .any ops Q ops.size (Array.replicate ops.size false) a w.drew) : (Code.region id ops true).wpIn (WF r) n P Q a w := wpIn_region_any hm (wpAnyIn_by hd hQ _ _ _ _ h)
theorem no_defer {ops : Array Oper} (h : ops.all (fun o : Oper => match o.op with | .defer _ => false | _ => true) = true) : ∀ (i : Nat) (o : Oper), ops[i]? = some o → ∀ c, o.op ≠ .defer c := by
  intro i o hi c e
  rw [Array.all_eq_true] at h
  obtain ⟨hlt, rfl⟩ := Array.getElem?_eq_some_iff.1 hi
  have := h i hlt
  rw [e] at this
  cases this
theorem Ways.startIn {ops : Array Oper} {Q : Exit → Act → World → Prop} {id : Nat} {a : Act} {w : World} (S : World → Prop) (L k : Nat) (l : Array Bool) (hn : ops.size = k) (hl : Array.replicate k false = l) (hm : P.follows .mixedOrders = true)
    (hd : ops.all (fun o : Oper => match o.op with | .defer _ => false | _ => true) = true) (hQ : ¬ LetsOut Q) (h : Ways P .any ops Q S L k l a w.drew) : (Code.region id ops true).wpIn (WF r) n P Q a w := by
  subst hn
  subst hl
  exact region_in hm (no_defer hd) hQ (Ways.any _ _ _ _ h)
end
section
variable {P : Program} {F : Fence} {n : Nat}
theorem wpListIn_op (hF : IsW F) {ops : Array Oper} {Q : Exit → Act → World → Prop} {rest : List Oper} {o : Oper} {a : Act} {w : World} (hd : ∀ c, o.op ≠ .defer c)
    (h : ∀ K : Act → World → Prop, (∀ b u, wpListIn F n P ops Q rest b u → K b u) → if Region.wanted o (yielded ops a.tmps) = true then Oper.wp P o a w K Q else K (a.put o.dst undef) w) :
    wpListIn F n P ops Q (o :: rest) a w := by
  obtain ⟨r, rfl⟩ := hF
  exact wpListIn_by hd h
/-- make, of whole length. -/
theorem wpListIn_make_full (hF : IsW F) (w : World) {ops : Array Oper} {rest : List Oper} {o : Oper} {a : Act} {Q : Exit → Act → World → Prop}
    (hg : o.guard = none) (l c : Operand) (t : TypeId) (hop : o.op = Op.makeSlice t l c)
    (base : Nat) (e : TypeId) (i : TypeInfo) (z : Value) (size : Nat) (h1 : P.underlying t = some (.slice e)) (h2 : P.info? e = some i) (h3 : i.zero = some z) (h4 : i.size = size)
    (kl kc : IntKind) (m : Nat) (hl : a.eval l = .int kl (m : Int)) (hc : a.eval c = .int kc (m : Int)) (b2 : i.bytes * m ≤ 281474976710656) (b3 : m ≤ maxLen) (b4 : base ≤ w.heap.size)
    (hK : ∀ w', w'.ownsRow base e size (.slice (some ⟨w.heap.size, 0, none⟩) m m) m (madeCells z.cells (m * size)).toList → w.grownBy w' none → wpListIn F n P ops Q rest (a.put o.dst (.slice (some ⟨w.heap.size, 0, none⟩) m m)) w') :
    wpListIn F n P ops Q (o :: rest) a w := by
  refine wpListIn_op hF (by rw [hop]; intro c h; cases h) fun K hK' => ?_
  obtain ⟨w', hrun, r1, r2⟩ := run_make_full (P := P) w base t e i z size h1 h2 h3 h4 kl kc m b2 b3 b4
  rw [if_pos (by simp [Region.wanted, hg])]
  unfold Oper.wp
  simp [execOp, hop, hl, hc, hrun, Result.andThen]
  exact hK' _ _ (hK w' r1 r2)
/-- A region that draws its order and whose last operation turns what others load. -/
theorem ways_in (hF : IsW F) {ops : Array Oper} {Q : Exit → Act → World → Prop} {id : Nat} {a : Act} {w : World} (S : World → Prop) (L k : Nat) (l : Array Bool) (hn : ops.size = k) (hl : Array.replicate k false = l) (hm : P.follows .mixedOrders = true)
    (hd : ops.all (fun o : Oper => match o.op with | .defer _ => false | _ => true) = true) (hQ : ¬ LetsOut Q) (h : Ways P .any ops Q S L k l a w.drew) : (Code.region id ops true).wpIn F n P Q a w := by
  obtain ⟨r, rfl⟩ := hF
  exact Ways.startIn S L k l hn hl hm hd hQ h
/-- A region that draws its order and whose loads may all be taken first. -/
theorem held_in (hF : IsW F) {ops : Array Oper} {Q : Exit → Act → World → Prop} {id : Nat} {a : Act} {w : World} (S : World → Prop) (k : Nat) (l : Array Bool) (hn : ops.size = k) (hl : Array.replicate k false = l) (hm : P.follows .mixedOrders = true)
    (hd : ops.all (fun o : Oper => match o.op with | .defer _ => false | _ => true) = true) (hQ : ¬ LetsOut Q) (h : wpAnyH P .any ops Q S k l a w.drew) : (Code.region id ops true).wpIn F n P Q a w := by
  obtain ⟨r, rfl⟩ := hF
  subst hn
  subst hl
  exact region_in hm (no_defer hd) hQ (wpAny_of_held _ _ _ _ h)
theorem held_one {ops : Array Oper} {md : Region.Mode} {Q : Exit → Act → World → Prop} {S : World → Prop} {i : Nat} {o : Oper} {fuel : Nat} {listed : Array Bool} {a : Act} {w : World} (hr : Region.ready md ops listed = [i]) (ho : ops[i]? = some o)
    (h : ∀ K : Act → World → Prop, Hid (∀ b u, S u → wpAnyH P md ops Q S fuel (listed.setIfInBounds i true) b u → K b u) → if Region.wanted o (yielded ops a.tmps) = true then Oper.wp P o a w K Q else K (a.put o.dst undef) w) :
    wpAnyH P md ops Q S (fuel + 1) listed a w := by
  refine wpAnyH_all hr (by simp) (fun j hj => ?_)
  rw [List.mem_singleton] at hj
  subst hj
  exact wpOp_step ho (fun K hK => h K (hide fun b u hS hW => hK b u ⟨hS, hW⟩))
end
end Go.Proofs.Ytdbngchbhoanpaa
namespace Go.Proofs.Ytdbngchbhoanpaa
open Go.RowKit
attribute [local go_sem] Oper.semAt_some
def numV (D : ML) (j i : Nat) : Value := .int .u8 (((D.getD j []).getD i 0 : Nat) : Int)
/-- The column i of rows. -/
def colC (D : ML) (k i : Nat) : List Value := (List.range k).map fun j => numV D j i
/-- What a round is handed. -/
def colR (D : ML) (k z i : Nat) (vs : Array Value) (A : World) : Prop := ∃ C, vs = #[.int .i64 (i : Int), .slice (some ⟨C, 0, none⟩) k k] ∧ Blk A z 5 C (colC D k i)
/-- A column of which q places are laid. -/
def colP (D : ML) (k i q : Nat) (y : Nat → Value) : List Value := (List.range k).map fun j => if j < q then numV D j i else y j
theorem colP_done (D : ML) (k i : Nat) (y : Nat → Value) : colP D k i k y = colC D k i := List.map_congr_left (fun _ hj => if_pos (List.mem_range.1 hj))
theorem colP_none (D : ML) (k i : Nat) (y : Nat → Value) : colP D k i 0 y = (List.range k).map y := List.map_congr_left (fun _ _ => if_neg (Nat.not_lt_zero _))
theorem colP_set (D : ML) {k q : Nat} (i : Nat) (y : Nat → Value) : (colP D k i q y).set q (numV D q i) = colP D k i (q + 1) y := by
  apply List.ext_getElem
  · simp [colP]
  · intro b h1 h2
    rw [List.getElem_set]
    simp only [colP, List.getElem_map, List.getElem_range]
    by_cases e : q = b
    · subst e; simp
    · rw [if_neg e]
      by_cases h : b < q
      · rw [if_pos h, if_pos (by omega)]
      · rw [if_neg h, if_neg (by omega)]
theorem colP_at (D : ML) {k i q : Nat} (y : Nat → Value) (h : q < k) : (colP D k i q y)[q]? = some (y q) := by simp [colP, h]
theorem colC_any (D : ML) (k i : Nat) : ∃ y : Nat → Value, colC D k i = (List.range k).map y := ⟨fun j => numV D j i, rfl⟩
theorem columns_any (A : Option Addr) (n c : Nat) (w : World) :
    Calls Try.prog 57 #[.slice A n c] w fun e w' => e = .returned (.func (.func 62) #[] #[.pointer (some ⟨w.heap.size, 0, none⟩)]) ∧ w' = w.alloc (.cells #[.slice A n c] 50) := by
  go_enter Try.func57, Try.ntmps57
  go_wp2_with fail
  go_ret
  exact ⟨rfl, rfl⟩
set_option maxRecDepth 100000 in
set_option maxHeartbeats 3200000 in
theorem cols_seq (A0 : Option Addr) (k c N Bx : Nat) (D : ML) (W : World) (S : Nat → Prop) (hk1 : 1 ≤ k) (hk : k ≤ 64) (hN : N ≤ 1000000) (sh : Shape D k N) (hBx : W.cell? ⟨Bx, 0, none⟩ = some (.slice A0 k c)) (hB : ¬ S Bx) (hS : ∀ j, S j → j < W.heap.size) (hIs : ∀ A, Turn S W A → IsM A A0 D) :
    SeqC Try.prog 62 #[] #[.pointer (some ⟨Bx, 0, none⟩)] (colR D k W.heap.size) (Below W.heap.size) S N W := by
  intro l J Jx hJ hJx hY h0
  obtain ⟨i1, hj, hy0, hy1, hy2⟩ := info_parts Try.info_u8'
  have HJ := hide (And.intro hj (And.intro hy0 (And.intro hy1 hy2)))
  clear hj hy0 hy1 hy2
  have HY := hide hY
  have HIs := hide hIs
  have HS := hide hS
  have HStep := hide hJ
  have HSh := hide sh
  obtain ⟨z, hz⟩ : ∃ z, z = W.heap.size := ⟨_, rfl⟩
  rw [← hz] at HY HS HStep
  have HZ := hide hz
  have HB := hide hB
  have HBX := hide hBx
  have len0 := sh.len_at 0 (by omega)
  obtain ⟨b0, off0, A1, c1, rfl, ck0, -, -, -⟩ := (hIs W (Turn.refl _ _)).at_ 0 (by rw [sh.high]; omega)
  rw [len0] at ck0
  clear hY hIs hS hJ hJx sh hB hz len0
  refine callsIn_of_wp Try.func62 rfl trivial ?_ rfl
  simp only [Try.ntmps62, List.size_toArray, List.length_cons, List.length_nil, Nat.reduceAdd, Nat.reduceSub, Array.replicate_succ, Array.replicate_zero, List.push_toArray, List.append_toArray, List.nil_append, List.cons_append]
  obtain ⟨hj, hy0, hy1, hy2⟩ := HJ.out
  gi_wp2_with (gi_at_make; refine halt ?_)
  refine ⟨?_⟩
  refine wpListIn_make_full isW_wide _ rfl (.tmp 8) (.tmp 8) 24 rfl W.heap.size 5 i1 (.int .u8 0) 1 Try.underlying24 hj hy0 hy1 .i64 .i64 k rfl rfl (by rw [hy2]; omega) (by unfold maxLen; omega) (Nat.le_refl _) ?_
  intro w2 h2' g2
  have z2 := made_zeros h2' 0
  have k2 : Below W.heap.size W w2 := (Below.refl _ _).grown g2 (Nat.le_refl _) (by simp)
  have T2 : Turn S W w2 := Turn.of_below S k2
  have c2 := T2.cell hBx HB.out
  have d2 := k2.cell (p := ⟨b0, off0 + 0, none⟩) (cell_lt ck0)
  rw [ck0, Nat.add_zero] at d2
  rw [← HZ.out] at z2 k2 ⊢
  have Z2 := hide (show ∃ y : Nat → Value, Blk w2 z 5 z ((List.range k).map y) from ⟨fun j => .int .u8 (((fun _ _ => G.zero : Mat) 0 j).n : Int), z2⟩)
  have J2 := hide (HStep.out 0 W w2 h0 k2)
  have TT2 := hide T2
  clear h2' g2 z2 k2 T2 hj hy0 hy1 hy2 HJ h0 hBx ck0
  gi_wp2
  gi_loopw [14] (fun p wr => ∃ i : Nat, i ≤ N ∧ p = .int .i64 (i : Int) ∧ Hid (J i wr) ∧ Hid (Turn S W wr) ∧ Hid (∃ y : Nat → Value, Blk wr z 5 z ((List.range k).map y))) (fun p _ => N - (intOf p).toNat)
  case atStart => exact ⟨0, Nat.zero_le _, rfl, J2, TT2, Z2⟩
  case round =>
    obtain ⟨i, hi, rfl, hJi, hTi, hZi⟩ := hrel
    have hbx := hTi.out.cell HBX.out HB.out
    by_cases hlt : i < N
    · obtain ⟨y, hy⟩ := hZi.out
      have hy := hide hy
      clear hZi
      gi_wp2
      gi_loopw [19] (fun p wr => ∃ t : Nat, t ≤ k ∧ p = .int .i64 (t : Int) ∧ Hid (J i wr) ∧ Hid (Turn S W wr) ∧ Hid (Blk wr z 5 z (colP D k i t y))) (fun p _ => k - (intOf p).toNat)
      case atStart => exact ⟨0, Nat.zero_le _, rfl, hJi, hTi, hide (by rw [colP_none]; exact hy.out)⟩
      case round =>
        obtain ⟨q, hq, rfl, hJq, hTq, hZq⟩ := hrel
        by_cases hql : q < k
        · obtain ⟨b', off', A', c', e1, ck, ib, l1, m1⟩ := (HIs.out _ hTq.out).at_ q (by rw [HSh.out.high]; exact hql)
          cases e1
          have lq := HSh.out.len_at q hql
          rw [lq] at ck ib l1
          have hmem := mem_getD (xss := D) (k := q) (by rw [HSh.out.high]; exact hql)
          obtain ⟨b2, off2, rfl, cn, -⟩ := at_place ib.rd lq (HSh.out.byte _ hmem) i hlt
          have cv : wr.cell? ⟨z, q, none⟩ = some (y q) := by rw [hZq.out.cell, colP_at D y hql]
          have fz := hZq.out.frozen q
          have ST := hide (hZq.out.stored q (numV D q i))
          have SJ := hide (HStep.out i wr (wr.setCell ⟨z, q, none⟩ (numV D q i)) hJq.out ((Below.refl z wr).setCell (p := ⟨z, q, none⟩) (Nat.le_refl _) (numV D q i)))
          have SU := hide (Turn.low (z := z) hTq.out ((Below.refl z wr).setCell (p := ⟨z, q, none⟩) (Nat.le_refl _) (numV D q i)) (Nat.le_of_eq HZ.out.symm))
          rw [colP_set] at ST
          have ev : numV D q i = .int .u8 (((D.getD q []).getD i 0 : Nat) : Int) := rfl
          rw [ev] at ST SJ SU
          obtain ⟨x, hx⟩ : ∃ x, x = (D.getD q []).getD i 0 := ⟨_, rfl⟩
          rw [← hx] at ST SJ SU cn
          clear hZq hJq hTq ib hmem ev hx lq
          gi_wp2
          go_roundw
          case rel => exact ⟨q + 1, by omega, by go_num, SJ, SU, ST⟩
          case measure => simp [intOf]; omega
        · obtain rfl : q = k := by omega
          have hRr : colR D q z i #[.int .i64 (i : Int), .slice (some ⟨z, 0, none⟩) q q] wr := ⟨z, rfl, by rw [← colP_done D q i y]; exact hZq.out⟩
          obtain ⟨fn, tmps, assign, body, hyy, hR⟩ := HY.out i _ wr hlt hJq.out hRr
          have ZC := hide hRr
          clear hRr
          gi_wp2
          refine hR.mono ?_
          rintro e W3 (⟨rfl, hJ3, hk3⟩ | ⟨rfl, hJx3⟩)
          · have J3 := hide hJ3
            have T3 := hide (hTq.out.trans hk3)
            have Z3 : Hid (∃ y : Nat → Value, Blk W3 z 5 z ((List.range q).map y)) := by
              obtain ⟨C, e, hb⟩ := ZC.out
              obtain rfl : C = z := by
                simp at e
                exact e.symm
              exact hide ⟨fun j => numV D j i, hb.turn hk3 (fun h => by have := HS.out _ h; omega)⟩
            clear hJ3 hk3 hJq hTq hZq ZC hy hJi hTi hR hyy
            gi_wp2
            go_roundw
            case rel => exact ⟨i + 1, by omega, by go_num, J3, T3, Z3⟩
            case measure => simp [intOf]; omega
          · gi_wp2
            refine bodyPost_ret (results_none rfl _ _ _) rfl ?_
            exact ⟨⟨_, rfl⟩, .inr ⟨i + 1, by omega, hJx3⟩⟩
    · obtain rfl : i = N := by omega
      gi_wp2
      go_end0
      exact ⟨⟨_, rfl⟩, .inl hJi.out⟩
end Go.Proofs.Ytdbngchbhoanpaa
namespace Go.Proofs.Ytdbngchbhoanpaa
open Go.RowKit
attribute [local go_sem] Oper.semAt_some
theorem sdot_any (A B : Option Addr) (n c d : Nat) (xs ys : List Nat) (w : World) (hA : Rd w A xs) (hB : Rd w B ys) (hn : xs.length = n) (hm : ys.length = n) (hb : ∀ x ∈ xs, x < 256) (hc : ∀ y ∈ ys, y < 256) (h3 : n ≤ 1000000) :
    Calls Try.prog 58 #[.slice A n c, .slice B n d] w fun e w' => e = .returned (.int .u8 (dotS xs ys n : Nat)) ∧ w = w' := by
  have H := hide (dot_any A B n c d xs ys w hA hB hn hm hb hc h3)
  clear hA hB hn hm hb hc h3
  go_enter Try.func58, Try.ntmps58
  go_wp2_with fail
  refine H.out.mono ?_
  rintro e w1 ⟨rfl, rfl⟩
  go_wp2_with fail
  go_ret
  exact ⟨rfl, rfl⟩
def colN (D : ML) (k i : Nat) : List Nat := (List.range k).map fun j => (D.getD j []).getD i 0
theorem colC_nums (D : ML) (k i : Nat) : colC D k i = (colN D k i).map fun x : Nat => Value.int .u8 (x : Int) := by
  unfold colC colN
  rw [List.map_map]
  rfl
theorem colN_turn {D : ML} {k N i : Nat} (h : Shape D k N) (hi : i < N) : colN D k i = (laid N k (turn (en D))).getD i [] := by
  rw [laid_row _ hi]
  exact List.map_congr_left (fun j hj => h.num j i (List.mem_range.1 hj))
theorem colN_low {D : ML} {k N : Nat} (h : Shape D k N) (i : Nat) : ∀ x ∈ colN D k i, x < 256 := by
  intro x hx
  obtain ⟨j, hj, rfl⟩ := List.mem_map.1 hx
  have hj := List.mem_range.1 hj
  exact getD_lt (h.byte _ (mem_getD (by rw [h.high]; exact hj))) i
theorem dot_col {V D : ML} {m k N : Nat} (hV : Shape V m k) (hD : Shape D k N) (a i : Nat) (ha : a < m) (hi : i < N) : dotS (V.getD a []) (colN D k i) k = (mm k (en V) (en D) a i).n := by
  rw [colN_turn hD hi]
  exact dot_mm D hV a i ha hi
theorem col_rd {A : World} {z k i C : Nat} {D : ML} (h : Blk A z 5 C (colC D k i)) (hk : k ≤ 64) : Rd A (some ⟨C, 0, none⟩) (colN D k i) := by
  rw [colC_nums] at h
  have := blk_own h (n := k) (by simp [colN]) (by omega)
  exact this.isB.rd
theorem Grid.put {w : World} {B g n m : Nat} {R : Nat → Nat} {f : Mat} (h : Grid w B g n m R f) {l : Nat} {r : Loop} (hl : w.heap[l]? = some (.loop r)) (o : Obj) : Grid (w.putObj l o) B g n m R f := ⟨h.outer.put hl o, fun i hi => (h.row i hi).put hl o, h.apart⟩
theorem Grid.putD {w : World} {B g n m : Nat} {R : Nat → Nat} {f : Mat} (h : Grid w B g n m R f) {l : Nat} {r : Option (List Deferred)} (hl : w.heap[l]? = some (.deferred r)) (o : Obj) : Grid (w.putObj l o) B g n m R f := ⟨h.outer.putD hl o, fun i hi => (h.row i hi).putD hl o, h.apart⟩
theorem Grid.low {w w' : World} {B g n m z : Nat} {R : Nat → Nat} {f : Mat} (h : Grid w B g n m R f) (hb : Below z w w') (hg : g < z) (hR : ∀ i, i < n → R i < z) : Grid w' B g n m R f := ⟨h.outer.low hb hg, fun i hi => (h.row i hi).low hb (hR i hi), h.apart⟩
theorem below_drewN_ {w w' : World} {B : Nat} (h : Below B w.drew w') : Below B w w' := ⟨h.os, h.tape, h.output, h.size, h.block⟩
theorem cell_new_at (w : World) (v : Value) (t : TypeId) : (w.alloc (.cells #[v] t)).cell? ⟨w.heap.size, 0, none⟩ = some v := by simp
set_option maxRecDepth 100000 in
set_option maxHeartbeats 6400000 in
theorem made_any (AW AD : Option Addr) (m cw k cd N : Nat) (V D : ML) (w : World) (hW : IsM w AW V) (sW : Shape V m k) (hD : IsM w AD D) (sD : Shape D k N) (hm : m ≤ 14) (hk1 : 1 ≤ k) (hk : k ≤ 14) (hN : N ≤ 1000000) :
    Calls Try.prog 51 #[.slice AW m cw, .slice AD k cd] w fun e w' => ∃ g, e = .returned (.slice (some ⟨g, 0, none⟩) m m) ∧ OwnMt w' w.heap.size (.slice (some ⟨g, 0, none⟩) m m) (laid m N (mm k (en V) (en D))) ∧ Below w.heap.size w w' := by
  obtain ⟨i0, hi, hz0, hz1, hz2⟩ := info_parts Try.info_rows
  obtain ⟨i1, hj, hy0, hy1, hy2⟩ := info_parts Try.info_u8'
  have HJ := hide (And.intro hj (And.intro hy0 (And.intro hy1 hy2)))
  have HW := hide hW
  have HD := hide hD
  have SW := hide sW
  have SD := hide sD
  clear hj hy0 hy1 hy2 hW hD sW sD
  refine calls_marks Try.func51 rfl ?_
  simp only [Try.ntmps51, List.size_toArray, List.length_cons, List.length_nil, Nat.reduceAdd, Nat.reduceSub, Array.replicate_succ, Array.replicate_zero, List.push_toArray, List.append_toArray, List.nil_append, List.cons_append]
  go_wp2_with (at_make; refine halt ?_)
  refine ⟨?_⟩
  obtain ⟨B, hB⟩ : ∃ B, B = w.heap.size := ⟨_, rfl⟩
  refine wpList_make_full _ rfl (.tmp 12) (.tmp 12) 50 rfl B 24 i0 (.slice none 0 0) 1 Try.underlying50 hi hz0 hz1 .i64 .i64 m m m rfl rfl rfl rfl (by rw [hz2]; omega) (by unfold maxLen; omega) (by simp [hB]) ?_
  intro w2 h2' g2
  have o2 := made_nils h2'
  have b1 : Below (w.alloc (.cells #[.slice AW m cw] 50)).heap.size (w.alloc (.cells #[.slice AW m cw] 50)) w2 := (Below.refl _ _).grown g2 (Nat.le_refl _) (by simp)
  have b2 : Below w.heap.size w w2 := (below_alloc w _).trans (b1.mono (by simp))
  have cb2 : w2.cell? ⟨w.heap.size, 0, none⟩ = some (.slice AW m cw) := (b1.cell (p := ⟨w.heap.size, 0, none⟩) (by simp)).trans (cell_new_at w _ _)
  rw [← hB] at b2 cb2 ⊢
  obtain ⟨g, hg⟩ : ∃ g, g = (w.alloc (.cells #[.slice AW m cw] 50)).heap.size := ⟨_, rfl⟩
  rw [← hg] at o2 ⊢
  have hgB : B < g := by rw [hg, hB]; simp
  have hg2 : g < w2.heap.size := o2.lt
  clear h2' g2 hi hz0 hz1 hz2 i0 b1 hg
  obtain ⟨B2, hB2⟩ : ∃ B2, B2 = w2.heap.size := ⟨_, rfl⟩
  have O2 := hide o2
  have K2 := hide b2
  have HB2 := hide hB2
  have HBw := hide hB
  clear o2 b2 hB
  go_wp2_with fail
  rw [← hB2]
  obtain ⟨W3, hW3⟩ : ∃ W3, W3 = w2.alloc (.cells #[.slice (some ⟨g, 0, none⟩) m m] 50) := ⟨_, rfl⟩
  have cl3 : W3.cell? ⟨B2, 0, none⟩ = some (.slice (some ⟨g, 0, none⟩) m m) := by rw [hW3, hB2]; exact cell_new_at _ _ _
  have a3 : Below w2.heap.size w2 W3 := by rw [hW3]; exact below_alloc _ _
  have cw3 := (a3.cell (p := ⟨B, 0, none⟩) (cell_lt cb2)).trans cb2
  have o3 := O2.out.keep a3
  have s3 : w2.heap.size < W3.heap.size := by rw [hW3]; simp
  have k3 : Below B w W3 := K2.out.trans (a3.mono (by have := K2.out.size; rw [HBw.out]; exact this))
  rw [← hW3]
  have CL3 := hide cl3
  have CW3 := hide cw3
  have O3 := hide o3
  have K3 := hide k3
  have HG2 := hide (show g < B2 ∧ B < g ∧ B2 < W3.heap.size from ⟨by omega, hgB, by omega⟩)
  have neB : ¬ B2 = g := by omega
  have neW : ¬ B = g := by omega
  clear cl3 cw3 o3 k3 hW3 a3 cb2 O2 K2 HB2 hB2 s3 hg2 hgB
  go_loopw [16] (fun i wr => ∃ q : Nat, q ≤ m ∧ i = .int .i64 (q : Int) ∧ Hid (∃ R, Begun wr B g m N q R ∧ ∀ j, j < q → W3.heap.size ≤ R j) ∧ Hid (Turn (fun k => k = g) W3 wr)) (fun i _ => m - (intOf i).toNat)
  case atStart =>
    refine ⟨0, Nat.zero_le _, rfl, hide ⟨fun _ => 0, ⟨?_, fun i hi => absurd hi (Nat.not_lt_zero i), fun i j hi => absurd hi (Nat.not_lt_zero i)⟩, fun j h => absurd h (Nat.not_lt_zero j)⟩, hide (Turn.refl _ _)⟩
    have e : ((List.range m).map fun i => if i < 0 then rowV 0 N else .slice none 0 0) = List.replicate m (.slice none 0 0) := by
      apply List.ext_getElem
      · simp
      · intro i h1 h2
        simp
    rw [e]
    exact O3.out
  case round =>
    obtain ⟨q, hq, rfl, hbeg, htn⟩ := hrel
    have kb : Below B w wr := K3.out.trans (htn.out.below (by have := HG2.out; omega) (fun k e => by have := HG2.out; omega))
    by_cases hlt : q < m
    · obtain ⟨b0, off0, A0, c0, rfl, ck, -, -, -⟩ := (HD.out.below (by rw [← HBw.out]; exact kb)).at_ 0 (by rw [SD.out.high]; omega)
      rw [SD.out.len_at 0 (by omega), Nat.add_zero] at ck
      have cl := htn.out.cell CL3.out neB
      have hqi : (q : Int) < (m : Int) := by omega
      have hk0 : 0 < k := hk1
      have hm' : (m : Int) ≤ 14 := by omega
      go_wp2_with fail
      refine Ways.start (fun W' => W'.cell? ⟨B2, 0, none⟩ = some (.slice (some ⟨g, 0, none⟩) m m) ∧ W'.cell? ⟨b0, off0, none⟩ = some (.slice A0 N c0)) 8 9 #[false, false, false, false, false, false, false, false, false] (by kernel_rfl) (by kernel_rfl) (by kernel_rfl) ?_
      have hHeld : wr.drew.cell? ⟨B2, 0, none⟩ = some (.slice (some ⟨g, 0, none⟩) m m) ∧ wr.drew.cell? ⟨b0, off0, none⟩ = some (.slice A0 N c0) := ⟨cl, ck⟩
      refine' Ways.take (i := 0) (oi := ⟨_, _, _, _, _, _⟩) (v := _) rfl (by kernel_rfl) (by kernel_rfl) (by kernel_rfl) (by kernel_rfl) (fun _ _ _ h => h) hHeld (Or.inl ⟨rfl, ?_⟩) ?_
      rotate_left
      · (intro W hW; (try dsimp only at hW); go_simp; (try with_reducible rfl))
      try simp only [Act.put, List.setIfInBounds_toArray, List.set_cons_zero, List.set_cons_succ]
      refine' Ways.take (i := 1) (oi := ⟨_, _, _, _, _, _⟩) (v := _) rfl (by kernel_rfl) (by kernel_rfl) (by kernel_rfl) (by kernel_rfl) (fun _ _ _ h => h) hHeld (Or.inl ⟨rfl, ?_⟩) ?_
      rotate_left
      · (intro W hW; (try dsimp only at hW); go_simp; (try with_reducible rfl))
      try simp only [Act.put, List.setIfInBounds_toArray, List.set_cons_zero, List.set_cons_succ]
      refine' Ways.take (i := 2) (oi := ⟨_, _, _, _, _, _⟩) (v := _) rfl (by kernel_rfl) (by kernel_rfl) (by kernel_rfl) (by kernel_rfl) (fun _ _ _ h => h) hHeld (Or.inl ⟨rfl, ?_⟩) ?_
      rotate_left
      · (intro W hW; (try dsimp only at hW); go_simp; (try with_reducible rfl))
      try simp only [Act.put, List.setIfInBounds_toArray, List.set_cons_zero, List.set_cons_succ]
      refine' Ways.take (i := 3) (oi := ⟨_, _, _, _, _, _⟩) (v := _) rfl (by kernel_rfl) (by kernel_rfl) (by kernel_rfl) (by kernel_rfl) (fun _ _ _ h => h) hHeld (Or.inl ⟨rfl, ?_⟩) ?_
      rotate_left
      · (intro W hW; (try dsimp only at hW); go_simp; (try with_reducible rfl))
      try simp only [Act.put, List.setIfInBounds_toArray, List.set_cons_zero, List.set_cons_succ]
      refine' Ways.take (i := 4) (oi := ⟨_, _, _, _, _, _⟩) (v := _) rfl (by kernel_rfl) (by kernel_rfl) (by kernel_rfl) (by kernel_rfl) (fun _ _ _ h => h) hHeld (Or.inl ⟨rfl, ?_⟩) ?_
      rotate_left
      · (intro W hW; (try dsimp only at hW); go_simp; (try with_reducible rfl))
      try simp only [Act.put, List.setIfInBounds_toArray, List.set_cons_zero, List.set_cons_succ]
      refine' Ways.take (i := 5) (oi := ⟨_, _, _, _, _, _⟩) (v := _) rfl (by kernel_rfl) (by kernel_rfl) (by kernel_rfl) (by kernel_rfl) (fun _ _ _ h => h) hHeld (Or.inl ⟨rfl, ?_⟩) ?_
      rotate_left
      · (intro W hW; (try dsimp only at hW); go_simp; (try with_reducible rfl))
      try simp only [Act.put, List.setIfInBounds_toArray, List.set_cons_zero, List.set_cons_succ]
      obtain ⟨hj, hy0, hy1, hy2⟩ := HJ.out
      refine Ways.one (i := 6) (by kernel_rfl) rfl (fun K hK => ?_)
      refine step_make rfl (.tmp 24) (.tmp 24) 24 rfl wr.heap.size 5 i1 (.int .u8 0) 1 Try.underlying24 hj hy0 hy1 .i64 .i64 N rfl rfl (by rw [hy2]; omega) (by unfold maxLen; omega) (Nat.le_refl _) ?_
      intro w4 h4 g4
      clear hj hy0 hy1 hy2
      obtain ⟨R, hR, hRn⟩ := hbeg.out
      have z4 := made_zeros h4 q
      have k4 : Below wr.heap.size wr w4 := below_drewN_ (((Below.refl _ _).grown g4 (Nat.le_refl _) (by simp)))
      have hwr : W3.heap.size ≤ wr.heap.size := htn.out.size
      have hBw : B ≤ wr.heap.size := by have := HG2.out; omega
      have nx := hR.next hlt (z4.more (show B ≤ wr.drew.heap.size from hBw)) k4 (Nat.le_refl _)
      have f4 := (hR.outer.keep k4).frozen q
      have c4 : w4.cell? ⟨g, q, none⟩ = some (.slice none 0 0) := by
        rw [(hR.outer.keep k4).cell]
        simp [hlt]
      have x1 := (k4.cell (p := ⟨B2, 0, none⟩) (cell_lt cl)).trans cl
      have x2 := (k4.cell (p := ⟨b0, off0, none⟩) (cell_lt ck)).trans ck
      have NX := hide (show ∃ R, Begun (w4.setCell ⟨g, q, none⟩ (.slice (some ⟨wr.heap.size, 0, none⟩) N N)) B g m N (q + 1) R ∧ ∀ j, j < q + 1 → W3.heap.size ≤ R j from ⟨_, nx, fun j hj => by
        by_cases e : j = q
        · subst e; rw [if_pos rfl]; exact hwr
        · rw [if_neg e]; exact hRn j (by omega)⟩)
      have TN := hide (show Turn (fun k => k = g) W3 (w4.setCell ⟨g, q, none⟩ (.slice (some ⟨wr.heap.size, 0, none⟩) N N)) from (htn.out.trans (Turn.of_below _ k4)).trans ((Turn.of_grown (grown_set w4 g q _)).mono (fun i e => by simpa using e)))
      refine hK.out _ _ ⟨x1, x2⟩ ?_
      clear hK hHeld h4 g4 z4 k4 nx hR hRn hbeg htn kb cl ck
      try simp only [Act.put, List.setIfInBounds_toArray, List.set_cons_zero, List.set_cons_succ]
      have hHeld : w4.cell? ⟨B2, 0, none⟩ = some (.slice (some ⟨g, 0, none⟩) m m) ∧ w4.cell? ⟨b0, off0, none⟩ = some (.slice A0 N c0) := ⟨x1, x2⟩
      refine' Ways.take (i := 7) (oi := ⟨_, _, _, _, _, _⟩) (v := _) rfl (by kernel_rfl) (by kernel_rfl) (by kernel_rfl) (by kernel_rfl) (fun _ _ _ h => h) hHeld (Or.inl ⟨rfl, ?_⟩) ?_
      rotate_left
      · (intro W hW; (try dsimp only at hW); go_simp; (try with_reducible rfl))
      try simp only [Act.put, List.setIfInBounds_toArray, List.set_cons_zero, List.set_cons_succ]
      refine Ways.last (by kernel_rfl) rfl (by kernel_rfl) (fun K hK => ?_)
      go_simp
      refine hK.out _ _ ?_
      clear hK hHeld x1 x2
      obtain ⟨w5, hw5⟩ : ∃ w5, w5 = w4.setCell ⟨g, q, none⟩ (.slice (some ⟨wr.heap.size, 0, none⟩) N N) := ⟨_, rfl⟩
      rw [← hw5] at NX TN
      try rw [← hw5]
      clear hw5 c4 f4
      go_wp2_with fail
      go_roundw
      case rel => exact ⟨q + 1, by omega, by go_num, NX, TN⟩
      case measure => simp [intOf]; omega
    · obtain rfl : q = m := by omega
      obtain ⟨R, hR, hRn⟩ := hbeg.out
      have gd := hR.done
      have bx5 := below_alloc wr (.cells #[.slice AD k cd] 50)
      have gd5 := gd.keep bx5
      have cl5 := (bx5.cell (p := ⟨B2, 0, none⟩) (cell_lt (htn.out.cell CL3.out neB))).trans (htn.out.cell CL3.out neB)
      have cw5 := (bx5.cell (p := ⟨B, 0, none⟩) (cell_lt (htn.out.cell CW3.out neW))).trans (htn.out.cell CW3.out neW)
      have cx5 := cell_new_at wr (.slice AD k cd) 50
      have kb5 : Below B w (wr.alloc (.cells #[.slice AD k cd] 50)) := kb.trans (bx5.mono (by have := HG2.out; have := htn.out.size; omega))
      have hRx : ∀ j, j < q → W3.heap.size ≤ R j ∧ R j < wr.heap.size := fun j hj => ⟨hRn j hj, (gd.row j hj).lt⟩
      have hgx : g < wr.heap.size := gd.outer.lt
      have hs5 : (wr.alloc (.cells #[.slice AD k cd] 50)).heap.size = wr.heap.size + 1 := by simp
      have HC := hide (columns_any AD k cd wr)
      obtain ⟨W5, hW5⟩ : ∃ W5, W5 = wr.alloc (.cells #[.slice AD k cd] 50) := ⟨_, rfl⟩
      rw [← hW5] at HC gd5 cl5 cw5 cx5 kb5 hs5
      have G5 := hide gd5
      have CL5 := hide cl5
      have CW5 := hide cw5
      have CX5 := hide cx5
      have K5 := hide kb5
      have HRX := hide hRx
      have HGX := hide hgx
      have HS5 := hide hs5
      clear hbeg kb gd hR hRn bx5 gd5 cl5 cw5 cx5 kb5 hRx hgx hs5 hW5 htn CL3 CW3 O3 K3
      go_wp2_with fail
      refine HC.out.mono ?_
      rintro e W6 ⟨rfl, rfl⟩
      clear HC
      go_wp2_with fail
      have hBm : B ≤ W6.heap.size := by have := K5.out.size; rw [HBw.out]; exact this
      refine wp_range (gf := 62) (pb := #[]) (lb := #[.pointer (some ⟨wr.heap.size, 0, none⟩)]) rfl (enters_of Try.func62 (by kernel_rfl) rfl)
        (R := colR D k (W6.heap.size + 2)) (St := Below (W6.heap.size + 2)) (S := fun j => ∃ a, a < q ∧ j = R a) (N := N) ?seq ?sd ?sl ?st ?ps ?r
        (fun i A => Turn (fun j => ∃ a, a < q ∧ j = R a) W6 A ∧ ∃ f, Grid A B g q N R f ∧ ∀ a b, a < q → f a b = if b < i then mm k (en V) (en D) a b else G.zero)
        (fun _ _ _ => False) ?i ?ix ?il ?ixl ?i0 ?round ?done ?stop
      case seq =>
        intro r
        have hs1 : ((W6.alloc (.deferred (some []))).alloc (.loop r)).heap.size = W6.heap.size + 2 := by simp
        have b61 : Below W6.heap.size W6 ((W6.alloc (.deferred (some []))).alloc (.loop r)) := (below_alloc _ _).trans ((below_alloc _ _).mono (by simp))
        have := cols_seq AD k cd N wr.heap.size D ((W6.alloc (.deferred (some []))).alloc (.loop r)) (fun j => (∃ a, a < q ∧ j = R a) ∨ j = W6.heap.size + 1) hk1 (by omega) hN SD.out
          ((b61.cell (p := ⟨wr.heap.size, 0, none⟩) (by rw [HS5.out]; simp)).trans CX5.out)
          (fun h => by
            rcases h with ⟨a, ha, e⟩ | e
            · have := (HRX.out a ha).2; omega
            · have := HS5.out; omega)
          (fun j h => by
            rw [hs1]
            rcases h with ⟨a, ha, e⟩ | e
            · have := (HRX.out a ha).2; have := HS5.out; omega
            · omega)
          (fun A hA => HD.out.below (by
            rw [← HBw.out]
            exact (K5.out.trans (b61.mono hBm)).trans (hA.below (by rw [hs1]; omega) (fun j h => by
              rcases h with ⟨a, ha, e⟩ | e
              · have := (HRX.out a ha).1; have := HG2.out; omega
              · omega))))
        rw [hs1] at this
        exact this
      case sd => rintro ⟨a, ha, e⟩; have := (HRX.out a ha).2; have := HS5.out; omega
      case sl => rintro ⟨a, ha, e⟩; have := (HRX.out a ha).2; have := HS5.out; omega
      case st => exact fun A B' j o h hj ho => (h.block j hj).trans ho
      case ps => rintro i vs A ⟨C, rfl, _⟩; rfl
      case r => rintro i vs A r r' ⟨C, rfl, hC⟩ hl; exact ⟨C, rfl, hC.put hl _⟩
      case i =>
        rintro i A B' ⟨hT, f, hG, hf⟩ hb
        exact ⟨hT.low hb (by omega), f, hG.low hb (by have := HGX.out; have := HS5.out; omega) (fun j hj => by have := (HRX.out j hj).2; have := HS5.out; omega), hf⟩
      case ix => exact fun _ _ _ _ h _ => h
      case il =>
        rintro i A r r' ⟨hT, f, hG, hf⟩ hl
        exact ⟨hT.putL (by omega) _, f, hG.put hl _, hf⟩
      case ixl => exact fun _ _ _ _ _ h _ => h
      case i0 =>
        intro r
        have b61 : Below W6.heap.size W6 ((W6.alloc (.deferred (some []))).alloc (.loop r)) := (below_alloc _ _).trans ((below_alloc _ _).mono (by simp))
        exact ⟨Turn.of_below _ b61, fun _ _ => G.zero, G5.out.keep b61, fun a b _ => (if_neg (Nat.not_lt_zero b)).symm⟩
      case round =>
        rintro l i vs W0 W hi ⟨hT, hG⟩ ⟨C, rfl, hC⟩ hlow
        have HT := hide hT
        have HG := hide hG
        have HCC := hide hC
        have lowR := HRX.out
        have nB2 : ¬ (∃ a, a < q ∧ B2 = R a) := fun ⟨a, ha, e⟩ => by have := (HRX.out a ha).1; have := HG2.out; omega
        have nB : ¬ (∃ a, a < q ∧ B = R a) := fun ⟨a, ha, e⟩ => by have := (HRX.out a ha).1; have := HG2.out; omega
        have nC : ¬ (∃ a, a < q ∧ C = R a) := fun ⟨a, ha, e⟩ => by have := (HRX.out a ha).2; have := HS5.out; have := hC.1; omega
        have NB := hide (And.intro nB2 (And.intro nB nC))
        have cl := hT.cell CL5.out nB2
        clear hT hG hC lowR nB2 nB nC
        gi_wp2
        refine ⟨trivial, ?_⟩
        gi_wp2
        gi_loopw [34] (fun p wr => ∃ t : Nat, t ≤ q ∧ p = .int .i64 (t : Int) ∧ Hid (Turn (fun j => ∃ a, a < q ∧ j = R a) W wr) ∧ Hid (∃ f, Grid wr B g q N R f ∧ ∀ a b, a < q → f a b = if b < i ∨ (b = i ∧ a < t) then mm k (en V) (en D) a b else G.zero)) (fun p _ => q - (intOf p).toNat)
        case atStart =>
          obtain ⟨f, hf, ef⟩ := HG.out
          refine ⟨0, Nat.zero_le _, rfl, hide (Turn.refl _ _), hide ⟨f, hf, fun a b ha => ?_⟩⟩
          rw [ef a b ha]
          by_cases e : b < i
          · rw [if_pos e, if_pos (.inl e)]
          · rw [if_neg e, if_neg (fun h => by rcases h with h | h <;> omega)]
        case round =>
          obtain ⟨t, ht, rfl, htn, hgr⟩ := hrel
          by_cases hlt : t < q
          · obtain ⟨f, gf, ef⟩ := hgr.out
            have TT := HT.out.trans htn.out
            have c1 := gf.cell t hlt
            have c2 := gf.num t i hlt hi
            have c3 := gf.frozen t i hlt
            have cw := TT.cell CW5.out NB.out.2.1
            have kb : Below B w wr := K5.out.trans (TT.below hBm (fun j ⟨a, ha, e⟩ => by have := (HRX.out a ha).1; have := HG2.out; omega))
            obtain ⟨bV, oV, Ar, cr, rfl, ck, ib, l1, m1⟩ := (HW.out.below (by rw [← HBw.out]; exact kb)).at_ t (by rw [SW.out.high]; exact hlt)
            have lt := SW.out.len_at t hlt
            rw [lt] at ck ib l1
            have hmem := mem_getD (xss := V) (k := t) (by rw [SW.out.high]; exact hlt)
            have HDOT := hide (sdot_any Ar (some ⟨C, 0, none⟩) k cr k (V.getD t []) (colN D k i) wr ib.rd (col_rd (HCC.out.turn htn.out NB.out.2.2) (by omega)) lt (by simp [colN]) (SW.out.byte _ hmem) (colN_low SD.out i) (by omega))
            rw [dot_col SW.out SD.out t i hlt hi] at HDOT
            have st := gf.set t i hlt (mm k (en V) (en D) t i)
            have NX := hide (show ∃ f, Grid (wr.setCell ⟨R t, i, none⟩ (.int .u8 ((mm k (en V) (en D) t i).n : Int))) B g q N R f ∧ ∀ a b, a < q → f a b = if b < i ∨ (b = i ∧ a < t + 1) then mm k (en V) (en D) a b else G.zero from ⟨_, st, fun a b ha => by
              by_cases e1 : a = t
              · subst e1
                by_cases e2 : b = i
                · subst e2; rw [upd_at, if_pos (.inr ⟨rfl, by omega⟩)]
                · rw [upd_col e2, ef a b ha]
                  by_cases e3 : b < i
                  · rw [if_pos (.inl e3), if_pos (.inl e3)]
                  · rw [if_neg (fun h => by rcases h with h | h <;> omega), if_neg (fun h => by rcases h with h | h <;> omega)]
              · rw [upd_row e1, ef a b ha]
                by_cases e3 : b < i ∨ (b = i ∧ a < t)
                · rw [if_pos e3, if_pos (e3.imp id (fun h => ⟨h.1, by omega⟩))]
                · rw [if_neg e3, if_neg (fun h => e3 (h.imp id (fun h => ⟨h.1, by omega⟩)))]⟩)
            have TN := hide (show Turn (fun j => ∃ a, a < q ∧ j = R a) W (wr.setCell ⟨R t, i, none⟩ (.int .u8 ((mm k (en V) (en D) t i).n : Int))) from htn.out.trans ((Turn.of_grown (grown_set wr (R t) i _)).mono (fun j e => ⟨t, hlt, by simpa using e⟩)))
            obtain ⟨v, hv⟩ : ∃ v, v = (mm k (en V) (en D) t i).n := ⟨_, rfl⟩
            rw [← hv] at HDOT NX TN
            have htq : (t : Int) < (q : Int) := by omega
            have hiN : (i : Int) < (N : Int) := by omega
            clear hv st gf ef hgr htn TT kb ib hmem lt
            gi_wp2
            refine ⟨trivial, (CallsIn.inRound l (callsIn_wide.2 HDOT.out)).mono ?_⟩
            rintro e w' ⟨rfl, rfl⟩
            gi_wp2
            go_roundw
            case rel => exact ⟨t + 1, by omega, by go_num, TN, NX⟩
            case measure => simp [intOf]; omega
          · obtain rfl : t = q := by omega
            gi_wp2
            refine ⟨htn.out, HT.out.trans htn.out, ?_⟩
            obtain ⟨f, gf, ef⟩ := hgr.out
            refine ⟨f, gf, fun a b ha => ?_⟩
            rw [ef a b ha]
            by_cases e : b < i + 1
            · rw [if_pos e, if_pos (show b < i ∨ (b = i ∧ a < t) by omega)]
            · rw [if_neg e, if_neg (fun h => by rcases h with h | h <;> omega)]
      case done =>
        rintro W ⟨hT, f, hG, hf⟩ hK
        have nB2 : ¬ (∃ a, a < q ∧ B2 = R a) := fun ⟨a, ha, e⟩ => by have := (HRX.out a ha).1; have := HG2.out; omega
        have cl := hT.cell CL5.out nB2
        have nD : W6.heap.size ≥ B := hBm
        have kb : Below B w W := K5.out.trans (hT.below hBm (fun j ⟨a, ha, e⟩ => by have := (HRX.out a ha).1; have := HG2.out; omega))
        have KB := hide kb
        have HG := hide hG
        have HF := hide hf
        clear hT kb hG hf
        go_wp2_with fail
        refine ⟨by simp, .inl ⟨_, _, rfl, run_takeDeferred hK, ?_⟩⟩
        refine ⟨_, results_tmp rfl _ _ _, g, rfl, ?_, ?_⟩
        · have := (HG.out.putD hK (.deferred none)).own (by omega) hN
          rw [← HBw.out, ← show laid q N f = laid q N (mm k (en V) (en D)) from laid_congr (fun a ha b hb => by rw [HF.out a b ha, if_pos hb])]
          exact this
        · rw [← HBw.out]
          exact below_put KB.out nD _
      case stop => exact fun _ _ _ _ h _ => h.elim
end Go.Proofs.Ytdbngchbhoanpaa
