/- What a walk inside a fence wants: heads for ranges over functions; blocks that stand when a loop's record turns. It names nothing of the program. -/
import Derived.Test.YtehgjkckhjggbaaVr19
import Derived.Test.YtehgjkckhjggbaaVr3
import Derived.Shelf.Abstract
import Derived.Shelf.RegionOpen
import Derived.WalkKit
import Derived.OwnWalkIn
import Derived.TacticsInMore
import Derived.LoopNIn
import Derived.LoopIn
namespace Go.Proofs.Ytehgjkckhjggbaa
open Go.RowKit
theorem Blk.put {w : World} {B : Nat} {e : TypeId} {g : Nat} {cs : List Value} (h : Blk w B e g cs) {l : Nat} {r : Loop} (hl : w.heap[l]? = some (.loop r)) (o : Obj) : Blk (w.putObj l o) B e g cs := by
  obtain ⟨hB, cur, hh, hc⟩ := h
  refine ⟨hB, cur, ?_, hc⟩
  rw [World.putObj_heap_other (fun q => by subst q; rw [hh] at hl; cases hl)]
  exact hh
theorem Blk.putD {w : World} {B : Nat} {e : TypeId} {g : Nat} {cs : List Value} (h : Blk w B e g cs) {l : Nat} {r : Option (List Deferred)} (hl : w.heap[l]? = some (.deferred r)) (o : Obj) : Blk (w.putObj l o) B e g cs := by
  obtain ⟨hB, cur, hh, hc⟩ := h
  refine ⟨hB, cur, ?_, hc⟩
  rw [World.putObj_heap_other (fun q => by subst q; rw [hh] at hl; cases hl)]
  exact hh
theorem Blk.low {w w' : World} {B z : Nat} {e : TypeId} {g : Nat} {cs : List Value} (h : Blk w B e g cs) (hb : Below z w w') (hg : g < z) : Blk w' B e g cs := by
  obtain ⟨hB, cur, hh, hc⟩ := h
  exact ⟨hB, cur, by rw [hb.block g hg]; exact hh, hc⟩
theorem Turn.low {S : Nat → Prop} {W A B : World} {z : Nat} (h : Turn S W A) (hb : Below z A B) (hz : W.heap.size ≤ z) : Turn S W B :=
  ⟨hb.os.trans h.os, hb.tape.trans h.tape, hb.output.trans h.output, Nat.le_trans h.size hb.size, fun k hk hn => (hb.block k (by omega)).trans (h.block k hk hn)⟩
theorem Turn.putL {S : Nat → Prop} {W A : World} {l : Nat} (h : Turn S W A) (hl : W.heap.size ≤ l) (o : Obj) : Turn S W (A.putObj l o) :=
  ⟨h.os, h.tape, h.output, by rw [World.putObj_size]; exact h.size, fun k hk hn => (World.putObj_heap_other (by omega)).trans (h.block k hk hn)⟩
theorem Turn.alloc {S : Nat → Prop} {W A : World} (h : Turn S W A) (o : Obj) : Turn S W (A.alloc o) := h.trans (Turn.of_below _ (below_alloc A o))
theorem Turn.cell {S : Nat → Prop} {W A : World} {a : Addr} {v : Value} (h : Turn S W A) (hc : W.cell? a = some v) (hn : ¬ S a.block) : A.cell? a = some v := by
  rw [← hc]
  exact World.cell?_of_block (h.block a.block (cell_lt hc) hn)
theorem below_put {w A : World} {B l : Nat} (h : Below B w A) (hl : B ≤ l) (o : Obj) : Below B w (A.putObj l o) :=
  ⟨h.os, h.tape, h.output, by rw [World.putObj_size]; exact h.size, fun k hk => (World.putObj_heap_other (by omega)).trans (h.block k hk)⟩
section
variable {P : Program} {r : Option Nat} {n : Nat}
/-- The wide fence, in a round or not. -/
def WF (r : Option Nat) : Fence := { Fence.wide with round := r }
def IsW (F : Fence) : Prop := ∃ r, F = WF r
theorem isW_wide : IsW Fence.wide := ⟨none, rfl⟩
theorem isW_round (l : Nat) : IsW (Fence.wide.inRound l) := ⟨some l, rfl⟩
theorem rowsIn_wide {row : String} {args : Array Value} {w : World} {R : Value → World → Prop} (h : Rows P row args w R) : RowsIn (WF r) n P row args w R :=
  fun c cs _ => let ⟨v, w', q, s⟩ := h c cs; ⟨v, w', q, stepsIn_wide.2 s⟩
/-- An operation that is no defer statement goes in a round as anywhere. -/
theorem oper_in {o : Oper} {a : Act} {w : World} {K : Act → World → Prop} {Q : Exit → Act → World → Prop} (hd : ∀ c, o.op ≠ .defer c) (h : Oper.wp P o a w K Q) : Oper.wpIn (WF r) n P o a w K Q := by
  refine ⟨fun _ _ => trivial, ?_⟩
  have e : o.semAt (WF r).round a.eval = execOp a.eval o := by
    cases r with
    | none => exact Oper.semAt_none _ _
    | some l => exact Oper.semAt_some l _ _ hd
  rw [e]
  unfold Oper.wp at h
  generalize (execOp a.eval o).run P w = R at h ⊢
  cases R with
  | ok x w' =>
    cases x with
    | value v => exact h
    | skip => exact h
    | defer d => exact h
    | enter f args => exact ⟨(fun q => by cases q), callsIn_wide.2 h⟩
    | row row args => exact ⟨(fun q => by cases q), rowsIn_wide h⟩
    | round l f tmps assign body => exact h.elim
    | _ => exact h.elim
  | halt x w' => cases x <;> exact h
theorem wpListIn_by {ops : Array Oper} {Q : Exit → Act → World → Prop} {rest : List Oper} {o : Oper} {a : Act} {w : World} (hd : ∀ c, o.op ≠ .defer c)
    (h : ∀ K : Act → World → Prop, (∀ b u, wpListIn (WF r) n P ops Q rest b u → K b u) → if Region.wanted o (yielded ops a.tmps) = true then Oper.wp P o a w K Q else K (a.put o.dst undef) w) :
    wpListIn (WF r) n P ops Q (o :: rest) a w := by
  refine wpListIn_step fun K hK => ?_
  have := h K hK
  split at this
  · rename_i e
    rw [if_pos e]
    exact oper_in hd this
  · rename_i e
    rw [if_neg e]
    exact ⟨fun _ _ => trivial, this⟩
theorem wpOpIn_by {ops : Array Oper} {Q : Exit → Act → World → Prop} {i : Nat} {K : Act → World → Prop} {a : Act} {w : World} (hd : ∀ o : Oper, ops[i]? = some o → ∀ c, o.op ≠ .defer c) (hQ : ¬ LetsOut Q) (h : wpOp P ops Q i K a w) : wpOpIn (WF r) n P ops Q i K a w := by
  unfold wpOp at h
  unfold wpOpIn
  cases e : ops[i]? with
  | none => rw [e] at h; exact h
  | some o =>
    rw [e] at h
    simp only at h ⊢
    by_cases q : Region.wanted o (yielded ops a.tmps) = true
    · rw [if_pos q] at h ⊢
      exact oper_in (hd o e) (h.resolve_right (fun q => hQ q.2))
    · rw [if_neg q] at h ⊢
      exact ⟨fun _ _ => trivial, h⟩
theorem wpAnyIn_by {ops : Array Oper} {md : Region.Mode} {Q : Exit → Act → World → Prop} (hd : ∀ (i : Nat) (o : Oper), ops[i]? = some o → ∀ c, o.op ≠ .defer c) (hQ : ¬ LetsOut Q) :
    ∀ (fuel : Nat) (listed : Array Bool) (a : Act) (w : World), wpAny P md ops Q fuel listed a w → wpAnyIn (WF r) n P md ops Q fuel listed a w
  | 0, _, _, _, h => h
  | fuel + 1, _, _, _, h => ⟨h.1, fun i hi => wpOpIn_by (hd i) hQ (wpOp_mono (fun b u hb => wpAnyIn_by hd hQ fuel _ b u hb) (h.2 i hi))⟩
/-- A region that draws its order, in a round as anywhere. -/
theorem region_in {ops : Array Oper} {Q : Exit → Act → World → Prop} {id : Nat} {a : Act} {w : World} (hm : P.follows .mixedOrders = true) (hd : ∀ (i : Nat) (o : Oper), ops[i]? = some o → ∀ c, o.op ≠ .defer c) (hQ : ¬ LetsOut Q)
    (h : wpAny P .any ops Q ops.size (Array.replicate ops.size false) a w.drew) : (Code.region id ops true).wpIn (WF r) n P Q a w := wpIn_region_any hm (wpAnyIn_by hd hQ _ _ _ _ h)
theorem no_defer {ops : Array Oper} (h : ops.all (fun o : Oper => match o.op with | .defer _ => false | _ => true) = true) : ∀ (i : Nat) (o : Oper), ops[i]? = some o → ∀ c, o.op ≠ .defer c := by
  intro i o hi c e
  rw [Array.all_eq_true] at h
  obtain ⟨hlt, rfl⟩ := Array.getElem?_eq_some_iff.1 hi
  have := h i hlt
  rw [e] at this
  cases this
theorem Ways.startIn {ops : Array Oper} {Q : Exit → Act → World → Prop} {id : Nat} {a : Act} {w : World} (S : World → Prop) (L k : Nat) (l : Array Bool) (hn : ops.size = k) (hl : Array.replicate k false = l) (hm : P.follows .mixedOrders = true)
    (hd : ops.all (fun o : Oper => match o.op with | .defer _ => false | _ => true) = true) (hQ : ¬ LetsOut Q) (h : Ways P .any ops Q S L k l a w.drew) : (Code.region id ops true).wpIn (WF r) n P Q a w := by
  subst hn
  subst hl
  exact region_in hm (no_defer hd) hQ (Ways.any _ _ _ _ h)
end
section
variable {P : Program} {F : Fence} {n : Nat}
theorem wpListIn_op (hF : IsW F) {ops : Array Oper} {Q : Exit → Act → World → Prop} {rest : List Oper} {o : Oper} {a : Act} {w : World} (hd : ∀ c, o.op ≠ .defer c)
    (h : ∀ K : Act → World → Prop, (∀ b u, wpListIn F n P ops Q rest b u → K b u) → if Region.wanted o (yielded ops a.tmps) = true then Oper.wp P o a w K Q else K (a.put o.dst undef) w) :
    wpListIn F n P ops Q (o :: rest) a w := by
  obtain ⟨r, rfl⟩ := hF
  exact wpListIn_by hd h
/-- make, of whole length. -/
theorem wpListIn_make_full (hF : IsW F) (w : World) {ops : Array Oper} {rest : List Oper} {o : Oper} {a : Act} {Q : Exit → Act → World → Prop}
    (hg : o.guard = none) (l c : Operand) (t : TypeId) (hop : o.op = Op.makeSlice t l c)
    (base : Nat) (e : TypeId) (i : TypeInfo) (z : Value) (size : Nat) (h1 : P.underlying t = some (.slice e)) (h2 : P.info? e = some i) (h3 : i.zero = some z) (h4 : i.size = size)
    (kl kc : IntKind) (m : Nat) (hl : a.eval l = .int kl (m : Int)) (hc : a.eval c = .int kc (m : Int)) (b2 : i.bytes * m ≤ 281474976710656) (b3 : m ≤ maxLen) (b4 : base ≤ w.heap.size)
    (hK : ∀ w', w'.ownsRow base e size (.slice (some ⟨w.heap.size, 0, none⟩) m m) m (madeCells z.cells (m * size)).toList → w.grownBy w' none → wpListIn F n P ops Q rest (a.put o.dst (.slice (some ⟨w.heap.size, 0, none⟩) m m)) w') :
    wpListIn F n P ops Q (o :: rest) a w := by
  refine wpListIn_op hF (by rw [hop]; intro c h; cases h) fun K hK' => ?_
  obtain ⟨w', hrun, r1, r2⟩ := run_make_full (P := P) w base t e i z size h1 h2 h3 h4 kl kc m b2 b3 b4
  rw [if_pos (by simp [Region.wanted, hg])]
  unfold Oper.wp
  simp [execOp, hop, hl, hc, hrun, Result.andThen]
  exact hK' _ _ (hK w' r1 r2)
/-- A region that draws its order and whose last operation turns what others load. -/
theorem ways_in (hF : IsW F) {ops : Array Oper} {Q : Exit → Act → World → Prop} {id : Nat} {a : Act} {w : World} (S : World → Prop) (L k : Nat) (l : Array Bool) (hn : ops.size = k) (hl : Array.replicate k false = l) (hm : P.follows .mixedOrders = true)
    (hd : ops.all (fun o : Oper => match o.op with | .defer _ => false | _ => true) = true) (hQ : ¬ LetsOut Q) (h : Ways P .any ops Q S L k l a w.drew) : (Code.region id ops true).wpIn F n P Q a w := by
  obtain ⟨r, rfl⟩ := hF
  exact Ways.startIn S L k l hn hl hm hd hQ h
/-- A region that draws its order and whose loads may all be taken first. -/
theorem held_in (hF : IsW F) {ops : Array Oper} {Q : Exit → Act → World → Prop} {id : Nat} {a : Act} {w : World} (S : World → Prop) (k : Nat) (l : Array Bool) (hn : ops.size = k) (hl : Array.replicate k false = l) (hm : P.follows .mixedOrders = true)
    (hd : ops.all (fun o : Oper => match o.op with | .defer _ => false | _ => true) = true) (hQ : ¬ LetsOut Q) (h : wpAnyH P .any ops Q S k l a w.drew) : (Code.region id ops true).wpIn F n P Q a w := by
  obtain ⟨r, rfl⟩ := hF
  subst hn
  subst hl
  exact region_in hm (no_defer hd) hQ (wpAny_of_held _ _ _ _ h)
theorem held_one {ops : Array Oper} {md : Region.Mode} {Q : Exit → Act → World → Prop} {S : World → Prop} {i : Nat} {o : Oper} {fuel : Nat} {listed : Array Bool} {a : Act} {w : World} (hr : Region.ready md ops listed = [i]) (ho : ops[i]? = some o)
    (h : ∀ K : Act → World → Prop, Hid (∀ b u, S u → wpAnyH P md ops Q S fuel (listed.setIfInBounds i true) b u → K b u) → if Region.wanted o (yielded ops a.tmps) = true then Oper.wp P o a w K Q else K (a.put o.dst undef) w) :
    wpAnyH P md ops Q S (fuel + 1) listed a w := by
  refine wpAnyH_all hr (by simp) (fun j hj => ?_)
  rw [List.mem_singleton] at hj
  subst hj
  exact wpOp_step ho (fun K hK => h K (hide fun b u hS hW => hK b u ⟨hS, hW⟩))
end
end Go.Proofs.Ytehgjkckhjggbaa
