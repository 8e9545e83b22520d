/- A range over a function, with footprints: the function's contract by rounds (what a round is handed may hang on the memory; what the function itself does between two rounds is said), and the law for the loop. It names nothing of the program. -/
import Derived.RangeFuncNested
import Derived.RangeFuncBound
import Derived.RangeFuncCalls
import Derived.RangeFuncLeaves
import Derived.Test.YtdbngchbhoanpaaSr9
namespace Go.Proofs.Ytdbngchbhoanpaa
open Go.RowKit
/-- The contract of a function value that is ranged over: N rounds; round i is handed what R i says; the function itself does St; a round turns what lies in S, and new memory. -/
def SeqC (P : Program) (g : Nat) (pb lb : Array Value) (R : Nat → Array Value → World → Prop) (St : World → World → Prop) (S : Nat → Prop) (N : Nat) (W : World) : Prop :=
  ∀ (l : Nat) (J Jx : Nat → World → Prop), (∀ i A B, J i A → St A B → J i B) → (∀ i A B, Jx i A → St A B → Jx i B) →
    (∀ i vs A, i < N → J i A → R i vs A → YieldAt Fence.wide 2 P l vs A fun e B => (e = .returned (.bool true) ∧ J (i + 1) B ∧ Turn S A B) ∨ (e = .returned (.bool false) ∧ Jx (i + 1) B)) →
    J 0 W → CallsIn Fence.wide 3 P g (pb ++ #[.func (.yield l) #[] #[]] ++ lb) W fun e W' => (∃ v, e = .returned v) ∧ (J N W' ∨ ∃ i, i ≤ N ∧ Jx i W')
/-- What the body of a function must achieve that holds a range over a function; it does not panic. -/
def endM (P : Program) (fn : Func) (R : Ending → World → Prop) : Exit → Act → World → Prop
  | .normal, a, w | .ret, a, w => LeavesInM Fence.wide 4 P fn a.tmps R a.defers .returning w
  | _, _, _ => False
theorem calls_marks {P : Program} {f : FuncId} {fn : Func} {c : Code} {args : Array Value} {w : World} {R : Ending → World → Prop} (hf : P.funcs[f]? = some fn) (hb : fn.body = some c)
    (h : c.wp P (endM P fn R) { tmps := args ++ Array.replicate (fn.ntmps - args.size) undef, defers := [] } w) : Calls P f args w R := by
  refine (callsIn_wide (n := 4)).1 (callsIn_of_wp_marks hf hb trivial (wpIn_wide.2 (wp_mono h ?_)) rfl)
  intro e a w' q
  cases e with
  | normal => exact q
  | ret => exact q
  | exit id => exact q.elim
  | goto l => exact q.elim
  | panic c => exact q.elim
  | outgrown => exact q.elim
/-- How a round may be left. -/
def roundWay (S : Nat → Prop) (I : Nat → World → Prop) (Ix : Code → Nat → World → Prop) (i : Nat) (W : World) : Exit → Act → World → Prop
  | .normal, _, W' => Turn S W W' ∧ I i W'
  | .ret, _, W' => Turn S W W' ∧ Ix .ret i W'
  | .exit id, _, W' => Turn S W W' ∧ Ix (.exit id) i W'
  | .goto t, _, W' => Turn S W W' ∧ Ix (.goto t) i W'
  | .panic _, _, _ => False
  | .outgrown, _, _ => False
theorem Turn.put {S : Nat → Prop} (W : World) (l : Nat) (o : Obj) (h : S l) : Turn S W (W.putObj l o) := ⟨rfl, rfl, rfl, by simp, fun k _ hn => World.putObj_heap_other (fun e => hn (e ▸ h))⟩
theorem Turn.at_ {S : Nat → Prop} {A B : World} {k : Nat} {o : Obj} (h : Turn S A B) (hk : A.heap[k]? = some o) (hn : ¬ S k) : B.heap[k]? = some o := (h.block k (heap_lt hk) hn).trans hk
/-- The law. -/
theorem wp_range {P : Program} {g : Operand} {ps : Array Tmp} {assign body : Code} {Q : Exit → Act → World → Prop} {a : Act} {w : World} {gf : Nat} {pb lb : Array Value}
    (hg : a.eval g = .func (.func gf) pb lb) (eg : ∀ args w, (callFunc gf args).run P w = .ok (.enter gf args) w)
    {R : Nat → Array Value → World → Prop} {St : World → World → Prop} {S : Nat → Prop} {N : Nat}
    (hseq : ∀ r, SeqC P gf pb lb R St (fun k => S k ∨ k = w.heap.size + 1) N ((w.alloc (.deferred (some []))).alloc (.loop r)))
    (hSD : ¬ S w.heap.size) (hSL : ¬ S (w.heap.size + 1)) (hSt : ∀ A B k o, St A B → k < w.heap.size + 2 → A.heap[k]? = some o → B.heap[k]? = some o)
    (hps : ∀ i vs A, R i vs A → vs.size = ps.size) (hR : ∀ i vs A r r', R i vs A → A.heap[w.heap.size + 1]? = some (.loop r) → R i vs (A.putObj (w.heap.size + 1) (.loop r')))
    (I : Nat → World → Prop) (Ix : Code → Nat → World → Prop) (hI : ∀ i A B, I i A → St A B → I i B) (hIx : ∀ c i A B, Ix c i A → St A B → Ix c i B)
    (hIL : ∀ i A r r', I i A → A.heap[w.heap.size + 1]? = some (.loop r) → I i (A.putObj (w.heap.size + 1) (.loop r'))) (hIxL : ∀ c i A r r', Ix c i A → A.heap[w.heap.size + 1]? = some (.loop r) → Ix c i (A.putObj (w.heap.size + 1) (.loop r')))
    (h0 : ∀ r, I 0 ((w.alloc (.deferred (some []))).alloc (.loop r))) 
    (hround : ∀ (l i : Nat) (vs : Array Value) (W0 W : World), i < N → I i W → R i vs W → (∀ k, k < w.heap.size + 2 → k < W.heap.size) →
      assign.wpIn (Fence.wide.inRound l) 2 P (Exit.then (fun a' W' => W' = W0 ∧ body.wpIn (Fence.wide.inRound l) 2 P (roundWay S I Ix (i + 1) W) a' W) (fun _ _ _ => False)) { tmps := (ps.zip vs).foldl (fun t (p, v) => t.setIfInBounds p v) a.tmps, defers := [] } W0)
    (hdone : ∀ (W : World), I N W → W.heap[w.heap.size]? = some (.deferred (some [])) → Q .normal { a with defers := { target := .collected w.heap.size, args := #[] } :: a.defers } W)
    (hstop : ∀ (c : Code) (i : Nat) (W : World), i ≤ N → Ix c i W → W.heap[w.heap.size]? = some (.deferred (some [])) → c.wp P Q { a with defers := { target := .collected w.heap.size, args := #[] } :: a.defers } W) :
    (Code.rangeFunc g ps assign body).wp P Q a w := by
  refine (wpIn_wide (n := 4)).1 (wpIn_rangeFunc ?_)
  intro fn hfn
  rw [show Fence.wide.round = none from rfl]
  obtain ⟨rec, hrec⟩ : ∃ rec : LoopState → Option Code → Loop, rec = fun st pe => { state := st, pending := pe, fn, tmps := a.tmps, params := ps, assign, body, defers := w.heap.size } := ⟨_, rfl⟩
  obtain ⟨W1, hW1⟩ : ∃ W1, (w.alloc (.deferred (some []))).alloc (.loop (rec .ready none)) = W1 := ⟨_, rfl⟩
  have hL1 : W1.heap[w.heap.size + 1]? = some (.loop (rec .ready none)) := by
    rw [← hW1]; have := World.alloc_heap_new (w.alloc (.deferred (some []))) (.loop (rec .ready none)); rwa [World.size_alloc] at this
  have hK1 : W1.heap[w.heap.size]? = some (.deferred (some [])) := by
    rw [← hW1]; exact (Below.heap_alloc _ _ _ (by simp)).trans (World.alloc_heap_new w _)
  have hI1 : I 0 W1 := by rw [← hW1]; exact h0 _
  have hsz : W1.heap.size = w.heap.size + 2 := by rw [← hW1]; simp
  refine ⟨w.heap.size + 1, [{ target := .collected w.heap.size, args := #[] }], W1, { target := .fn (.func gf) lb, args := pb ++ #[.func (.yield (w.heap.size + 1)) #[] #[]] }, W1, gf,
    pb ++ #[.func (.yield (w.heap.size + 1)) #[] #[]] ++ lb, W1, ?_, ?_, fun _ _ => trivial, ?_, (fun h => by cases h), ?_⟩
  · rw [← hW1, hrec]; exact run_enterLoop_outer _ _ _ _ _
  · simp only [resolve, hg]
    simp [go_sem]
  · simp [invoke, go_sem, eg]
  · have hs := hseq (rec .ready none)
    rw [hW1] at hs
    refine (hs (w.heap.size + 1)
      (fun i W => I i W ∧ W.heap[w.heap.size + 1]? = some (.loop (rec .ready none)) ∧ W.heap[w.heap.size]? = some (.deferred (some [])) ∧ (∀ k, k < w.heap.size + 2 → k < W.heap.size))
      (fun i W => ∃ c, Ix c i W ∧ W.heap[w.heap.size + 1]? = some (.loop (rec .done (some c))) ∧ W.heap[w.heap.size]? = some (.deferred (some [])))
      (fun i A B h st => ⟨hI i A B h.1 st, hSt A B _ _ st (by omega) h.2.1, hSt A B _ _ st (by omega) h.2.2.1, fun k hk => by
        have := h.2.2.2 k hk
        exact (Array.getElem?_eq_some_iff.1 (hSt A B k A.heap[k] st hk (Array.getElem?_eq_some_iff.2 ⟨this, rfl⟩))).1⟩)
      (fun i A B h st => by
        obtain ⟨c, hc, hl, hk⟩ := h
        exact ⟨c, hIx c i A B hc st, hSt A B _ _ st (by omega) hl, hSt A B _ _ st (by omega) hk⟩)
      ?_ ⟨hI1, hL1, hK1, fun k hk => by omega⟩).mono ?_
    · rintro i vs W hiN ⟨hi, hl, hk, hlow⟩ hr
      have hlt : w.heap.size + 1 < W.heap.size := heap_lt hl
      have hy := run_yield (P := P) (args := vs) hl (by rw [hrec]; exact hps i vs W hr)
      rw [hrec] at hy
      have hl2 : (W.putObj (w.heap.size + 1) (.loop { rec .ready none with state := .busy })).heap[w.heap.size + 1]? = some (.loop { rec .ready none with state := .busy }) := World.putObj_heap_same hlt
      have hk2 : (W.putObj (w.heap.size + 1) (.loop { rec .ready none with state := .busy })).heap[w.heap.size]? = some (.deferred (some [])) := (World.putObj_heap_other (by omega)).trans hk
      have ht2 : Turn (fun k => S k ∨ k = w.heap.size + 1) W (W.putObj (w.heap.size + 1) (.loop { rec .ready none with state := .busy })) := Turn.put _ _ _ (.inr rfl)
      refine ⟨fn, _, assign, body, hy, roundIn_of_wpIn hfn (wpIn_mono (hround _ i vs W (W.putObj (w.heap.size + 1) (.loop { rec .ready none with state := .busy })) hiN (hIL _ _ _ _ hi hl) (hR _ _ _ _ _ hr hl) (fun k hk => by rw [World.putObj_size]; exact hlow k hk)) ?_)⟩
      intro e0 a0 W0 h00
      cases e0 with
      | ret => exact h00
      | exit id => exact h00
      | goto t => exact h00
      | panic ch => exact h00
      | outgrown => exact h00
      | normal =>
      obtain ⟨e00, hb0⟩ := h00
      rw [e00]
      refine ⟨_, run_beginRound hl (by rw [hrec]), ?_⟩
      refine wpIn_mono hb0 ?_
      have fin : ∀ (jump : Option Code) (W3 : World), Turn S (W.putObj (w.heap.size + 1) (.loop { rec .ready none with state := .busy })) W3 →
          (Instr.endRound (w.heap.size + 1) jump).run P W3 = .ok (.bool jump.isNone) (W3.putObj (w.heap.size + 1) (.loop (rec (if jump.isNone then .ready else .done) jump))) ∧
          W3.heap[w.heap.size + 1]? = some (.loop { rec .ready none with state := .busy }) ∧
          (W3.putObj (w.heap.size + 1) (.loop (rec (if jump.isNone then .ready else .done) jump))).heap[w.heap.size + 1]? = some (.loop (rec (if jump.isNone then .ready else .done) jump)) ∧
          (W3.putObj (w.heap.size + 1) (.loop (rec (if jump.isNone then .ready else .done) jump))).heap[w.heap.size]? = some (.deferred (some [])) := fun jump W3 hk3 => by
        have hl3 := hk3.at_ hl2 hSL
        have := run_endRound (P := P) jump hl3
        rw [hrec] at this ⊢
        exact ⟨this, by rw [hrec] at hl3; exact hl3, World.putObj_heap_same (heap_lt hl3), (World.putObj_heap_other (by omega)).trans (hk3.at_ hk2 hSD)⟩
      rintro e a3 W3 hp
      cases e with
      | normal =>
        obtain ⟨hk3, hi3⟩ := hp
        obtain ⟨hr3, hl3, hl4, hk4⟩ := fin none W3 hk3
        refine ⟨_, _, hr3, .inl ⟨rfl, ⟨hIL _ _ _ _ hi3 hl3, hl4, hk4, fun k hk => ?_⟩, ?_⟩⟩
        · rw [World.putObj_size]
          exact Nat.lt_of_lt_of_le (by rw [World.putObj_size]; exact hlow k hk) hk3.size
        · exact (ht2.trans (hk3.mono fun k h => .inl h)).trans (Turn.put _ _ _ (.inr rfl))
      | ret =>
        obtain ⟨hk3, hi3⟩ := hp
        obtain ⟨hr3, hl3, hl4, hk4⟩ := fin (some .ret) W3 hk3
        exact ⟨_, _, hr3, .inr ⟨rfl, .ret, hIxL _ _ _ _ _ hi3 hl3, hl4, hk4⟩⟩
      | exit id =>
        obtain ⟨hk3, hi3⟩ := hp
        obtain ⟨hr3, hl3, hl4, hk4⟩ := fin (some (.exit id)) W3 hk3
        exact ⟨_, _, hr3, .inr ⟨rfl, .exit id, hIxL _ _ _ _ _ hi3 hl3, hl4, hk4⟩⟩
      | goto t =>
        obtain ⟨hk3, hi3⟩ := hp
        obtain ⟨hr3, hl3, hl4, hk4⟩ := fin (some (.goto t)) W3 hk3
        exact ⟨_, _, hr3, .inr ⟨rfl, .goto t, hIxL _ _ _ _ _ hi3 hl3, hl4, hk4⟩⟩
      | panic ch => exact hp.elim
      | outgrown => exact hp.elim
    · rintro e W2 ⟨⟨v, rfl⟩, (⟨hi, hl, hk, _⟩ | ⟨i, hiN, c, hi, hl, hk⟩)⟩
      · exact ⟨none, _, by have := run_endLoop (P := P) hl (by rw [hrec]; simp); rw [hrec] at this; exact this, hdone _ (hIL _ _ _ _ hi hl) ((World.putObj_heap_other (by omega)).trans hk)⟩
      · exact ⟨some c, _, by have := run_endLoop (P := P) hl (by rw [hrec]; simp); rw [hrec] at this; exact this, (wpIn_wide (n := 4)).2 (hstop c i _ hiN (hIxL _ _ _ _ _ hi hl) ((World.putObj_heap_other (by omega)).trans hk))⟩
end Go.Proofs.Ytdbngchbhoanpaa
