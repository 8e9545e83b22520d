/- Rows of the document's log where other blocks are turned; an append of bytes that says which block it turns. No condition but the widths. -/
import Derived.Test.YtbmhfnhfhdgdgaaGreatW26
import Derived.Test.YtbmhfnhfhdgdgaaGreatW4
namespace Go.Proofs.YtbmhfnhfhdgdgaaGreat
open Go.RowKit
variable {w w' : World} {B : Nat}
theorem HeldP.own_ne {Pr : Nat -> Prop} {B' : Nat} {v u : Value} {xss : List (List Nat)} {xs : List Nat} (h : HeldP Pr w B v xss) (k : Own w B' u xs) : ∀ g, v.ownBlock = some g -> u.ownBlock ≠ some g := by
 intro g hv hu;obtain ⟨vs, h1, _⟩ := h;unfold OwnV at h1;unfold Own at k;obtain ⟨c1, e1⟩ := row_typed h1 hv;obtain ⟨c2, e2⟩ := row_typed k hu;rw [e1] at e2;simp only [Option.some.injEq, Obj.cells.injEq] at e2;exact absurd e2.2.1 (by decide)
theorem HeldP.turnG {Pr S : Nat -> Prop} {v : Value} {xss : List (List Nat)} (h : HeldP Pr w B v xss) (t : Turn S w w') (hv : ∀ g, v.ownBlock = some g -> ¬ S g) (hS : ∀ g, Pr g -> ¬ S g) : HeldP Pr w' B v xss := by
 obtain ⟨vs, h1, h2, h3⟩ := h;unfold OwnV at h1;refine ⟨vs, by unfold OwnV; exact ownsRow_turn h1 t hv, h2, fun i hi => ?_⟩;obtain ⟨q1, q2⟩ := h3 i hi;refine ⟨q1.turnE t (fun hne b e => hS b (q2 hne b e).1), fun hne b e => ?_⟩;obtain ⟨r1, r2⟩ := q2 hne b e;refine ⟨r1, ?_⟩;rcases r2 with r2 | ⟨cur, fr, r2⟩
 ·exact .inl r2
 ·exact .inr ⟨cur, fr, by rw [t.block b (heap_lt r2) (hS b r1)]; exact r2⟩
theorem HeldP.mono {Pr Pr' : Nat -> Prop} {v : Value} {xss : List (List Nat)} (h : HeldP Pr w B v xss) (hP : ∀ g, Pr g -> Pr' g) : HeldP Pr' w B v xss := by
 obtain ⟨vs, h1, h2, h3⟩ := h;exact ⟨vs, h1, h2, fun i hi => ⟨(h3 i hi).1, fun hne b e => ⟨hP b ((h3 i hi).2 hne b e).1, ((h3 i hi).2 hne b e).2⟩⟩⟩
set_option maxRecDepth 100000 in
theorem step_append_bytesG {ops : Array Oper} {o : Oper} {a : Act} {K : Act -> World -> Prop} {Q : Exit -> Act -> World -> Prop} {E : Prop} (hgd : o.guard = none) (s x : Operand)
  (ho : o.op = .call { callee := .builtin .append, args := #[s, x], argTypes := #[33, 33] })
  (B : Nat) (v : Value) (xs : List Nat) (hs : a.eval s = v) (hown : Own w B v xs)
  (u : Value) (ys : List Nat) (hx : a.eval x = u) (hr : IsB w u ys)
  (hlen : xs.length + ys.length <= 140737488355328) (hbase : B <= w.heap.size)
  (h : ∀ v' w', Own w' B v' (xs ++ ys) -> w.grownBy w' v.ownBlock -> K (a.put o.dst v') w') : if Region.wanted o (yielded ops a.tmps) = true then Oper.wp Tryz.prog o a w K Q else E := by
 have hw : Region.wanted o (yielded ops a.tmps) = true := by simp [Region.wanted, hgd]
 rw [if_pos hw];obtain ⟨i0, hi, hz0, hz1, hz2⟩ := info_parts Tryz.info_u8';obtain ⟨A, c, rfl, hr, hn, _⟩ := hr;have fin : ∀ v' w', w'.ownsRow B 5 1 v' (xs.length + ys.length) ((xs.map fun x : Nat => Value.int .u8 (x : Int)) ++ (ys.map fun x : Nat => Value.int .u8 (x : Int))) -> w.grownBy w' v.ownBlock -> K (a.put o.dst v') w' := by
  intro v' w' hown' hg;refine h v' w' (by unfold Own; simpa using hown') hg
 rcases A with _ | ad
 ·have h0 := hn rfl;subst h0;have hys : ys = [] := by
   rcases ys with _ | ⟨y, ys⟩
   ·rfl
   ·obtain ⟨_, _, e, _⟩ := hr (by simp);cases e
  subst hys;have hrun := run_append_owned_none (P := Tryz.prog) (w := w) B 33 o.type 5 i0 1 Tryz.underlying33 hi v _ _ hown;unfold Oper.wp;simp [execOp, ho, resolve, invoke, builtin, hs, hx, hrun, Result.andThen];exact fin v w (by simpa [Own] using hown) (World.grownBy.refl w _)
 ·refine wp_append_own w s x _ ho B 5 i0 (.int .u8 0) 1 1 Tryz.underlying33 hi hz0 hz1 hz2 rfl (by decide) v _ _ hs hown ad ys.length c (ys.map fun x : Nat => Value.int .u8 (x : Int)) hx (by simp) ?_ ?_ (by unfold maxLen; omega) (by omega) hbase (fun v' w' h1 h2 _ => fin v' w' h1 h2)
  ·intro j u hu;have hj : j < ys.length := by
    rcases Nat.lt_or_ge j ys.length with h | h
    ·exact h
    ·simp [h] at hu
   obtain ⟨b, off, e, hc⟩ := hr (by intro e; rw [e] at hj; simp at hj);cases e
   have := hc j hj;simp [hj] at hu;subst hu;simp [add_off, hj]
  ·intro u hu;simp at hu;obtain ⟨y, _, rfl⟩ := hu
   rfl
end Go.Proofs.YtbmhfnhfhdgdgaaGreat
