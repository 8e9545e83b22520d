/- Numbers of both signs that the call gathers in a slice of its own, and an append to them. Condition: fewer than 2 to the 40. -/
import Derived.Test.YteebdlliaipnlaaIsI
import Derived.Test.YteebdlliaipnlaaTurn
import Derived.Maps.AppendAt
namespace Go.Proofs.Yteebdlliaipnlaa
open Go.RowKit
/-- A slice of the call's own that holds these numbers. -/
def OwnN (w : World) (B : Nat) (v : Value) (zs : List Int) : Prop := w.ownsRow B 3 1 v zs.length (zs.map fun z : Int => Value.int .i64 z)
theorem OwnN.nil (w : World) (B : Nat) : OwnN w B (.slice none 0 0) [] := World.ownsRow_nil _ _ _ _
theorem ownsRow_turn {S : Nat → Prop} {w w' : World} {B n s : Nat} {e : TypeId} {v : Value} {l : List Value} (h : w.ownsRow B e s v n l) (t : Turn S w w') (ho : Off S v) : w'.ownsRow B e s v n l := by
  refine ⟨h.1, ?_⟩
  rcases h.2 with hn | ⟨g, cap, cur, hv, h1, h2, r⟩
  · exact .inl hn
  · refine .inr ⟨g, cap, cur, hv, h1, ?_, r⟩
    rw [t.block g (heap_lt h2) (ho g (by rw [hv]; rfl))]
    exact h2
theorem ownsRow_more {w : World} {B B' n s : Nat} {e : TypeId} {v : Value} {l : List Value} (h : w.ownsRow B e s v n l) (hb : B' ≤ B) : w.ownsRow B' e s v n l := by
  refine ⟨h.1, ?_⟩
  rcases h.2 with hn | ⟨g, cap, cur, hv, h1, r⟩
  · exact .inl hn
  · exact .inr ⟨g, cap, cur, hv, by omega, r⟩
theorem ownsRow_keep {w w' : World} {B n s : Nat} {e : TypeId} {v : Value} {l : List Value} (h : w.ownsRow B e s v n l) (k : Below w.heap.size w w') : w'.ownsRow B e s v n l :=
  ownsRow_turn (S := fun _ => False) h (Turn.of_below _ k) (fun _ _ => id)
/-- A row lies apart from a row whose elements are of another type. -/
theorem ownsRow_apart {w w' : World} {B B' n n' s s' : Nat} {e e' : TypeId} {v u : Value} {l l' : List Value} (h : w.ownsRow B e s v n l) (k : w.ownsRow B' e' s' u n' l') (hne : e ≠ e') (hg : w.grownBy w' u.ownBlock) : w'.ownsRow B e s v n l := by
  refine World.ownsRow.kept h hg ?_
  rcases h.2 with ⟨rfl, _⟩ | ⟨g, cap, cur, rfl, _, hh, _⟩
  · exact .inl rfl
  · right
    rcases k.2 with ⟨rfl, _⟩ | ⟨g', cap', cur', rfl, _, hh', _⟩
    · intro e; cases e
    · intro e
      have e' : g = g' := by simpa [Value.ownBlock] using e
      subst e'
      rw [hh] at hh'
      simp only [Option.some.injEq, Obj.cells.injEq] at hh'
      exact hne hh'.2.1
/-- A row and a block of another type. -/
theorem ownsRow_blk {w : World} {B B' n s g : Nat} {e e' : TypeId} {v : Value} {l cs : List Value} (h : w.ownsRow B e s v n l) (k : Blk w B' e' g cs) (hne : e ≠ e') : v.ownBlock ≠ some g := by
  rcases h.2 with ⟨rfl, _⟩ | ⟨g', cap, cur, rfl, _, hh, _⟩
  · intro e; cases e
  · intro e
    have e2 : g' = g := by simpa [Value.ownBlock] using e
    subst e2
    obtain ⟨_, c3, h3, _⟩ := k
    rw [hh] at h3
    simp only [Option.some.injEq, Obj.cells.injEq] at h3
    exact hne h3.2.1
theorem OwnN.keep {w w' : World} {B : Nat} {v : Value} {zs : List Int} (h : OwnN w B v zs) (k : Below w.heap.size w w') : OwnN w' B v zs := ownsRow_keep h k
theorem OwnN.more {w : World} {B B' : Nat} {v : Value} {zs : List Int} (h : OwnN w B v zs) (hb : B' ≤ B) : OwnN w B' v zs := ownsRow_more h hb
theorem OwnN.isI {w : World} {B : Nat} {v : Value} {zs : List Int} (h : OwnN w B v zs) : IsI w v zs := by
  unfold OwnN at h
  rcases h.2 with ⟨rfl, hn⟩ | ⟨g, cap, cur, rfl, _, _, c1, c2, _⟩
  · rw [List.eq_nil_of_length_eq_zero hn]
    exact isI_nil w
  · refine ⟨_, _, rfl, fun _ => ⟨g, 0, rfl, fun i hi => ?_⟩, c1, by unfold maxLen at c2; omega⟩
    rw [Nat.zero_add, h.cellAt i (by omega)]
    simp [hi]
theorem OwnN.empty (w : World) : OwnN (w.alloc (.cells #[] 3)) w.heap.size (.slice (some ⟨w.heap.size, 0, none⟩) 0 0) [] := by
  unfold OwnN
  exact ⟨rfl, .inr ⟨_, 0, #[], rfl, Nat.le_refl _, heap_alloc_new w _, Nat.le_refl _, Nat.zero_le _, rfl, rfl⟩⟩
theorem OwnN.stored {w : World} {B : Nat} {g n c : Nat} {zs : List Int} (h : OwnN w B (.slice (some ⟨g, 0, none⟩) n c) zs) (hn : zs.length = n) (k : Nat) (z : Int) :
    OwnN (w.setCell ⟨g, k, none⟩ (.int .i64 z)) B (.slice (some ⟨g, 0, none⟩) n c) (zs.set k z) := by
  subst hn
  unfold OwnN at h ⊢
  have := (World.ownsRow.stored h k (.int .i64 z)).1
  simpa [List.map_set] using this
theorem OwnN.at_ {w : World} {B : Nat} {v : Value} {zs : List Int} {n : Nat} (h : OwnN w B v zs) (hn : zs.length = n) (h1 : 1 ≤ n) :
    ∃ g c, v = .slice (some ⟨g, 0, none⟩) n c ∧ B ≤ g ∧ n ≤ c ∧ c ≤ 9223372036854775807 ∧ (∀ k, k < n → w.cell? ⟨g, k, none⟩ = some (.int .i64 (zs.getD k 0))) ∧ ∀ k, w.frozen? ⟨g, k, none⟩ = false := by
  subst hn
  have h0 := h
  unfold OwnN at h
  rcases h.2 with ⟨rfl, hn⟩ | ⟨g, cap, cur, rfl, hb, hg, hc, hm, _⟩
  · omega
  · refine ⟨g, cap, rfl, hb, hc, by unfold maxLen at hm; omega, fun k hk => ?_, fun k => World.ownsRow.frozenAt h k⟩
    rw [World.ownsRow.cellAt h k (by omega)]
    simp [hk]
theorem Try.info_i64z : (Try.prog.info? 3).map (fun i => (i.zero, i.size, i.bytes)) = some (some (.int .i64 0), 1, 8) := by kernel_rfl
theorem IsI.none {w : World} {n c : Nat} {zs : List Int} (h : IsI w (.slice none n c) zs) : zs = [] := by
  rcases zs with _ | ⟨y, ys⟩
  · rfl
  · obtain ⟨_, _, e, _⟩ := h.rd (by simp)
    cases e
theorem wpList_append_nums {w : World} {ops : Array Oper} {rest : List Oper} {o : Oper} {a : Act} {Q : Exit → Act → World → Prop} (hgd : o.guard = none) (s x : Operand)
    (ho : o.op = .call { callee := .builtin .append, args := #[s, x], argTypes := #[36, 36] })
    (B : Nat) (v : Value) (xs : List Int) (hs : a.eval s = v) (hown : OwnN w B v xs)
    (u : Value) (ys : List Int) (hx : a.eval x = u) (hr : IsI w u ys) (hnil : ∀ n c, u = .slice none n c → c = 0)
    (hlen : xs.length + ys.length ≤ 1099511627776) (hbase : B ≤ w.heap.size)
    (h : ∀ v' w', OwnN w' B v' (xs ++ ys) → Below B w w' → wpList Try.prog ops Q rest (a.put o.dst v') w') : wpList Try.prog ops Q (o :: rest) a w := by
  obtain ⟨i0, hi, hz0, hz1, hz2⟩ := info_parts Try.info_i64z
  have hr0 := hr
  obtain ⟨A, c, rfl, hr, _⟩ := hr
  have fin : ∀ v' w', w'.ownsRow B 3 1 v' (xs.length + ys.length) ((xs.map fun x : Int => Value.int .i64 x) ++ (ys.map fun x : Int => Value.int .i64 x)) → w.grownBy w' v.ownBlock → wpList Try.prog ops Q rest (a.put o.dst v') w' := by
    intro v' w' hown' hg
    refine h v' w' (by unfold OwnN; simpa using hown') ((Below.refl _ _).grown hg hbase fun k hk => (hown.lt k hk).1)
  rcases A with _ | ad
  · have h0 := hnil _ _ rfl
    subst h0
    have hys := hr0.none
    subst hys
    exact wpList_append_own_none hgd s x _ ho B 3 i0 1 Try.underlying36 hi v _ _ hs hown hx (fin v w (by simpa [OwnN] using hown) (World.grownBy.refl w _))
  · refine wpList_append_own w hgd s x _ ho B 3 i0 (.int .i64 0) 1 8 Try.underlying36 hi hz0 hz1 hz2 rfl (by decide) v _ _ hs hown ad ys.length c (ys.map fun x : Int => Value.int .i64 x) hx (by simp) ?_ ?_ (by unfold maxLen; omega) (by omega) hbase (fun v' w' h1 h2 _ => fin v' w' h1 h2)
    · intro j u hu
      have hj : j < ys.length := by
        rcases Nat.lt_or_ge j ys.length with h | h
        · exact h
        · simp [h] at hu
      obtain ⟨b, off, e, hc⟩ := hr (by intro e; rw [e] at hj; simp at hj)
      cases e
      have := hc j hj
      simp [hj] at hu
      subst hu
      simpa [add_off, hj] using this
    · intro u hu
      simp at hu
      obtain ⟨y, _, rfl⟩ := hu
      rfl
end Go.Proofs.Yteebdlliaipnlaa
