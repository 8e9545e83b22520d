/- Numbers of both signs that the call gathers in a slice of its own, and an append to them. Condition: fewer than 2 to the 40. Rows and the blocks that they lie in; an append that says where the new row lies. It names nothing of the program but the type of its numbers. An append of bytes to a slice of the call's own, with where the new slice lies. Condition: the lengths together are below 2 to the 47. A cell that is none of a thing's stands behind a call of it. No condition. The contracts of bits.ReadUvarint and of the document's own: the number at the beginning of bytes, or why there is none. Conditions: the widths, and that the row is no longer than a slice may be. An append that is not kept: the row that it was made of still stands. It names nothing of the program. Rows of rows of bytes that are read. No condition. The contract of the law's own comparison: whether two rows of bytes are the same. Condition: no row is longer than a slice may be. An append of rows that came in to a list of rows of the call's own, and what it reads as. Condition: together at most 2 to the 40 rows. -/
import Derived.Test.YtaoplofhogenmaaW6
import Derived.Maps.AppendAt
import Derived.OwnWalk
import Derived.Test.YtaoplofhogenmaaW5
import Derived.Test.YtaoplofhogenmaaW1
namespace Go.Proofs.Ytaoplofhogenmaa
open Go.RowKit
/-- A slice of the call's own that holds these numbers. -/
def OwnN (w : World) (B : Nat) (v : Value) (zs : List Int) : Prop := w.ownsRow B 3 1 v zs.length (zs.map fun z : Int => Value.int .i64 z)
theorem OwnN.nil (w : World) (B : Nat) : OwnN w B (.slice none 0 0) [] := World.ownsRow_nil _ _ _ _
theorem ownsRow_turn {S : Nat → Prop} {w w' : World} {B n s : Nat} {e : TypeId} {v : Value} {l : List Value} (h : w.ownsRow B e s v n l) (t : Turn S w w') (ho : Off S v) : w'.ownsRow B e s v n l := by
  refine ⟨h.1, ?_⟩
  rcases h.2 with hn | ⟨g, cap, cur, hv, h1, h2, r⟩
  · exact .inl hn
  · refine .inr ⟨g, cap, cur, hv, h1, ?_, r⟩
    rw [t.block g (heap_lt h2) (ho g (by rw [hv]; rfl))]
    exact h2
theorem ownsRow_more {w : World} {B B' n s : Nat} {e : TypeId} {v : Value} {l : List Value} (h : w.ownsRow B e s v n l) (hb : B' ≤ B) : w.ownsRow B' e s v n l := by
  refine ⟨h.1, ?_⟩
  rcases h.2 with hn | ⟨g, cap, cur, hv, h1, r⟩
  · exact .inl hn
  · exact .inr ⟨g, cap, cur, hv, by omega, r⟩
theorem ownsRow_keep {w w' : World} {B n s : Nat} {e : TypeId} {v : Value} {l : List Value} (h : w.ownsRow B e s v n l) (k : Below w.heap.size w w') : w'.ownsRow B e s v n l :=
  ownsRow_turn (S := fun _ => False) h (Turn.of_below _ k) (fun _ _ => id)
/-- A row lies apart from a row whose elements are of another type. -/
theorem ownsRow_apart {w w' : World} {B B' n n' s s' : Nat} {e e' : TypeId} {v u : Value} {l l' : List Value} (h : w.ownsRow B e s v n l) (k : w.ownsRow B' e' s' u n' l') (hne : e ≠ e') (hg : w.grownBy w' u.ownBlock) : w'.ownsRow B e s v n l := by
  refine World.ownsRow.kept h hg ?_
  rcases h.2 with ⟨rfl, _⟩ | ⟨g, cap, cur, rfl, _, hh, _⟩
  · exact .inl rfl
  · right
    rcases k.2 with ⟨rfl, _⟩ | ⟨g', cap', cur', rfl, _, hh', _⟩
    · intro e; cases e
    · intro e
      have e' : g = g' := by simpa [Value.ownBlock] using e
      subst e'
      rw [hh] at hh'
      simp only [Option.some.injEq, Obj.cells.injEq] at hh'
      exact hne hh'.2.1
/-- A row and a block of another type. -/
theorem ownsRow_blk {w : World} {B B' n s g : Nat} {e e' : TypeId} {v : Value} {l cs : List Value} (h : w.ownsRow B e s v n l) (k : Blk w B' e' g cs) (hne : e ≠ e') : v.ownBlock ≠ some g := by
  rcases h.2 with ⟨rfl, _⟩ | ⟨g', cap, cur, rfl, _, hh, _⟩
  · intro e; cases e
  · intro e
    have e2 : g' = g := by simpa [Value.ownBlock] using e
    subst e2
    obtain ⟨_, c3, h3, _⟩ := k
    rw [hh] at h3
    simp only [Option.some.injEq, Obj.cells.injEq] at h3
    exact hne h3.2.1
theorem OwnN.keep {w w' : World} {B : Nat} {v : Value} {zs : List Int} (h : OwnN w B v zs) (k : Below w.heap.size w w') : OwnN w' B v zs := ownsRow_keep h k
theorem OwnN.more {w : World} {B B' : Nat} {v : Value} {zs : List Int} (h : OwnN w B v zs) (hb : B' ≤ B) : OwnN w B' v zs := ownsRow_more h hb
theorem OwnN.isI {w : World} {B : Nat} {v : Value} {zs : List Int} (h : OwnN w B v zs) : IsI w v zs := by
  unfold OwnN at h
  rcases h.2 with ⟨rfl, hn⟩ | ⟨g, cap, cur, rfl, _, _, c1, c2, _⟩
  · rw [List.eq_nil_of_length_eq_zero hn]
    exact isI_nil w
  · refine ⟨_, _, rfl, fun _ => ⟨g, 0, rfl, fun i hi => ?_⟩, c1, by unfold maxLen at c2; omega⟩
    rw [Nat.zero_add, h.cellAt i (by omega)]
    simp [hi]
theorem OwnN.empty (w : World) : OwnN (w.alloc (.cells #[] 3)) w.heap.size (.slice (some ⟨w.heap.size, 0, none⟩) 0 0) [] := by
  unfold OwnN
  exact ⟨rfl, .inr ⟨_, 0, #[], rfl, Nat.le_refl _, heap_alloc_new w _, Nat.le_refl _, Nat.zero_le _, rfl, rfl⟩⟩
theorem OwnN.stored {w : World} {B : Nat} {g n c : Nat} {zs : List Int} (h : OwnN w B (.slice (some ⟨g, 0, none⟩) n c) zs) (hn : zs.length = n) (k : Nat) (z : Int) :
    OwnN (w.setCell ⟨g, k, none⟩ (.int .i64 z)) B (.slice (some ⟨g, 0, none⟩) n c) (zs.set k z) := by
  subst hn
  unfold OwnN at h ⊢
  have := (World.ownsRow.stored h k (.int .i64 z)).1
  simpa [List.map_set] using this
theorem OwnN.at_ {w : World} {B : Nat} {v : Value} {zs : List Int} {n : Nat} (h : OwnN w B v zs) (hn : zs.length = n) (h1 : 1 ≤ n) :
    ∃ g c, v = .slice (some ⟨g, 0, none⟩) n c ∧ B ≤ g ∧ n ≤ c ∧ c ≤ 9223372036854775807 ∧ (∀ k, k < n → w.cell? ⟨g, k, none⟩ = some (.int .i64 (zs.getD k 0))) ∧ ∀ k, w.frozen? ⟨g, k, none⟩ = false := by
  subst hn
  have h0 := h
  unfold OwnN at h
  rcases h.2 with ⟨rfl, hn⟩ | ⟨g, cap, cur, rfl, hb, hg, hc, hm, _⟩
  · omega
  · refine ⟨g, cap, rfl, hb, hc, by unfold maxLen at hm; omega, fun k hk => ?_, fun k => World.ownsRow.frozenAt h k⟩
    rw [World.ownsRow.cellAt h k (by omega)]
    simp [hk]
theorem Try.info_i64z : (Try.prog.info? 3).map (fun i => (i.zero, i.size, i.bytes)) = some (some (.int .i64 0), 1, 8) := by kernel_rfl
theorem IsI.none {w : World} {n c : Nat} {zs : List Int} (h : IsI w (.slice none n c) zs) : zs = [] := by
  rcases zs with _ | ⟨y, ys⟩
  · rfl
  · obtain ⟨_, _, e, _⟩ := h.rd (by simp)
    cases e
theorem wpList_append_nums {w : World} {ops : Array Oper} {rest : List Oper} {o : Oper} {a : Act} {Q : Exit → Act → World → Prop} (hgd : o.guard = none) (s x : Operand)
    (ho : o.op = .call { callee := .builtin .append, args := #[s, x], argTypes := #[53, 53] })
    (B : Nat) (v : Value) (xs : List Int) (hs : a.eval s = v) (hown : OwnN w B v xs)
    (u : Value) (ys : List Int) (hx : a.eval x = u) (hr : IsI w u ys) (hnil : ∀ n c, u = .slice none n c → c = 0)
    (hlen : xs.length + ys.length ≤ 1099511627776) (hbase : B ≤ w.heap.size)
    (h : ∀ v' w', OwnN w' B v' (xs ++ ys) → Below B w w' → wpList Try.prog ops Q rest (a.put o.dst v') w') : wpList Try.prog ops Q (o :: rest) a w := by
  obtain ⟨i0, hi, hz0, hz1, hz2⟩ := info_parts Try.info_i64z
  have hr0 := hr
  obtain ⟨A, c, rfl, hr, _⟩ := hr
  have fin : ∀ v' w', w'.ownsRow B 3 1 v' (xs.length + ys.length) ((xs.map fun x : Int => Value.int .i64 x) ++ (ys.map fun x : Int => Value.int .i64 x)) → w.grownBy w' v.ownBlock → wpList Try.prog ops Q rest (a.put o.dst v') w' := by
    intro v' w' hown' hg
    refine h v' w' (by unfold OwnN; simpa using hown') ((Below.refl _ _).grown hg hbase fun k hk => (hown.lt k hk).1)
  rcases A with _ | ad
  · have h0 := hnil _ _ rfl
    subst h0
    have hys := hr0.none
    subst hys
    exact wpList_append_own_none hgd s x _ ho B 3 i0 1 Try.underlying53 hi v _ _ hs hown hx (fin v w (by simpa [OwnN] using hown) (World.grownBy.refl w _))
  · refine wpList_append_own w hgd s x _ ho B 3 i0 (.int .i64 0) 1 8 Try.underlying53 hi hz0 hz1 hz2 rfl (by decide) v _ _ hs hown ad ys.length c (ys.map fun x : Int => Value.int .i64 x) hx (by simp) ?_ ?_ (by unfold maxLen; omega) (by omega) hbase (fun v' w' h1 h2 _ => fin v' w' h1 h2)
    · intro j u hu
      have hj : j < ys.length := by
        rcases Nat.lt_or_ge j ys.length with h | h
        · exact h
        · simp [h] at hu
      obtain ⟨b, off, e, hc⟩ := hr (by intro e; rw [e] at hj; simp at hj)
      cases e
      have := hc j hj
      simp [hj] at hu
      subst hu
      simpa [add_off, hj] using this
    · intro u hu
      simp at hu
      obtain ⟨y, _, rfl⟩ := hu
      rfl
end Go.Proofs.Ytaoplofhogenmaa
namespace Go.Proofs.Ytaoplofhogenmaa
open Go.RowKit Go.Maps
theorem row_typed {w : World} {B n s g : Nat} {e : TypeId} {v : Value} {l : List Value} (h : w.ownsRow B e s v n l) (hv : v.ownBlock = some g) : ∃ cur, w.heap[g]? = some (.cells cur e (0, 0)) := by
  rcases h.2 with ⟨rfl, _⟩ | ⟨g', cap, cur, rfl, _, hh, _⟩
  · cases hv
  · have e' : g' = g := by simpa [Value.ownBlock] using hv
    subst e'
    exact ⟨_, hh⟩
theorem row_form {w : World} {B n s : Nat} {e : TypeId} {v : Value} {l : List Value} (h : w.ownsRow B e s v n l) : ∃ A c, v = .slice A n c := by
  rcases h.2 with ⟨rfl, hn⟩ | ⟨g, cap, cur, rfl, _⟩
  · exact ⟨none, 0, by rw [hn]⟩
  · exact ⟨_, cap, rfl⟩
theorem ownsRow_notIn {w : World} {B g n z : Nat} {v : Value} {l cs : List Value} {e e' : TypeId} (h : w.ownsRow B e z v n l) (hb : Blk w 0 e' g cs) (hne : e ≠ e') : v.ownBlock ≠ some g := by
  intro q
  rcases h.2 with ⟨rfl, _⟩ | ⟨g', cap, cur, rfl, _, hh, _⟩
  · cases q
  · have e2 : g' = g := by simpa [Value.ownBlock] using q
    subst e2
    obtain ⟨_, cur', h2, _⟩ := hb
    rw [hh] at h2
    simp only [Option.some.injEq, Obj.cells.injEq] at h2
    exact hne h2.2.1
theorem wp_append_own_at {P : Program} {w : World} {o : Oper} {a : Act} {K : Act → World → Prop} {Q : Exit → Act → World → Prop} (s x : Operand) (t : TypeId)
    (ho : o.op = .call { callee := .builtin .append, args := #[s, x], argTypes := #[t, t] })
    (base : Nat) (e : TypeId) (i : TypeInfo) (z : Value) (size bytes : Nat) (ht : P.underlying t = some (.slice e)) (hi : P.info? e = some i) (hz : i.zero = some z)
    (hsize : i.size = size) (hby : i.bytes = bytes) (hzs : z.cells.size = size) (hsz : 0 < size)
    (v : Value) (n : Nat) (xs : List Value) (hs : a.eval s = v) (hown : w.ownsRow base e size v n xs)
    (ad : Addr) (m c : Nat) (news : List Value) (hx : a.eval x = .slice (some ad) m c) (hl : news.length = m * size) (hnews : ∀ j u, news[j]? = some u → w.cell? (ad.add j) = some u) (h1 : ∀ u ∈ news, u.oneCell' = true)
    (h63 : n + m ≤ maxLen) (hbytes : (n + m) * bytes ≤ 140737488355328) (hbase : base ≤ w.heap.size)
    (h : ∀ v' w', w'.ownsRow base e size v' (n + m) (xs ++ news) → w.grownBy w' v.ownBlock → (v'.ownBlock = v.ownBlock ∨ v'.ownBlock = some w.heap.size) → K (a.put o.dst v') w') : o.wp P a w K Q := by
  obtain ⟨v', w', hr, h2, h3, _, h4⟩ := run_append_own_at (P := P) w base t o.type e i z size bytes ht hi hz hsize hby hzs hsz v n xs hown ad m c news hl hnews h1 h63 hbytes hbase
  unfold Oper.wp execOp
  simp only [ho, resolve, invoke, builtin, Sem.run_bind, Sem.run_pure, Result.andThen_ok, List.map_toArray, List.map_cons, List.map_nil, hs, hx, hr]
  exact h v' w' h2 h3 h4
theorem step_append_num {w : World} {ops : Array Oper} {o : Oper} {a : Act} {K : Act → World → Prop} {Q : Exit → Act → World → Prop} {E : Prop} (hgd : o.guard = none) (s x : Operand)
    (ho : o.op = .call { callee := .builtin .append, args := #[s, x], argTypes := #[53, 53] })
    (B : Nat) (v : Value) (zs : List Int) (hs : a.eval s = v) (hown : OwnN w B v zs)
    (b : Nat) (z : Int) (hx : a.eval x = .slice (some ⟨b, 0, none⟩) 1 1) (h0 : w.cell? ⟨b, 0, none⟩ = some (.int .i64 z))
    (hlen : zs.length + 1 ≤ 1099511627776) (hbase : B ≤ w.heap.size)
    (h : ∀ v' w', OwnN w' B v' (zs ++ [z]) → w.grownBy w' v.ownBlock → (v'.ownBlock = v.ownBlock ∨ v'.ownBlock = some w.heap.size) → K (a.put o.dst v') w') : if Region.wanted o (yielded ops a.tmps) = true then Oper.wp Try.prog o a w K Q else E := by
  have hw : Region.wanted o (yielded ops a.tmps) = true := by simp [Region.wanted, hgd]
  rw [if_pos hw]
  obtain ⟨i0, hi, hz0, hz1, hz2⟩ := info_parts Try.info_i64z
  refine wp_append_own_at s x _ ho B 3 i0 _ 1 8 Try.underlying53 hi hz0 hz1 hz2 rfl (by decide) v _ _ hs hown ⟨b, 0, none⟩ 1 1 [.int .i64 z] hx rfl ?_ ?_ (by unfold maxLen; omega) (by omega) hbase ?_
  · intro j u hj
    match j, hj with
    | 0, hj => simp at hj; subst hj; simpa [Addr.add] using h0
  · intro u hu
    simp at hu
    subst hu
    rfl
  · intro v' w' k1 k2 k3
    refine h v' w' ?_ k2 k3
    unfold OwnN
    rw [List.length_append, List.map_append]
    exact k1
end Go.Proofs.Ytaoplofhogenmaa
namespace Go.Proofs.Ytaoplofhogenmaa
open Go.RowKit
theorem wpList_append_at {w : World} {ops : Array Oper} {rest : List Oper} {o : Oper} {a : Act} {Q : Exit → Act → World → Prop} (hgd : o.guard = none) (s x : Operand)
    (ho : o.op = .call { callee := .builtin .append, args := #[s, x], argTypes := #[23, 23] })
    (B : Nat) (v : Value) (xs : List Nat) (hs : a.eval s = v) (hown : Own w B v xs)
    (u : Value) (ys : List Nat) (hx : a.eval x = u) (hr : IsB w u ys)
    (hlen : xs.length + ys.length ≤ 140737488355328) (hbase : B ≤ w.heap.size)
    (h : ∀ v' w', Own w' B v' (xs ++ ys) → w.grownBy w' v.ownBlock → (v'.ownBlock = v.ownBlock ∨ v'.ownBlock = some w.heap.size) → wpList Try.prog ops Q rest (a.put o.dst v') w') : wpList Try.prog ops Q (o :: rest) a w := by
  obtain ⟨i0, hi, hz0, hz1, hz2⟩ := info_parts Try.info_u8'
  obtain ⟨A, c, rfl, hr, hn, _⟩ := hr
  have fin : ∀ v' w', w'.ownsRow B 5 1 v' (xs.length + ys.length) ((xs.map fun x : Nat => Value.int .u8 (x : Int)) ++ (ys.map fun x : Nat => Value.int .u8 (x : Int))) → w.grownBy w' v.ownBlock → (v'.ownBlock = v.ownBlock ∨ v'.ownBlock = some w.heap.size) → wpList Try.prog ops Q rest (a.put o.dst v') w' := by
    intro v' w' hown' hg hl
    exact h v' w' (by unfold Own; simpa using hown') hg hl
  rcases A with _ | ad
  · have h0 := hn rfl
    subst h0
    have hys : ys = [] := by
      rcases ys with _ | ⟨y, ys⟩
      · rfl
      · obtain ⟨_, _, e, _⟩ := hr (by simp)
        cases e
    subst hys
    exact wpList_append_own_none hgd s x _ ho B 5 i0 1 Try.underlying23 hi v _ _ hs hown hx (fin v w (by simpa [Own] using hown) (World.grownBy.refl w _) (.inl rfl))
  · refine wpList_append_own_at w hgd s x _ ho B 5 i0 (.int .u8 0) 1 1 Try.underlying23 hi hz0 hz1 hz2 rfl (by decide) v _ _ hs hown ad ys.length c (ys.map fun x : Nat => Value.int .u8 (x : Int)) hx (by simp) ?_ ?_ (by unfold maxLen; omega) (by omega) hbase (fun v' w' h1 h2 _ h4 => fin v' w' h1 h2 h4)
    · intro j u hu
      have hj : j < ys.length := by
        rcases Nat.lt_or_ge j ys.length with h | h
        · exact h
        · simp [h] at hu
      obtain ⟨b, off, e, hc⟩ := hr (by intro e; rw [e] at hj; simp at hj)
      cases e
      have := hc j hj
      simp [hj] at hu
      subst hu
      simpa [add_off, hj] using this
    · intro u hu
      simp at hu
      obtain ⟨y, _, rfl⟩ := hu
      rfl
end Go.Proofs.Ytaoplofhogenmaa
namespace Go.Proofs.Ytaoplofhogenmaa
open Go.RowKit
/-- A cell that is none of a disk's stands behind a call of it. -/
theorem Next.far {F F' : Nat → Prop} {w w' : World} (n : Next F w F' w') {b i : Nat} (hb : b < w.heap.size) (hn : ¬ F b) : w'.cell? ⟨b, i, none⟩ = w.cell? ⟨b, i, none⟩ := by
  have := n.turn.block b hb hn
  unfold World.cell?
  simp only [this]
theorem below_drew (w : World) : Below w.heap.size w w.drew := ⟨rfl, rfl, rfl, Nat.le_refl _, fun _ _ => rfl⟩
end Go.Proofs.Ytaoplofhogenmaa
namespace Go.Proofs.Ytaoplofhogenmaa
open Go.RowKit
theorem drop_get {xs : List Nat} {k : Nat} (h : k < xs.length) : xs.drop k = xs.getD k 0 :: xs.drop (k + 1) := by
  rw [List.drop_eq_getElem_cons h]
  simp [h]
theorem andNot128 (c : Nat) (h : c < 256) : bits .andNot .u8 (c : Int) 128 = ((c % 128 : Nat) : Int) := by
  rw [u8_andNot _ _ (by omega) (by omega) (by decide) (by decide)]
  have h2 : (128 : Int).toNat = 128 := rfl
  rw [h2, Int.toNat_natCast]
  have : ∀ z, z < 256 → z &&& (255 - 128) = z % 128 := by decide +kernel
  rw [this c h]
theorem or_read {v c k : Nat} (hk : k ≤ 9) (h9 : k = 9 → c ≤ 1) (hv : v < 2 ^ (7 * k)) :
    bits .or .u64 (v : Int) ((c % 128 * 2 ^ (7 * k) : Nat) : Int) = ((v + c % 128 * 2 ^ (7 * k) : Nat) : Int) := by
  rw [u64_or_nat _ _ (by have := v_lt hk hv; omega) (sh_lt hk h9), Nat.or_comm, nat_join (7 * k) _ _ (Nat.mul_mod_left _ _) hv, Nat.add_comm]
theorem or_walk {v c k : Nat} (hk : k ≤ 9) (h9 : k = 9 → c ≤ 1) (hv : v < 2 ^ (7 * k)) :
    bits .or .u64 (v : Int) (IntKind.u64.wrap ((c : Int) % 128 * 2 ^ (7 * k))) = ((v + c % 128 * 2 ^ (7 * k) : Nat) : Int) := by
  rw [← or_read hk h9 hv]
  have e : ((c : Int) % 128 * 2 ^ (7 * k)) = ((c % 128 * 2 ^ (7 * k) : Nat) : Int) := by simp
  rw [e, IntKind.wrap_u64]
  have := sh_lt (c := c) hk h9
  congr 1
  omega
theorem or_zero (v : Nat) (hv : v < 9223372036854775808) : bits .or .u64 (v : Int) (IntKind.u64.wrap 0) = (v : Int) := by
  have e : IntKind.u64.wrap 0 = ((0 : Nat) : Int) := by decide
  rw [e, u64_or_nat _ _ (by omega) (by omega), Nat.or_zero]
theorem ret3 {a b c a' b' c' : Int} (h1 : a = a') (h2 : b = b') (h3 : c = c') : Ending.returned (.tuple #[.int .u64 a, .int .i64 b, .int .i64 c]) = .returned (.tuple #[.int .u64 a', .int .i64 b', .int .i64 c']) := by rw [h1, h2, h3]
set_option maxHeartbeats 1600000 in
set_option maxRecDepth 100000 in
theorem uread_any (A : Option Addr) (n c : Nat) (xs : List Nat) (w : World) (hA : Rd w A xs) (hn : n = xs.length) (hb : ∀ x ∈ xs, x < 256) (ln : n ≤ 9223372036854775807) :
    Calls Try.prog 60 #[.slice A n c] w fun e w' => e = .returned (.tuple #[.int .u64 ((rvl 0 0 xs).1 : Nat), .int .i64 ((rvl 0 0 xs).2.1 : Nat), .int .i64 ((rvl 0 0 xs).2.2 : Nat)]) ∧ w = w' := by
  have HA := hide hA
  have HN := hide hn
  have HB := hide hb
  clear hA hn hb
  obtain ⟨r, hr⟩ : ∃ r, r = rvl 0 0 xs := ⟨_, rfl⟩
  rw [← hr]
  have HR := hide hr
  clear hr
  go_enter Try.func60, Try.ntmps60
  go_wp2
  go_loop [5, 11] (fun s i => ∃ k v : Nat, k ≤ n ∧ k ≤ 9 ∧ i = .int .i64 (k : Int) ∧ s = .int .u64 (v : Int) ∧ Hid (v < 2 ^ (7 * k)) ∧ Hid (r = rvl k v (xs.drop k))) (fun _ i => n - (intOf i).toNat)
  case atStart => exact ⟨0, 0, by omega, by omega, rfl, rfl, by unfold Hid; decide, HR.out⟩
  case round =>
    obtain ⟨k, v, hk, hk9, rfl, rfl, hv, hrv⟩ := hrel
    by_cases hlt : k < n
    · obtain ⟨b, off, rfl, hcell⟩ := HA.out (by intro e; rw [HN.out, e] at hlt; simp at hlt)
      obtain ⟨x, cx, lx, ex⟩ := rd_at hcell HB.out k (by rw [← HN.out]; exact hlt)
      have hd := drop_get (xs := xs) (k := k) (by rw [← HN.out]; exact hlt)
      rw [← ex] at hd
      have hrv := hrv.out
      rw [hd] at hrv
      clear hcell hd ex
      have han := andNot128 x lx
      have hv63 := v_lt hk9 hv.out
      by_cases h1 : k = 9 ∧ 1 < x
      · obtain ⟨h9, h1⟩ := h1
        rw [rvl_last h9 h1] at hrv
        subst hrv
        subst h9
        by_cases h2 : 128 ≤ x
        · go_wp2
          go_ret3
          exact ⟨rfl, rfl⟩
        · go_wp2
          go_ret3
          exact ⟨rfl, rfl⟩
      · have HOR := hide (or_walk (c := x) hk9 (by omega) hv.out)
        by_cases h2 : 128 ≤ x
        · have h8 : k < 9 := by omega
          rw [rvl_more h8 h2] at hrv
          have HV := hide (step_lt (c := x) hv.out)
          have HRV := hide hrv
          clear hrv h1
          go_wp2
          go_round
          case rel => exact ⟨k + 1, _, by omega, by omega, by go_num, by rw [HOR.out], HV, HRV⟩
          case measure => simp [intOf]; omega
        · by_cases h0 : x = 0 ∧ 0 < k
          · obtain ⟨h0, h00⟩ := h0
            rw [rvl_zero h0 h00] at hrv
            subst hrv
            subst h0
            clear h1
            by_cases h9 : k = 9
            · subst h9
              go_wp2
              go_ret3
              exact ⟨rfl, rfl⟩
            · go_wp2
              go_ret3
              exact ⟨rfl, rfl⟩
          · rw [rvl_end h1 (by omega) h0] at hrv
            subst hrv
            by_cases h9 : k = 9
            · have hx : x = 1 := by omega
              subst hx
              subst h9
              clear h0 h1
              go_wp2
              go_ret3
              exact ⟨ret3 HOR.out (by omega) rfl, rfl⟩
            · by_cases hk0 : k = 0
              · have hk1 : k ≤ 0 := by omega
                clear h0 h1 hk0
                by_cases hx : x = 0
                · have hx1 : x ≤ 0 := by omega
                  clear hx
                  go_wp2
                  go_ret3
                  exact ⟨ret3 (or_zero v hv63) (by omega) rfl, rfl⟩
                · go_wp2
                  go_ret3
                  exact ⟨ret3 HOR.out (by omega) rfl, rfl⟩
              · have hx : ¬ x = 0 := by omega
                clear h0 h1
                go_wp2
                go_ret3
                exact ⟨ret3 HOR.out (by omega) rfl, rfl⟩
    · have hd : xs.drop k = [] := List.drop_of_length_le (by rw [← HN.out]; omega)
      have hrv := hrv.out
      rw [hd, rvl_nil] at hrv
      subst hrv
      clear hd
      go_wp2
      go_ret3
      exact ⟨rfl, rfl⟩
end Go.Proofs.Ytaoplofhogenmaa
namespace Go.Proofs.Ytaoplofhogenmaa
open Go.RowKit Go.Maps
theorem append_old {P : Program} {w : World} (base : Nat) (t ty e : TypeId) (i : TypeInfo) (z : Value) (size bytes : Nat) (ht : P.underlying t = some (.slice e)) (hi : P.info? e = some i) (hz : i.zero = some z)
    (hsize : i.size = size) (hby : i.bytes = bytes) (hsz : 0 < size)
    (v : Value) (n : Nat) (xs : List Value) (hown : w.ownsRow base e size v n xs)
    (a : Addr) (m c : Nat) (news : List Value) (hl : news.length = m * size) (hnews : ∀ j u, news[j]? = some u → w.cell? (a.add j) = some u) (h1 : ∀ u ∈ news, u.oneCell' = true)
    (h63 : n + m ≤ maxLen) (hbytes : (n + m) * bytes ≤ 140737488355328) {v' : Value} {w' : World}
    (hr : (Builtin.append_ #[t, t] ty #[v, .slice (some a) m c]).run P w = .ok v' w') : w'.ownsRow base e size v n xs := by
  subst hsize
  subst hby
  have hsmall : n + m ≤ 9223372036854775807 := by simp only [maxLen] at h63; omega
  rcases hown.2 with ⟨rfl, rfl⟩ | ⟨g, cap, cur, rfl, hbg, hg, hnc, hcm, hcs, htake⟩
  · exact ⟨hown.1, .inl ⟨rfl, rfl⟩⟩
  · by_cases hroom : n + m ≤ cap
    · have hfit : n * i.size + news.length ≤ cur.size := by rw [hl, hcs, ← Nat.add_mul]; exact Nat.mul_le_mul_right _ hroom
      have hr2 := run_append_room (P := P) w t ty e i ht hi g n cap cur hg a m c news hl hnews h1 hroom hfit
      rw [hr2] at hr
      cases hr
      refine ⟨hown.1, .inr ⟨g, cap, _, rfl, hbg, setRow_heap w g cur _ e _ hg, hnc, hcm, ?_, ?_⟩⟩
      · simp only [List.size_toArray, List.length_append, List.length_take, List.length_drop, Array.length_toList]
        omega
      · have hlx : (cur.toList.take (n * i.size)).length = n * i.size := by rw [List.length_take, Array.length_toList]; omega
        show List.take (n * i.size) (cur.toList.take (n * i.size) ++ news ++ cur.toList.drop (n * i.size + news.length)) = xs
        rw [List.append_assoc, List.take_left' hlx]
        exact htake
    · have holds : ∀ j u, xs[j]? = some u → w.cell? ((⟨g, 0, none⟩ : Addr).add j) = some u := hown.cells (g := g) rfl
      have hr2 := run_append_grow (P := P) w t ty e i z ht hi hz ⟨g, 0, none⟩ n cap xs hown.1 holds a m c news hl hnews (by omega) (by omega) (growslice_fits (by omega) hbytes)
      rw [hr2] at hr
      cases hr
      refine ⟨hown.1, .inr ⟨g, cap, cur, rfl, hbg, ?_, hnc, hcm, hcs, htake⟩⟩
      rw [heap_alloc_old w.drew _ (heap_lt hg)]
      exact hg
theorem wpList_append_own_old {P : Program} {w : World} {ops : Array Oper} {rest : List Oper} {o : Oper} {a : Act} {Q : Exit → Act → World → Prop} (hgd : o.guard = none) (s x : Operand) (t : TypeId)
    (ho : o.op = .call { callee := .builtin .append, args := #[s, x], argTypes := #[t, t] })
    (base : Nat) (e : TypeId) (i : TypeInfo) (z : Value) (size bytes : Nat) (ht : P.underlying t = some (.slice e)) (hi : P.info? e = some i) (hz : i.zero = some z)
    (hsize : i.size = size) (hby : i.bytes = bytes) (hzs : z.cells.size = size) (hsz : 0 < size)
    (v : Value) (n : Nat) (xs : List Value) (hs : a.eval s = v) (hown : w.ownsRow base e size v n xs)
    (ad : Addr) (m c : Nat) (news : List Value) (hx : a.eval x = .slice (some ad) m c) (hl : news.length = m * size) (hnews : ∀ j u, news[j]? = some u → w.cell? (ad.add j) = some u) (h1 : ∀ u ∈ news, u.oneCell' = true)
    (h63 : n + m ≤ maxLen) (hbytes : (n + m) * bytes ≤ 140737488355328) (hbase : base ≤ w.heap.size)
    (h : ∀ v' w', w'.ownsRow base e size v' (n + m) (xs ++ news) → w'.ownsRow base e size v n xs → w.grownBy w' v.ownBlock → (v'.ownBlock = v.ownBlock ∨ v'.ownBlock = some w.heap.size) → wpList P ops Q rest (a.put o.dst v') w') :
    wpList P ops Q (o :: rest) a w := by
  refine wpList_plain hgd fun K hK => ?_
  obtain ⟨v', w', hr, h2, h3, h4, h5⟩ := run_append_own_at (P := P) w base t o.type e i z size bytes ht hi hz hsize hby hzs hsz v n xs hown ad m c news hl hnews h1 h63 hbytes hbase
  have h6 := append_old base t o.type e i z size bytes ht hi hz hsize hby hsz v n xs hown ad m c news hl hnews h1 h63 hbytes hr
  unfold Oper.wp execOp
  simp only [ho, resolve, invoke, builtin, Sem.run_bind, Sem.run_pure, Result.andThen_ok, List.map_toArray, List.map_cons, List.map_nil, hs, hx, hr]
  exact hK _ _ (h v' w' h2 h6 h3 h5)
end Go.Proofs.Ytaoplofhogenmaa
namespace Go.Proofs.Ytaoplofhogenmaa
open Go.RowKit
/-- A slice of slices at A reads as these rows. -/
def IsM (w : World) (A : Option Addr) (xss : List (List Nat)) : Prop := ∃ vs, RdV w A vs ∧ IsBs w vs xss
theorem IsM.below {w w' : World} {A : Option Addr} {xss : List (List Nat)} (h : IsM w A xss) (hb : Below w.heap.size w w') : IsM w' A xss := by
  obtain ⟨vs, h1, h2⟩ := h
  exact ⟨vs, h1.below hb, h2.below hb⟩
theorem IsM.drewN {w : World} {A : Option Addr} {xss : List (List Nat)} (h : IsM w A xss) (d : Nat) : IsM (w.drewN d) A xss := h
theorem IsM.at_ {w : World} {A : Option Addr} {xss : List (List Nat)} (h : IsM w A xss) (k : Nat) (hk : k < xss.length) :
    ∃ b off A' c, A = some ⟨b, off, none⟩ ∧ w.cell? ⟨b, off + k, none⟩ = some (.slice A' (xss.getD k []).length c) ∧ IsB w (.slice A' (xss.getD k []).length c) (xss.getD k []) ∧ (xss.getD k []).length ≤ c ∧ c ≤ 9223372036854775807 := by
  obtain ⟨vs, h1, h2, h3⟩ := h
  obtain ⟨b, off, e, hc⟩ := h1 (by intro e; rw [e] at h2; simp at h2; omega)
  have hv := h3 k (by omega)
  have ck := hc k (by omega)
  obtain ⟨A', c, e1, i1, l1, m1⟩ := hv.form rfl
  rw [e1] at ck
  exact ⟨b, off, A', c, e, ck, i1, l1, m1⟩
end Go.Proofs.Ytaoplofhogenmaa
namespace Go.Proofs.Ytaoplofhogenmaa
open Go.RowKit
theorem take_ext {xs ys : List Nat} {k : Nat} (hx : k < xs.length) (hy : k < ys.length) (h : xs.take k = ys.take k) (e : xs.getD k 0 = ys.getD k 0) : xs.take (k + 1) = ys.take (k + 1) := by
  rw [List.take_succ_eq_append_getElem hx, List.take_succ_eq_append_getElem hy, h]
  have e1 : xs.getD k 0 = xs[k] := by simp [hx]
  have e2 : ys.getD k 0 = ys[k] := by simp [hy]
  rw [← e1, ← e2, e]
set_option maxHeartbeats 400000 in
theorem same_any (A B : Option Addr) (n m ca cb : Nat) (xs ys : List Nat) (w : World) (hA : Rd w A xs) (hB : Rd w B ys) (hn : n = xs.length) (hm : m = ys.length)
    (ln : n ≤ 9223372036854775807) (lm : m ≤ 9223372036854775807) :
    Calls Try.prog 14 #[.slice A n ca, .slice B m cb] w fun e w' => e = .returned (.bool (decide (xs = ys))) ∧ ∃ d, w' = w.drewN d := by
  by_cases hl : n = m
  · subst hl
    have hne0 : ((n : Int) != (n : Int)) = false := by simp
    have HN := hide hn
    have HM := hide hm
    clear hn hm
    go_enter Try.func14, Try.ntmps14
    go_wp2
    go_loopw [5] (fun i wr => ∃ k d : Nat, k ≤ n ∧ i = .int .i64 (k : Int) ∧ Hid (xs.take k = ys.take k) ∧ wr = w.drewN d) (fun i _ => n - (intOf i).toNat)
    case atStart => exact ⟨0, 0, Nat.zero_le _, rfl, rfl, rfl⟩
    case round =>
      obtain ⟨k, d, hk, rfl, hs, rfl⟩ := hrel
      by_cases hlt : k < n
      · obtain ⟨b1, o1, rfl, c1⟩ := hA (by intro e; rw [HN.out, e] at hlt; simp at hlt)
        obtain ⟨b2, o2, rfl, c2⟩ := hB (by intro e; rw [HM.out, e] at hlt; simp at hlt)
        have k1 := c1 k (by rw [← HN.out]; exact hlt)
        have k2 := c2 k (by rw [← HM.out]; exact hlt)
        obtain ⟨x, hx⟩ : ∃ x, x = xs.getD k 0 := ⟨_, rfl⟩
        obtain ⟨y, hy⟩ : ∃ y, y = ys.getD k 0 := ⟨_, rfl⟩
        rw [← hx] at k1
        rw [← hy] at k2
        have HX := hide hx
        have HY := hide hy
        clear hx hy c1 c2 hA hB
        by_cases hxy : x = y
        · subst hxy
          have hne1 : ((x : Int) != (x : Int)) = false := by simp
          go_wp2
          go_quiet (fail)
          go_wp2
          go_roundw
          case rel => exact ⟨k + 1, _, by omega, by go_num, take_ext (by rw [← HN.out]; exact hlt) (by rw [← HM.out]; exact hlt) hs.out (by rw [← HX.out, ← HY.out]), rfl⟩
          case measure => simp [intOf]; omega
        · have hne1 : ((x : Int) != (y : Int)) = true := by simp; omega
          go_wp2
          go_quiet (fail)
          go_wp2
          go_ret
          refine ⟨ret_bool ?_, _, World.drewN_drewN _ _ _⟩
          symm
          rw [decide_eq_false_iff_not]
          intro e
          exact hxy (by rw [HX.out, HY.out, e])
      · go_wp2
        go_ret
        refine ⟨ret_bool ?_, _, rfl⟩
        symm
        rw [decide_eq_true_eq]
        have e := hs.out
        rw [List.take_of_length_le (by rw [← HN.out]; omega), List.take_of_length_le (by rw [← HM.out]; omega)] at e
        exact e
  · have hne0 : ((n : Int) != (m : Int)) = true := by simp; omega
    have hd : decide (xs = ys) = false := by
      rw [decide_eq_false_iff_not]
      intro e
      exact hl (by rw [hn, hm, e])
    rw [hd]
    clear hd
    have HN := hide hn
    have HM := hide hm
    clear hn hm
    go_enter Try.func14, Try.ntmps14
    go_wp2
    go_ret
    exact ⟨rfl, 0, rfl⟩
end Go.Proofs.Ytaoplofhogenmaa
namespace Go.Proofs.Ytaoplofhogenmaa
open Go.RowKit
theorem ownV_empty (w : World) : OwnV (w.alloc (.cells #[] 23)) w.heap.size (.slice (some ⟨w.heap.size, 0, none⟩) 0 0) [] :=
  ⟨rfl, .inr ⟨w.heap.size, 0, #[], rfl, Nat.le_refl _, heap_alloc_new w _, Nat.le_refl _, by decide, rfl, rfl⟩⟩
theorem IsBs.one {w : World} {vs : List Value} {xss : List (List Nat)} (h : IsBs w vs xss) : ∀ u ∈ vs, u.oneCell' = true := fun u hu => by
  obtain ⟨i, hi, rfl⟩ := List.getElem_of_mem hu
  obtain ⟨A, c, e, _⟩ := h.2 i hi
  have e2 : vs.getD i (.slice none 0 0) = vs[i] := by simp [hi]
  rw [e2] at e
  rw [e]
  rfl
theorem IsBs.app {w : World} {vs us : List Value} {xss yss : List (List Nat)} (h : IsBs w vs xss) (g : IsBs w us yss) : IsBs w (vs ++ us) (xss ++ yss) := by
  refine ⟨by rw [List.length_append, List.length_append, h.1, g.1], fun i hi => ?_⟩
  rw [List.length_append] at hi
  rcases Nat.lt_or_ge i vs.length with hlt | hge
  · have := h.2 i hlt
    simp only [List.getD_eq_getElem?_getD] at this ⊢
    rw [List.getElem?_append_left hlt, List.getElem?_append_left (by rw [← h.1]; exact hlt)]
    exact this
  · have := g.2 (i - vs.length) (by omega)
    simp only [List.getD_eq_getElem?_getD] at this ⊢
    rw [List.getElem?_append_right hge, List.getElem?_append_right (by rw [← h.1]; exact hge), ← h.1]
    exact this
theorem wpList_append_vals {w : World} {ops : Array Oper} {rest : List Oper} {o : Oper} {a : Act} {Q : Exit → Act → World → Prop} (hgd : o.guard = none) (s x : Operand)
    (ho : o.op = .call { callee := .builtin .append, args := #[s, x], argTypes := #[22, 22] })
    (B : Nat) (v : Value) (vs : List Value) (hs : a.eval s = v) (hown : OwnV w B v vs)
    (A : Option Addr) (n c : Nat) (us : List Value) (hx : a.eval x = .slice A n c) (hn : us.length = n) (hA : A = none → c = 0) (hr : RdV w A us) (h1 : ∀ u ∈ us, u.oneCell' = true)
    (hlen : vs.length + n ≤ 1099511627776) (hbase : B ≤ w.heap.size)
    (h : ∀ v' w', OwnV w' B v' (vs ++ us) → Below B w w' → wpList Try.prog ops Q rest (a.put o.dst v') w') : wpList Try.prog ops Q (o :: rest) a w := by
  obtain ⟨i0, hi, hz0, hz1, hz2⟩ := info_parts Try.info_rows
  subst hn
  have fin : ∀ v' w', w'.ownsRow B 23 1 v' (vs.length + us.length) (vs ++ us) → w.grownBy w' v.ownBlock → wpList Try.prog ops Q rest (a.put o.dst v') w' := fun v' w' hown' hg =>
    h v' w' (by unfold OwnV; simpa using hown') ((Below.refl _ _).grown hg hbase fun k hk => (hown.lt k hk).1)
  have hown' := hown
  unfold OwnV at hown'
  rcases A with _ | ad
  · have h0 := hA rfl
    subst h0
    have hus : us = [] := by
      rcases us with _ | ⟨y, ys⟩
      · rfl
      · obtain ⟨_, _, e, _⟩ := hr (by simp)
        cases e
    subst hus
    exact wpList_append_own_none hgd s x _ ho B 23 i0 1 Try.underlying22 hi v _ _ hs hown' hx (fin v w (by simpa using hown') (World.grownBy.refl w _))
  · refine wpList_append_own w hgd s x _ ho B 23 i0 (.slice none 0 0) 1 24 Try.underlying22 hi hz0 hz1 hz2 rfl (by decide) v _ _ hs hown' ad us.length c us hx (by simp) ?_ h1 (by unfold maxLen; omega) (by omega) hbase (fun v' w' k1 k2 _ => fin v' w' k1 k2)
    intro j u hu
    have hj : j < us.length := by
      rcases Nat.lt_or_ge j us.length with h | h
      · exact h
      · rw [List.getElem?_eq_none h] at hu; cases hu
    obtain ⟨b, off, e, hc⟩ := hr (by intro e; rw [e] at hj; simp at hj)
    cases e
    have := hc j hj
    rw [add_off, this, List.getD_eq_getElem?_getD, hu]
    rfl
/-- Two lists of rows, one behind the other, in a list of the call's own: what it reads as. -/
theorem isM_both {w w' : World} {B n : Nat} {v : Value} {vs us : List Value} {xss yss : List (List Nat)} (h : OwnV w' B v (vs ++ us)) (k : Below w.heap.size w w') (b1 : IsBs w vs xss) (b2 : IsBs w us yss) (hn : xss.length + yss.length = n) :
    ∃ A c, v = .slice A n c ∧ IsM w' A (xss ++ yss) := by
  obtain ⟨A, c, e, r, _⟩ := h.form (n := n) (by rw [List.length_append, b1.1, b2.1, hn])
  exact ⟨A, c, e, vs ++ us, r, (b1.app b2).below k⟩
end Go.Proofs.Ytaoplofhogenmaa
