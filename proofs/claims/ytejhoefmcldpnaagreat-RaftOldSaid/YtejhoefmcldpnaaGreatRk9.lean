/- Messages in a row: what lies in memory, what an append lays. No condition but the widths. -/
import Derived.Test.YtejhoefmcldpnaaGreatRk8
import Derived.Test.YtejhoefmcldpnaaGreatRk7
namespace Go.Proofs.YtejhoefmcldpnaaGreat
open Go.RowKit
/-- A message as it stands in a row: its numbers, the values of its two lists, and what they read as. -/
structure Itm where
  f : Int
  t : Int
  k : Int
  u : Value
  v : Value
  zs : List Int
  d : List Nat
/-- .. and what it says. -/
def Itm.says (q : Itm) : Int × Int × Int × List Int × List Nat := (q.f, q.t, q.k, q.zs, q.d)
def Itm.five (q : Itm) : List Value := [.int .i64 q.f, .int .i64 q.t, .int .i64 q.k, q.u, q.v]
def cellsM : List Itm → List Value
  | [] => []
  | q :: r => .int .i64 q.f :: .int .i64 q.t :: .int .i64 q.k :: q.u :: q.v :: cellsM r
theorem cellsM_length : ∀ X : List Itm, (cellsM X).length = X.length * 5
  | [] => rfl
  | q :: r => by simp only [cellsM, List.length_cons, cellsM_length r]; omega
theorem cellsM_append : ∀ X Y : List Itm, cellsM (X ++ Y) = cellsM X ++ cellsM Y
  | [], _ => rfl
  | q :: r, Y => by simp [cellsM, cellsM_append r Y]
theorem cellsM_at : ∀ (X : List Itm) (i : Nat) (h : i < X.length), (cellsM X)[i * 5]? = some (.int .i64 X[i].f) ∧ (cellsM X)[i * 5 + 1]? = some (.int .i64 X[i].t) ∧ (cellsM X)[i * 5 + 2]? = some (.int .i64 X[i].k) ∧ (cellsM X)[i * 5 + 3]? = some X[i].u ∧ (cellsM X)[i * 5 + 4]? = some X[i].v
  | q :: r, 0, _ => by simp [cellsM]
  | q :: r, i + 1, h => by
    have h' : i < r.length := by simpa using h
    obtain ⟨h0, h1, h2, h3, h4⟩ := cellsM_at r i h'
    have e : ∀ j, (i + 1) * 5 + j = i * 5 + j + 1 + 1 + 1 + 1 + 1 := by intro j; omega
    have e0 : (i + 1) * 5 = i * 5 + 1 + 1 + 1 + 1 + 1 := by omega
    rw [e 1, e 2, e 3, e 4, e0]
    simp only [cellsM, List.getElem?_cons_succ, List.getElem_cons_succ]
    exact ⟨h0, h1, h2, h3, h4⟩
theorem cellsM_take (X : List Itm) (i : Nat) (hi : i ≤ X.length) : cellsM (X.take i) = (cellsM X).take (i * 5) := by
  have h := cellsM_append (X.take i) (X.drop i)
  rw [List.take_append_drop] at h
  rw [h, List.take_left']
  rw [cellsM_length, List.length_take]
  congr 1
  omega
theorem cellsM_drop (X : List Itm) (i : Nat) (hi : i ≤ X.length) : cellsM (X.drop i) = (cellsM X).drop (i * 5) := by
  have h := cellsM_append (X.take i) (X.drop i)
  rw [List.take_append_drop] at h
  rw [h, List.drop_left']
  rw [cellsM_length, List.length_take]
  congr 1
  omega
/-- The slice of messages. -/
def OwnM (w : World) (B : Nat) (v : Value) (X : List Itm) : Prop := w.ownsRow B 34 5 v X.length (cellsM X)
theorem OwnM.nil (w : World) (B : Nat) : OwnM w B (.slice none 0 0) [] := World.ownsRow_nil _ _ _ _
/-- An item's lists are of the call's own, and lie in the thing. -/
structure Good (w : World) (F : Nat → Prop) (q : Itm) : Prop where
  ou : OwnN w 0 q.u q.zs
  ov : Own w 0 q.v q.d
  fu : ∀ g, q.u.ownBlock = some g → F g
  fv : ∀ g, q.v.ownBlock = some g → F g
  lu : q.zs.length ≤ 1099511627776
  lv : q.d.length ≤ 1099511627776
theorem Good.turn {S : Nat → Prop} {w w' : World} {F : Nat → Prop} {q : Itm} (h : Good w F q) (t : Turn S w w') (hS : ∀ g, F g → ¬ S g) : Good w' F q :=
  ⟨ownsRow_turn h.ou t (fun g hg => hS g (h.fu g hg)), ownsRow_turn h.ov t (fun g hg => hS g (h.fv g hg)), h.fu, h.fv, h.lu, h.lv⟩
theorem Good.below {w w' : World} {F : Nat → Prop} {q : Itm} (h : Good w F q) (k : Below w.heap.size w w') : Good w' F q := h.turn (S := fun _ => False) (Turn.of_below _ k) (fun _ _ => id)
theorem Good.more {w : World} {F F' : Nat → Prop} {q : Itm} (h : Good w F q) (hF : ∀ g, F g → F' g) : Good w F' q := ⟨h.ou, h.ov, fun g hg => hF g (h.fu g hg), fun g hg => hF g (h.fv g hg), h.lu, h.lv⟩
/-- Where only blocks of a row of messages, or of another such type, have been turned the lists are what they were. -/
theorem Good.row {w w' : World} {F : Nat → Prop} {q : Itm} {B n s : Nat} {e : TypeId} {v : Value} {l : List Value} (h : Good w F q) (hr : w.ownsRow B e s v n l) (h1 : 3 ≠ e) (h2 : 5 ≠ e) (hg : w.grownBy w' v.ownBlock) : Good w' F q :=
  ⟨ownsRow_apart h.ou hr h1 hg, ownsRow_apart h.ov hr h2 hg, h.fu, h.fv, h.lu, h.lv⟩
theorem Good.blk {w w' : World} {F : Nat → Prop} {q : Itm} {B g : Nat} {e : TypeId} {l : List Value} (h : Good w F q) (hb : Blk w B e g l) (h1 : 3 ≠ e) (h2 : 5 ≠ e) (hg : w.grownBy w' (some g)) : Good w' F q :=
  ⟨World.ownsRow.kept h.ou hg (.inr (ownsRow_blk h.ou hb h1)), World.ownsRow.kept h.ov hg (.inr (ownsRow_blk h.ov hb h2)), h.fu, h.fv, h.lu, h.lv⟩
/-- A net in block g: one cell, a slice of messages. -/
structure NShell (e : TypeId) (w : World) (F : Nat → Prop) (g : Nat) (v : Value) (X : List Itm) : Prop where
  cells : Blk w 0 e g [v]
  row : OwnM w 0 v X
  mine : ∀ b, v.ownBlock = some b → F b
  own : F g
  low : ∀ k, F k → k < w.heap.size
  each : ∀ q ∈ X, Good w F q
  most : X.length ≤ 4096
theorem NShell.turn {S : Nat → Prop} {e : TypeId} {w w' : World} {F : Nat → Prop} {g : Nat} {v : Value} {X : List Itm} (h : NShell e w F g v X) (t : Turn S w w') (hS : ∀ k, F k → ¬ S k) : NShell e w' F g v X :=
  ⟨h.cells.turn t (hS g h.own), ownsRow_turn h.row t (fun b hb => hS b (h.mine b hb)), h.mine, h.own, fun k hk => Nat.lt_of_lt_of_le (h.low k hk) t.size, fun q hq => (h.each q hq).turn t hS, h.most⟩
theorem NShell.below {e : TypeId} {w w' : World} {F : Nat → Prop} {g : Nat} {v : Value} {X : List Itm} (h : NShell e w F g v X) (k : Below w.heap.size w w') : NShell e w' F g v X := h.turn (S := fun _ => False) (Turn.of_below _ k) (fun _ _ => id)
theorem NShell.more {e : TypeId} {w : World} {F F' : Nat → Prop} {g : Nat} {v : Value} {X : List Itm} (h : NShell e w F g v X) (hF : ∀ k, F k → F' k) (hl : ∀ k, F' k → k < w.heap.size) : NShell e w F' g v X :=
  ⟨h.cells, h.row, fun b hb => hF b (h.mine b hb), hF g h.own, hl, fun q hq => (h.each q hq).more hF, h.most⟩
/-- The form of the row, and each of its cells. -/
theorem OwnM.form {w : World} {v : Value} {X : List Itm} (h : OwnM w 0 v X) : ∃ A c, v = .slice A X.length c ∧ X.length ≤ c ∧ c ≤ 9223372036854775807 ∧ (A = none → c = 0) ∧
    ∀ i (hi : i < X.length), ∃ g, A = some ⟨g, 0, none⟩ ∧ v.ownBlock = some g ∧ g < w.heap.size ∧ w.cell? ⟨g, i * 5, none⟩ = some (.int .i64 X[i].f) ∧ w.cell? ⟨g, i * 5 + 1, none⟩ = some (.int .i64 X[i].t) ∧ w.cell? ⟨g, i * 5 + 2, none⟩ = some (.int .i64 X[i].k) ∧ w.cell? ⟨g, i * 5 + 3, none⟩ = some X[i].u ∧ w.cell? ⟨g, i * 5 + 4, none⟩ = some X[i].v ∧ ∀ j, w.frozen? ⟨g, j, none⟩ = false := by
  have hr := h
  unfold OwnM at hr
  rcases hr.2 with ⟨rfl, hn⟩ | ⟨g, cap, cur, rfl, hb, hg, h1, h2, _⟩
  · exact ⟨none, 0, by rw [hn], by omega, by decide, fun _ => rfl, fun i hi => by omega⟩
  · refine ⟨_, cap, rfl, h1, by unfold maxLen at h2; omega, (fun e => by cases e), fun i hi => ?_⟩
    have hl := cellsM_length X
    obtain ⟨q0, q1, q2, q3, q4⟩ := cellsM_at X i hi
    exact ⟨g, rfl, rfl, heap_lt hg, by rw [World.ownsRow.cellAt hr _ (by omega)]; exact q0, by rw [World.ownsRow.cellAt hr _ (by omega)]; exact q1, by rw [World.ownsRow.cellAt hr _ (by omega)]; exact q2, by rw [World.ownsRow.cellAt hr _ (by omega)]; exact q3, by rw [World.ownsRow.cellAt hr _ (by omega)]; exact q4, fun j => World.ownsRow.frozenAt hr j⟩
theorem Tryz.info_msg : (Tryz.prog.info? 34).map (fun i => (i.zero, i.size, i.bytes)) = some (some (.agg #[.int .i64 0, .int .i64 0, .int .i64 0, .slice none 0 0, .slice none 0 0]), 5, 72) := by kernel_rfl
/-- A slice that reads as messages. -/
def IsM (w : World) (u : Value) (Y : List Itm) : Prop :=
  (∃ A c, u = .slice A Y.length c ∧ (A = none → c = 0 ∧ Y = []) ∧ ∀ ad, A = some ad → ∀ j z, (cellsM Y)[j]? = some z → w.cell? (ad.add j) = some z) ∧ ∀ z ∈ cellsM Y, z.oneCell' = true
theorem IsM.below {w w' : World} {u : Value} {Y : List Itm} (h : IsM w u Y) (k : Below w.heap.size w w') : IsM w' u Y := by
  obtain ⟨⟨A, c, e, h1, h2⟩, h3⟩ := h
  exact ⟨⟨A, c, e, h1, fun ad ha j z hz => by
    have := h2 ad ha j z hz
    exact (k.cell (cell_lt this)).trans this⟩, h3⟩
theorem one_cellsM {w : World} {F : Nat → Prop} : ∀ {X : List Itm}, (∀ q ∈ X, Good w F q) → ∀ z ∈ cellsM X, z.oneCell' = true
  | [], _, z, hz => by cases hz
  | p :: r, h, z, hz => by
    simp only [cellsM, List.mem_cons] at hz
    rcases hz with rfl | rfl | rfl | rfl | rfl | hz
    · rfl
    · rfl
    · rfl
    · obtain ⟨A, c, e, _⟩ := (h p (by simp)).ou.isI
      rw [e]
      rfl
    · obtain ⟨A, c, e, _⟩ := (h p (by simp)).ov.form
      rw [e]
      rfl
    · exact one_cellsM (fun q hq => h q (by simp [hq])) z hz
theorem OwnM.take {w : World} {B : Nat} {A : Option Addr} {c : Nat} {X : List Itm} {F : Nat → Prop} (h : OwnM w B (.slice A X.length c) X) (h1 : ∀ q ∈ X, Good w F q) (i : Nat) (hi : i ≤ X.length) : IsM w (.slice A i c) (X.take i) := by
  have hl : (X.take i).length = i := by rw [List.length_take]; omega
  refine ⟨⟨A, c, by rw [hl], fun e => ?_, fun ad e j z hz => ?_⟩, one_cellsM fun q hq => h1 q (List.mem_of_mem_take hq)⟩
  · subst e
    unfold OwnM at h
    rcases h.2 with ⟨e, hn⟩ | ⟨g, cap, cur, e, _⟩
    · simp only [Value.slice.injEq] at e
      have : X = [] := List.eq_nil_of_length_eq_zero hn
      exact ⟨e.2.2, by rw [this]; simp⟩
    · simp at e
  · subst e
    rw [cellsM_take X i hi, List.getElem?_take] at hz
    split at hz
    · unfold OwnM at h
      rcases h.2 with ⟨e, hn⟩ | ⟨g, cap, cur, e, _⟩
      · simp at e
      · simp only [Value.slice.injEq, Option.some.injEq] at e
        obtain ⟨rfl, _, _⟩ := e
        rw [add_off, Nat.zero_add]
        have hj : j < (cellsM X).length := (List.getElem?_eq_some_iff.1 hz).1
        rw [World.ownsRow.cellAt h j (by rw [cellsM_length] at hj; exact hj)]
        exact hz
    · cases hz
theorem OwnM.drop {w : World} {B : Nat} {A : Option Addr} {c : Nat} {X : List Itm} {F : Nat → Prop} (h : OwnM w B (.slice A X.length c) X) (h1 : ∀ q ∈ X, Good w F q) (i : Nat) (hi : i ≤ X.length) (A' : Option Addr) (hA : A = none ∧ A' = none ∨ ∃ g, A = some ⟨g, 0, none⟩ ∧ A' = some ⟨g, if c = i then 0 else i * 5, none⟩) :
    IsM w (.slice A' (X.length - i) (c - i)) (X.drop i) := by
  have hl : (X.drop i).length = X.length - i := List.length_drop
  refine ⟨⟨A', c - i, by rw [hl], fun e => ?_, fun ad e j z hz => ?_⟩, one_cellsM fun q hq => h1 q (List.mem_of_mem_drop hq)⟩
  · subst e
    rcases hA with ⟨rfl, _⟩ | ⟨g, _, e⟩
    · unfold OwnM at h
      rcases h.2 with ⟨e, hn⟩ | ⟨g, cap, cur, e, _⟩
      · simp only [Value.slice.injEq] at e
        have : X = [] := List.eq_nil_of_length_eq_zero hn
        exact ⟨by omega, by rw [this]; simp⟩
      · simp at e
    · cases e
  · subst e
    rw [cellsM_drop X i hi, List.getElem?_drop] at hz
    have hj : i * 5 + j < (cellsM X).length := (List.getElem?_eq_some_iff.1 hz).1
    rw [cellsM_length] at hj
    rcases hA with ⟨_, e⟩ | ⟨g, rfl, e⟩
    · cases e
    · unfold OwnM at h
      rcases h.2 with ⟨e', hn⟩ | ⟨g', cap, cur, e', _, _, hcap, _⟩
      · simp at e'
      · simp only [Value.slice.injEq, Option.some.injEq, Addr.mk.injEq] at e'
        obtain ⟨⟨rfl, _, _⟩, hn', hc'⟩ := e'
        subst hc'
        rw [if_neg (by omega)] at e
        cases e
        rw [add_off, World.ownsRow.cellAt h _ (by omega)]
        exact hz
/-- One message in a block that has just been laid. -/
theorem isM_one (w : World) (f t k : Int) (A : Option Addr) (n c : Nat) (D : Option Addr) (m cp : Nat) (zs : List Int) (d : List Nat) (b : Nat) (hb : b = w.heap.size) :
    IsM (w.alloc (.cells #[.int .i64 f, .int .i64 t, .int .i64 k, .slice A n c, .slice D m cp] 34)) (.slice (some ⟨b, 0, none⟩) 1 1) [⟨f, t, k, .slice A n c, .slice D m cp, zs, d⟩] := by
  subst hb
  refine ⟨⟨_, 1, rfl, (fun e => by cases e), fun ad e j z hz => ?_⟩, fun z hz => ?_⟩
  · cases e
    rw [add_off, Nat.zero_add, cell_of_row _ _ _ _ _ (0, 0) (heap_alloc_new w _)]
    rw [← Array.getElem?_toList]
    exact hz
  · simp only [cellsM, List.mem_cons] at hz
    rcases hz with rfl | rfl | rfl | rfl | rfl | hz
    · rfl
    · rfl
    · rfl
    · rfl
    · rfl
    · cases hz
theorem OwnM.empty (w : World) : OwnM (w.alloc (.cells #[] 34)) w.heap.size (.slice (some ⟨w.heap.size, 0, none⟩) 0 0) [] := by
  unfold OwnM
  exact ⟨rfl, .inr ⟨_, 0, #[], rfl, Nat.le_refl _, heap_alloc_new w _, Nat.le_refl _, Nat.zero_le _, rfl, rfl⟩⟩
theorem wpList_append_msgs {w : World} {ops : Array Oper} {rest : List Oper} {o : Oper} {a : Act} {Q : Exit → Act → World → Prop} (hgd : o.guard = none) (s x : Operand)
    (ho : o.op = .call { callee := .builtin .append, args := #[s, x], argTypes := #[22, 22] })
    (B : Nat) (v : Value) (X : List Itm) (hs : a.eval s = v) (hown : OwnM w B v X)
    (u : Value) (Y : List Itm) (hx : a.eval x = u) (hr : IsM w u Y)
    (hlen : X.length + Y.length ≤ 1073741824) (hbase : B ≤ w.heap.size)
    (h : ∀ v' w', OwnM w' B v' (X ++ Y) → w.grownBy w' v.ownBlock → (v'.ownBlock = v.ownBlock ∨ v'.ownBlock = some w.heap.size) → wpList Tryz.prog ops Q rest (a.put o.dst v') w') : wpList Tryz.prog ops Q (o :: rest) a w := by
  obtain ⟨i0, hi, hz0, hz1, hz2⟩ := info_parts Tryz.info_msg
  obtain ⟨⟨A, c, rfl, hn, hc⟩, h1⟩ := hr
  have fin : ∀ v' w', w'.ownsRow B 34 5 v' (X.length + Y.length) (cellsM X ++ cellsM Y) → w.grownBy w' v.ownBlock → (v'.ownBlock = v.ownBlock ∨ v'.ownBlock = some w.heap.size) → wpList Tryz.prog ops Q rest (a.put o.dst v') w' := by
    intro v' w' hown' hg hl
    exact h v' w' (by unfold OwnM; rw [List.length_append, cellsM_append]; exact hown') hg hl
  rcases A with _ | ad
  · obtain ⟨rfl, rfl⟩ := hn rfl
    exact wpList_append_own_none hgd s x _ ho B 34 i0 5 Tryz.underlying22 hi v _ _ hs hown hx (fin v w (by simpa [cellsM, OwnM] using hown) (World.grownBy.refl w _) (.inl rfl))
  · exact wpList_append_own_at w hgd s x _ ho B 34 i0 _ 5 72 Tryz.underlying22 hi hz0 hz1 hz2 rfl (by decide) v _ _ hs hown ad Y.length c (cellsM Y) hx (cellsM_length Y) (hc ad rfl) h1 (by unfold maxLen; omega) (by omega) hbase (fun v' w' h1 h2 _ h4 => fin v' w' h1 h2 h4)
theorem step_append_msgs {w : World} {ops : Array Oper} {o : Oper} {a : Act} {K : Act → World → Prop} {Q : Exit → Act → World → Prop} {E : Prop} (hgd : o.guard = none) (s x : Operand)
    (ho : o.op = .call { callee := .builtin .append, args := #[s, x], argTypes := #[22, 22] })
    (B : Nat) (v : Value) (X : List Itm) (hs : a.eval s = v) (hown : OwnM w B v X)
    (u : Value) (Y : List Itm) (hx : a.eval x = u) (hr : IsM w u Y)
    (hlen : X.length + Y.length ≤ 1073741824) (hbase : B ≤ w.heap.size)
    (h : ∀ v' w', OwnM w' B v' (X ++ Y) → w.grownBy w' v.ownBlock → (v'.ownBlock = v.ownBlock ∨ v'.ownBlock = some w.heap.size) → K (a.put o.dst v') w') : if Region.wanted o (yielded ops a.tmps) = true then Oper.wp Tryz.prog o a w K Q else E := by
  have hw : Region.wanted o (yielded ops a.tmps) = true := by simp [Region.wanted, hgd]
  rw [if_pos hw]
  obtain ⟨i0, hi, hz0, hz1, hz2⟩ := info_parts Tryz.info_msg
  obtain ⟨⟨A, c, rfl, hn, hc⟩, h1⟩ := hr
  rcases A with _ | ad
  · obtain ⟨rfl, rfl⟩ := hn rfl
    have hrun := run_append_owned_none (P := Tryz.prog) (w := w) B 22 o.type 34 i0 5 Tryz.underlying22 hi v _ _ hown
    unfold Oper.wp
    simp [execOp, ho, resolve, invoke, builtin, hs, hx, hrun, Result.andThen]
    exact h v w (by simpa using hown) (World.grownBy.refl w _) (.inl rfl)
  · obtain ⟨v', w', hr, h2, h3, h4, h5⟩ := run_append_own_at (P := Tryz.prog) w B 22 o.type 34 i0 _ 5 72 Tryz.underlying22 hi hz0 hz1 hz2 rfl (by decide) v _ _ hown ad Y.length c (cellsM Y) (cellsM_length Y) (hc ad rfl) h1 (by unfold maxLen; omega) (by omega) hbase
    unfold Oper.wp
    simp [execOp, ho, resolve, invoke, builtin, hs, hx, hr, Result.andThen]
    exact h v' w' (by unfold OwnM; rw [List.length_append, cellsM_append]; exact h2) h3 h5
/-- Another row is stored into the net. -/
theorem NShell.newrow {e : TypeId} {w : World} {F F' : Nat → Prop} {g : Nat} {v v' : Value} {X Y : List Itm} (h : NShell e w F g v X) (h0 : 34 ≠ e) (h1 : 3 ≠ e) (h2 : 5 ≠ e) (hv : OwnM w 0 v' Y) (hF : ∀ k, F k → F' k) (hm : ∀ b, v'.ownBlock = some b → F' b) (hl : ∀ k, F' k → k < w.heap.size)
    (he : ∀ q ∈ Y, Good w F' q) (hY : Y.length ≤ 4096) : NShell e (w.setCell ⟨g, 0, none⟩ v') F' g v' Y := by
  have gs := grown_set w g 0 v'
  refine ⟨h.cells.stored 0 v', World.ownsRow.kept hv gs (.inr (ownsRow_blk hv h.cells h0)), hm, hF g h.own, (by simpa using hl), fun q hq => (he q hq).blk h.cells h1 h2 gs, hY⟩
/-- A net whose messages are these. -/
def NetAt (e : TypeId) (w : World) (F : Nat → Prop) (g : Nat) (L : List (Int × Int × Int × List Int × List Nat)) : Prop := ∃ v X, L = X.map Itm.says ∧ NShell e w F g v X
theorem NetAt.turn {S : Nat → Prop} {e : TypeId} {w w' : World} {F : Nat → Prop} {g : Nat} {L : List (Int × Int × Int × List Int × List Nat)} (h : NetAt e w F g L) (t : Turn S w w') (hS : ∀ k, F k → ¬ S k) : NetAt e w' F g L := by
  obtain ⟨v, X, hl, h⟩ := h
  exact ⟨v, X, hl, h.turn t hS⟩
theorem NetAt.below {e : TypeId} {w w' : World} {F : Nat → Prop} {g : Nat} {L : List (Int × Int × Int × List Int × List Nat)} (h : NetAt e w F g L) (k : Below w.heap.size w w') : NetAt e w' F g L := h.turn (S := fun _ => False) (Turn.of_below _ k) (fun _ _ => id)
theorem NetAt.low {e : TypeId} {w : World} {F : Nat → Prop} {g : Nat} {L : List (Int × Int × Int × List Int × List Nat)} (h : NetAt e w F g L) : ∀ k, F k → k < w.heap.size := by
  obtain ⟨v, X, hl, h⟩ := h
  exact h.low
/-- What belongs to the thing, and all that has come since. -/
def andNew (F : Nat → Prop) (w w' : World) (k : Nat) : Prop := F k ∨ (w.heap.size ≤ k ∧ k < w'.heap.size)
theorem andNew.next {F : Nat → Prop} {w w' : World} (t : Turn F w w') : Next F w (andNew F w w') w' := ⟨t, fun _ hk => hk.imp id (fun h => h.1)⟩
theorem andNew.low {F : Nat → Prop} {w w' : World} (hF : ∀ k, F k → k < w.heap.size) (h : w.heap.size ≤ w'.heap.size) : ∀ k, andNew F w w' k → k < w'.heap.size := fun k hk => hk.elim (fun e => Nat.lt_of_lt_of_le (hF k e) h) (fun e => e.2)
/-- An append to the net's row, and the store of what came of it. -/
theorem NShell.appended {e : TypeId} {w w3 w4 : World} {F : Nat → Prop} {g : Nat} {v v4 : Value} {X Y : List Itm} (h : NShell e w F g v X) (h0 : 34 ≠ e) (h1 : 3 ≠ e) (h2 : 5 ≠ e) (k3 : Below w.heap.size w w3) (o4 : OwnM w4 0 v4 Y) (g4 : w3.grownBy w4 v.ownBlock) (l4 : v4.ownBlock = v.ownBlock ∨ v4.ownBlock = some w3.heap.size)
    (hY : Y.length ≤ 4096) (each : ∀ q ∈ Y, q ∈ X ∨ Good w3 (andNew F w w3) q) :
    Blk w4 0 e g [v] ∧ NShell e (w4.setCell ⟨g, 0, none⟩ v4) (andNew F w (w4.setCell ⟨g, 0, none⟩ v4)) g v4 Y ∧ Turn F w (w4.setCell ⟨g, 0, none⟩ v4) := by
  have h3 := h.below k3
  have b4 : Blk w4 0 e g [v] := h3.cells.kept g4 (ownsRow_blk h3.row h3.cells h0)
  have t4 : Turn F w w4 := (Turn.of_below F k3).trans ((Turn.of_grown g4).mono (fun k hk => h.mine k hk.symm))
  have t5 : Turn F w4 (w4.setCell ⟨g, 0, none⟩ v4) := (Turn.of_grown (grown_set w4 g 0 v4)).mono (fun k hk => by
    have e : k = g := by simpa using hk
    rw [e]; exact h.own)
  have hs : (w4.setCell ⟨g, 0, none⟩ v4).heap.size = w4.heap.size := by simp
  have e4 : ∀ q ∈ Y, Good w4 (andNew F w (w4.setCell ⟨g, 0, none⟩ v4)) q := fun q hq => by
    rcases each q hq with hx | hx
    · exact ((h3.each q hx).row h3.row (by decide) (by decide) g4).more (fun k hk => .inl hk)
    · exact (hx.row h3.row (by decide) (by decide) g4).more (fun k hk => hk.imp id (fun z => ⟨z.1, by rw [hs]; exact Nat.lt_of_lt_of_le z.2 g4.size⟩))
  have hl : ∀ k, andNew F w (w4.setCell ⟨g, 0, none⟩ v4) k → k < w4.heap.size := fun k hk => by
    have := andNew.low (w' := w4.setCell ⟨g, 0, none⟩ v4) h.low (by rw [hs]; exact t4.size) k hk
    rwa [hs] at this
  have hb : ∀ b, v4.ownBlock = some b → andNew F w (w4.setCell ⟨g, 0, none⟩ v4) b := fun b hb => by
    have hlt := (World.ownsRow.lt o4 b hb).2
    rcases l4 with e | e
    · exact .inl (h.mine b (by rw [← e]; exact hb))
    · right
      rw [e] at hb
      have hb : w3.heap.size = b := by simpa using hb
      rw [hs]
      exact ⟨by rw [← hb]; exact k3.size, hlt⟩
  refine ⟨b4, ?_, t4.trans t5⟩
  refine ⟨b4.stored 0 v4, World.ownsRow.kept o4 (grown_set w4 g 0 v4) (.inr (ownsRow_blk o4 b4 h0)), hb, .inl h.own, fun k hk => by rw [hs]; exact hl k hk, fun q hq => (e4 q hq).blk b4 h1 h2 (grown_set w4 g 0 v4), hY⟩
theorem good_fresh {w w3 w5 : World} {F : Nat → Prop} {B : Nat} {u v : Value} {zs : List Int} {d : List Nat} (f t k : Int) (ou : OwnN w3 B u zs) (ov : Own w3 B v d) (hB : w.heap.size ≤ B) (k5 : Below w3.heap.size w3 w5) (hz : zs.length ≤ 1099511627776) (hd : d.length ≤ 1099511627776) : Good w5 (andNew F w w5) ⟨f, t, k, u, v, zs, d⟩ :=
  ⟨ownsRow_more (ownsRow_keep ou k5) (Nat.zero_le _), ownsRow_more (ownsRow_keep ov k5) (Nat.zero_le _), fun b hb => .inr ⟨Nat.le_trans hB (World.ownsRow.lt ou b hb).1, Nat.lt_of_lt_of_le (World.ownsRow.lt ou b hb).2 k5.size⟩, fun b hb => .inr ⟨Nat.le_trans hB (World.ownsRow.lt ov b hb).1, Nat.lt_of_lt_of_le (World.ownsRow.lt ov b hb).2 k5.size⟩, hz, hd⟩
theorem each_app {w3 : World} {F : Nat → Prop} {X : List Itm} {q0 : Itm} (h : Good w3 F q0) : ∀ q ∈ X ++ [q0], q ∈ X ∨ Good w3 F q := fun q hq => by
  rcases List.mem_append.1 hq with hx | hx
  · exact .inl hx
  · right
    have e : q = q0 := by simpa using hx
    rw [e]; exact h
theorem len_app {α : Type} {X : List α} {q : α} {N : Nat} (hX : N = X.length) (h : N < 4096) : (X ++ [q]).length ≤ 4096 := by rw [List.length_append, ← hX, List.length_singleton]; omega
theorem five_form {w : World} {F : Nat → Prop} {q : Itm} (h : Good w F q) : ∃ A c D cp, q = ⟨q.f, q.t, q.k, .slice A q.zs.length c, .slice D q.d.length cp, q.zs, q.d⟩ ∧ (A = none → c = 0) := by
  obtain ⟨A, c, e, _⟩ := h.ou.isI
  obtain ⟨D, cp, e2, _⟩ := h.ov.form
  refine ⟨A, c, D, cp, by rw [← e, ← e2], fun ha => ?_⟩
  have hu := h.ou
  unfold OwnN at hu
  rcases hu.2 with ⟨e3, _⟩ | ⟨g, cap, cur, e3, _⟩
  · rw [e] at e3
    simp only [Value.slice.injEq] at e3
    exact e3.2.2
  · rw [e] at e3
    simp only [Value.slice.injEq] at e3
    rw [ha] at e3
    cases e3.1
end Go.Proofs.YtejhoefmcldpnaaGreat
