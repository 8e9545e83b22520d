/- Rows of rows of bytes that are read: a slice of slices, each with bytes. No condition. Rows of rows of bytes that the call makes: a slice of slices that grows by one, each with bytes of its own. Condition: fewer than 2 to the 40 rows. Rows of rows of bytes that are read. No condition. A store into bytes of the call's own. No conditions. Blocks of the call's own with their cells written out. No condition. Matrices in memory: rows of rows of bytes that are read, and such as the call makes. No condition. Matrices that the call makes row by row, each row in a block of its own. No condition. A row appended to a matrix of the call's own. No condition. Products of matrices as lists; what is refused. It names nothing of the program. The code's rows. It names nothing of the program. What One and Code answer, also where they refuse. It names nothing of the program. What Sums answers, in words; the rows that fit. It names nothing of the program. -/
import Derived.Test.YtdbngchbhoanpaaSr7
import Derived.Maps.Range
import Derived.Maps.AppendAt
import Derived.Test.YtdbngchbhoanpaaSr5
namespace Go.Proofs.Ytdbngchbhoanpaa
open Go.RowKit
/-- A slice of slices that reads as these values. -/
def RdV (w : World) (A : Option Addr) (vs : List Value) : Prop :=
  vs ≠ [] → ∃ b off, A = some ⟨b, off, none⟩ ∧ ∀ i, i < vs.length → w.cell? ⟨b, off + i, none⟩ = some (vs.getD i (.slice none 0 0))
theorem RdV.below {w w' : World} {A : Option Addr} {vs : List Value} (h : RdV w A vs) (hb : Below w.heap.size w w') : RdV w' A vs := by
  intro hne
  obtain ⟨b, off, e, hc⟩ := h hne
  exact ⟨b, off, e, fun i hi => (hb.cell (cell_lt (hc i hi))).trans (hc i hi)⟩
theorem RdV.drewN {w : World} {A : Option Addr} {vs : List Value} (h : RdV w A vs) (n : Nat) : RdV (w.drewN n) A vs := h
/-- Values that read as these rows of bytes, one each. -/
def IsBs (w : World) (vs : List Value) (xss : List (List Nat)) : Prop := vs.length = xss.length ∧ ∀ i, i < vs.length → IsB w (vs.getD i (.slice none 0 0)) (xss.getD i [])
theorem IsBs.below {w w' : World} {vs : List Value} {xss : List (List Nat)} (h : IsBs w vs xss) (hb : Below w.heap.size w w') : IsBs w' vs xss := ⟨h.1, fun i hi => (h.2 i hi).keep hb⟩
theorem IsBs.drewN {w : World} {vs : List Value} {xss : List (List Nat)} (h : IsBs w vs xss) (n : Nat) : IsBs (w.drewN n) vs xss := h
theorem rdV_new (w : World) (cs : Array Value) (e : TypeId) (vs : List Value) (b : Nat) (hb : b = w.heap.size) (h : cs.toList = vs) : RdV (w.alloc (.cells cs e)) (some ⟨b, 0, none⟩) vs := by
  subst hb; subst h
  intro _
  refine ⟨_, 0, rfl, fun i hi => ?_⟩
  have hc : cs[i]? = some (cs.toList.getD i (.slice none 0 0)) := by
    rw [← Array.getElem?_toList]
    simp at hi
    simp [hi]
  rw [Nat.zero_add, ← hc]
  exact cell_of_row _ _ _ _ _ (0, 0) (heap_alloc_new w _)
end Go.Proofs.Ytdbngchbhoanpaa
namespace Go.Proofs.Ytdbngchbhoanpaa
open Go.RowKit
/-- A slice of the call's own that holds these slices. -/
def OwnV (w : World) (B : Nat) (v : Value) (vs : List Value) : Prop := w.ownsRow B 24 1 v vs.length vs
/-- Each of these slices is of the call's own, and holds these bytes. -/
def Owns (w : World) (B : Nat) (vs : List Value) (xss : List (List Nat)) : Prop := vs.length = xss.length ∧ ∀ i, i < vs.length → Own w B (vs.getD i (.slice none 0 0)) (xss.getD i [])
theorem OwnV.nil (w : World) (B : Nat) : OwnV w B (.slice none 0 0) [] := World.ownsRow_nil _ _ _ _
theorem OwnV.form {w : World} {B : Nat} {v : Value} {vs : List Value} {n : Nat} (h : OwnV w B v vs) (hn : vs.length = n) : ∃ A c, v = .slice A n c ∧ RdV w A vs ∧ n ≤ 9223372036854775807 := by
  subst hn
  unfold OwnV at h
  rcases h.2 with ⟨rfl, hn⟩ | ⟨g, cap, cur, rfl, _, _, c1, c2, _⟩
  · refine ⟨none, 0, by rw [hn], fun hne => ?_, by omega⟩
    exact absurd (List.eq_nil_of_length_eq_zero hn) hne
  · refine ⟨_, _, rfl, fun _ => ⟨g, 0, rfl, fun i hi => ?_⟩, by unfold maxLen at c2; omega⟩
    rw [Nat.zero_add, h.cellAt i (by omega)]
    simp [hi]
theorem OwnV.keep {w w' : World} {B : Nat} {v : Value} {vs : List Value} (h : OwnV w B v vs) (hb : Below w.heap.size w w') : OwnV w' B v vs := by
  unfold OwnV at h ⊢
  refine ⟨h.1, ?_⟩
  rcases h.2 with hn | ⟨g, cap, cur, hv, h1, h2, r⟩
  · exact .inl hn
  · refine .inr ⟨g, cap, cur, hv, h1, ?_, r⟩
    rw [hb.block g ?_]
    · exact h2
    · exact (h.lt g (by rw [hv]; rfl)).2
theorem OwnV.more {w : World} {B B' : Nat} {v : Value} {vs : List Value} (h : OwnV w B v vs) (hb : B' ≤ B) : OwnV w B' v vs := by
  unfold OwnV at h ⊢
  refine ⟨h.1, ?_⟩
  rcases h.2 with hn | ⟨g, cap, cur, hv, h1, r⟩
  · exact .inl hn
  · exact .inr ⟨g, cap, cur, hv, by omega, r⟩
theorem Owns.keep {w w' : World} {B : Nat} {vs : List Value} {xss : List (List Nat)} (h : Owns w B vs xss) (hb : Below w.heap.size w w') : Owns w' B vs xss := ⟨h.1, fun i hi => (h.2 i hi).keep hb⟩
theorem Owns.isBs {w : World} {B : Nat} {vs : List Value} {xss : List (List Nat)} (h : Owns w B vs xss) : IsBs w vs xss := ⟨h.1, fun i hi => (h.2 i hi).isB⟩
theorem Owns.nil (w : World) (B : Nat) : Owns w B [] [] := ⟨rfl, fun _ h => absurd h (by simp)⟩
theorem Owns.more {w : World} {B B' : Nat} {vs : List Value} {xss : List (List Nat)} (h : Owns w B vs xss) (hb : B' ≤ B) : Owns w B' vs xss := ⟨h.1, fun i hi => (h.2 i hi).more hb⟩
/-- Bytes of the call's own are none of the blocks in which slices of slices lie. -/
theorem Own.apart {w w' : World} {B B' : Nat} {v u : Value} {xs : List Nat} {vs : List Value} (h : Own w B v xs) (hv : OwnV w B' u vs) (hg : w.grownBy w' u.ownBlock) : Own w' B v xs := by
  unfold Own OwnV at *
  refine World.ownsRow.kept h hg ?_
  rcases h.2 with ⟨rfl, _⟩ | ⟨g, cap, cur, rfl, _, hh, _⟩
  · exact .inl rfl
  · right
    rcases hv.2 with ⟨rfl, _⟩ | ⟨g', cap', cur', rfl, _, hh', _⟩
    · intro e; cases e
    · intro e
      have e' : g = g' := by simpa [Value.ownBlock] using e
      subst e'
      rw [hh] at hh'
      simp only [Option.some.injEq, Obj.cells.injEq] at hh'
      exact absurd hh'.2.1 (by decide)
theorem Owns.apart {w w' : World} {B B' : Nat} {u : Value} {vs us : List Value} {xss : List (List Nat)} (h : Owns w B vs xss) (hv : OwnV w B' u us) (hg : w.grownBy w' u.ownBlock) : Owns w' B vs xss := ⟨h.1, fun i hi => (h.2 i hi).apart hv hg⟩
theorem Owns.snoc {w : World} {B : Nat} {vs : List Value} {xss : List (List Nat)} {v : Value} {xs : List Nat} (h : Owns w B vs xss) (hv : Own w B v xs) : Owns w B (vs ++ [v]) (xss ++ [xs]) := by
  refine ⟨by rw [List.length_append, List.length_append, h.1]; rfl, fun i hi => ?_⟩
  rw [List.length_append] at hi
  simp only [List.getD_eq_getElem?_getD]
  by_cases hlt : i < vs.length
  · rw [List.getElem?_append_left hlt, List.getElem?_append_left (by rw [← h.1]; exact hlt), ← List.getD_eq_getElem?_getD, ← List.getD_eq_getElem?_getD]
    exact h.2 i hlt
  · have e : i = vs.length := by simp at hi; omega
    subst e
    rw [List.getElem?_append_right (Nat.le_refl _), List.getElem?_append_right (by rw [h.1]; exact Nat.le_refl _), h.1, Nat.sub_self]
    exact hv
theorem Try.info_rows : (Try.prog.info? 24).map (fun i => (i.zero, i.size, i.bytes)) = some (some (.slice none 0 0), 1, 24) := by kernel_rfl
theorem wpList_append_row {w : World} {ops : Array Oper} {rest : List Oper} {o : Oper} {a : Act} {Q : Exit → Act → World → Prop} (hgd : o.guard = none) (s x : Operand)
    (ho : o.op = .call { callee := .builtin .append, args := #[s, x], argTypes := #[50, 50] })
    (B : Nat) (v : Value) (vs : List Value) (hs : a.eval s = v) (hown : OwnV w B v vs)
    (b : Nat) (u : Value) (hx : a.eval x = .slice (some ⟨b, 0, none⟩) 1 1) (hu : w.cell? ⟨b, 0, none⟩ = some u) (h1 : u.oneCell' = true)
    (hlen : vs.length + 1 ≤ 1099511627776) (hbase : B ≤ w.heap.size)
    (h : ∀ v' w', OwnV w' B v' (vs ++ [u]) → Below B w w' → w.grownBy w' v.ownBlock → wpList Try.prog ops Q rest (a.put o.dst v') w') : wpList Try.prog ops Q (o :: rest) a w := by
  obtain ⟨i0, hi, hz0, hz1, hz2⟩ := info_parts Try.info_rows
  refine wpList_append_own w hgd s x _ ho B 24 i0 (.slice none 0 0) 1 24 Try.underlying50 hi hz0 hz1 hz2 rfl (by decide) v _ _ hs hown ⟨b, 0, none⟩ 1 1 [u] hx rfl ?_ ?_ (by unfold maxLen; omega) (by omega) hbase ?_
  · intro j z hj
    match j, hj with
    | 0, hj => simp at hj; subst hj; simpa [Addr.add] using hu
  · intro z hz; simp at hz; subst hz; exact h1
  · intro v' w' h2 h3 _
    exact h v' w' (by unfold OwnV; simpa using h2) ((Below.refl _ _).grown h3 hbase fun k hk => (hown.lt k hk).1) h3
theorem cell_new (w : World) (u : Value) (e : TypeId) : (w.alloc (.cells #[u] e)).cell? ⟨w.heap.size, 0, none⟩ = some u := by
  rw [cell_of_row _ _ _ _ _ (0, 0) (heap_alloc_new w _)]
  rfl
end Go.Proofs.Ytdbngchbhoanpaa
namespace Go.Proofs.Ytdbngchbhoanpaa
open Go.RowKit
/-- A slice of slices at A reads as these rows. -/
def IsM (w : World) (A : Option Addr) (xss : List (List Nat)) : Prop := ∃ vs, RdV w A vs ∧ IsBs w vs xss
theorem IsM.below {w w' : World} {A : Option Addr} {xss : List (List Nat)} (h : IsM w A xss) (hb : Below w.heap.size w w') : IsM w' A xss := by
  obtain ⟨vs, h1, h2⟩ := h
  exact ⟨vs, h1.below hb, h2.below hb⟩
theorem IsM.drewN {w : World} {A : Option Addr} {xss : List (List Nat)} (h : IsM w A xss) (d : Nat) : IsM (w.drewN d) A xss := h
theorem IsM.at_ {w : World} {A : Option Addr} {xss : List (List Nat)} (h : IsM w A xss) (k : Nat) (hk : k < xss.length) :
    ∃ b off A' c, A = some ⟨b, off, none⟩ ∧ w.cell? ⟨b, off + k, none⟩ = some (.slice A' (xss.getD k []).length c) ∧ IsB w (.slice A' (xss.getD k []).length c) (xss.getD k []) ∧ (xss.getD k []).length ≤ c ∧ c ≤ 9223372036854775807 := by
  obtain ⟨vs, h1, h2, h3⟩ := h
  obtain ⟨b, off, e, hc⟩ := h1 (by intro e; rw [e] at h2; simp at h2; omega)
  have hv := h3 k (by omega)
  have ck := hc k (by omega)
  obtain ⟨A', c, e1, i1, l1, m1⟩ := hv.form rfl
  rw [e1] at ck
  exact ⟨b, off, A', c, e, ck, i1, l1, m1⟩
end Go.Proofs.Ytdbngchbhoanpaa
namespace Go.Proofs.Ytdbngchbhoanpaa
open Go.RowKit
theorem Own.stored {w : World} {B : Nat} {g n c : Nat} {xs : List Nat} (h : Own w B (.slice (some ⟨g, 0, none⟩) n c) xs) (hn : xs.length = n) (k z : Nat) :
    Own (w.setCell ⟨g, k, none⟩ (.int .u8 (z : Int))) B (.slice (some ⟨g, 0, none⟩) n c) (xs.set k z) := by
  subst hn
  unfold Own at h ⊢
  have := (World.ownsRow.stored h k (.int .u8 (z : Int))).1
  simpa [List.map_set] using this
theorem Own.at_ {w : World} {B : Nat} {v : Value} {xs : List Nat} {n : Nat} (h : Own w B v xs) (hn : xs.length = n) (h1 : 1 ≤ n) :
    ∃ g c, v = .slice (some ⟨g, 0, none⟩) n c ∧ B ≤ g ∧ n ≤ c ∧ c ≤ 9223372036854775807 ∧ (∀ k, k < n → w.cell? ⟨g, k, none⟩ = some (.int .u8 ((xs.getD k 0 : Nat) : Int))) ∧ ∀ k, w.frozen? ⟨g, k, none⟩ = false := by
  subst hn
  have h0 := h
  unfold Own at h
  rcases h.2 with ⟨rfl, hn⟩ | ⟨g, cap, cur, rfl, hb, hg, hc, hm, _⟩
  · omega
  · refine ⟨g, cap, rfl, hb, hc, by unfold maxLen at hm; omega, fun k hk => ?_, fun k => World.ownsRow.frozenAt h k⟩
    rw [World.ownsRow.cellAt h k (by omega)]
    simp [hk]
theorem xor8 (a b : Nat) (ha : a < 256) (hb : b < 256) : bits .xor .u8 (a : Int) (b : Int) = ((a ^^^ b : Nat) : Int) := u8_xor_nat a b ha hb
end Go.Proofs.Ytdbngchbhoanpaa
namespace Go.Proofs.Ytdbngchbhoanpaa
open Go.RowKit
theorem below_alloc (w : World) (o : Obj) : Below w.heap.size w (w.alloc o) := (Below.refl _ _).alloc (Nat.le_refl _) _
/-- A block of the call's own that holds these cells. -/
def Blk (w : World) (B : Nat) (e : TypeId) (g : Nat) (cs : List Value) : Prop := B ≤ g ∧ ∃ cur : Array Value, w.heap[g]? = some (.cells cur e (0, 0)) ∧ cur.toList = cs
theorem heap_lt {w : World} {g : Nat} {o : Obj} (h : w.heap[g]? = some o) : g < w.heap.size := (Array.getElem?_eq_some_iff.1 h).1
theorem Blk.lt {w : World} {B : Nat} {e : TypeId} {g : Nat} {cs : List Value} (h : Blk w B e g cs) : g < w.heap.size := by
  obtain ⟨_, cur, hg, _⟩ := h
  exact heap_lt hg
theorem Blk.cell {w : World} {B : Nat} {e : TypeId} {g : Nat} {cs : List Value} (h : Blk w B e g cs) (i : Nat) : w.cell? ⟨g, i, none⟩ = cs[i]? := by
  obtain ⟨_, cur, hg, rfl⟩ := h
  rw [cell_of_row w g i cur e (0, 0) hg]
  simp
theorem Blk.frozen {w : World} {B : Nat} {e : TypeId} {g : Nat} {cs : List Value} (h : Blk w B e g cs) (i : Nat) : w.frozen? ⟨g, i, none⟩ = false := by
  obtain ⟨_, cur, hg, rfl⟩ := h
  exact frozen_of_row w g i cur e hg
theorem Blk.stored {w : World} {B : Nat} {e : TypeId} {g : Nat} {cs : List Value} (h : Blk w B e g cs) (i : Nat) (u : Value) : Blk (w.setCell ⟨g, i, none⟩ u) B e g (cs.set i u) := by
  obtain ⟨hb, cur, hg, rfl⟩ := h
  exact ⟨hb, _, heap_setCell_same w g i cur e u hg, Array.toList_setIfInBounds ..⟩
theorem grown_set (w : World) (g i : Nat) (u : Value) : w.grownBy (w.setCell ⟨g, i, none⟩ u) (some g) :=
  ⟨rfl, rfl, rfl, by simp, fun k _ hk => heap_setCell_other w ⟨g, i, none⟩ k u (fun e => hk (by simp [e]))⟩
theorem Blk.new (w : World) {B : Nat} (e : TypeId) (cs : Array Value) (hB : B ≤ w.heap.size) : Blk (w.alloc (.cells cs e)) B e w.heap.size cs.toList := ⟨hB, cs, heap_alloc_new w _, rfl⟩
theorem Blk.kept {w w' : World} {B : Nat} {e : TypeId} {g : Nat} {cs : List Value} {row : Option Nat} (h : Blk w B e g cs) (hg : w.grownBy w' row) (hne : row ≠ some g) : Blk w' B e g cs := by
  have hl := h.lt
  obtain ⟨hb, cur, hh, rfl⟩ := h
  exact ⟨hb, cur, by rw [hg.block g hl (fun e => hne e.symm)]; exact hh, rfl⟩
theorem Blk.keep {w w' : World} {B : Nat} {e : TypeId} {g : Nat} {cs : List Value} (h : Blk w B e g cs) (hb : Below w.heap.size w w') : Blk w' B e g cs := by
  have hl := h.lt
  obtain ⟨hB, cur, hh, rfl⟩ := h
  exact ⟨hB, cur, by rw [hb.block g hl]; exact hh, rfl⟩
theorem Blk.more {w : World} {B B' : Nat} {e : TypeId} {g : Nat} {cs : List Value} (h : Blk w B e g cs) (hB : B' ≤ B) : Blk w B' e g cs := ⟨Nat.le_trans hB h.1, h.2⟩
theorem Blk.drewN {w : World} {B : Nat} {e : TypeId} {g : Nat} {cs : List Value} (h : Blk w B e g cs) (n : Nat) : Blk (w.drewN n) B e g cs := h
/-- Blocks of unlike types lie apart. -/
theorem Blk.ne {w : World} {B B' : Nat} {e e' : TypeId} {g g' : Nat} {cs cs' : List Value} (h : Blk w B e g cs) (h' : Blk w B' e' g' cs') (hne : e ≠ e') : g ≠ g' := by
  obtain ⟨_, cur, hh, _⟩ := h
  obtain ⟨_, cur', hh', _⟩ := h'
  rintro rfl
  rw [hh] at hh'
  simp only [Option.some.injEq, Obj.cells.injEq] at hh'
  exact hne hh'.2.1
end Go.Proofs.Ytdbngchbhoanpaa
namespace Go.Proofs.Ytdbngchbhoanpaa
open Go.RowKit
/-- A matrix of the call's own. -/
def OwnMt (w : World) (B : Nat) (v : Value) (xss : ML) : Prop := ∃ vs, OwnV w B v vs ∧ Owns w B vs xss
theorem OwnMt.nil (w : World) (B : Nat) : OwnMt w B (.slice none 0 0) [] := ⟨[], OwnV.nil w B, Owns.nil w B⟩
theorem OwnMt.form {w : World} {B : Nat} {v : Value} {xss : ML} {n : Nat} (h : OwnMt w B v xss) (hn : xss.length = n) : ∃ A c, v = .slice A n c ∧ IsM w A xss ∧ n ≤ 9223372036854775807 := by
  obtain ⟨vs, h1, h2⟩ := h
  obtain ⟨A, c, e, hr, hl⟩ := h1.form (n := n) (by rw [h2.1, hn])
  exact ⟨A, c, e, ⟨vs, hr, h2.isBs⟩, hl⟩
theorem OwnMt.keep {w w' : World} {B : Nat} {v : Value} {xss : ML} (h : OwnMt w B v xss) (hb : Below w.heap.size w w') : OwnMt w' B v xss := by
  obtain ⟨vs, h1, h2⟩ := h
  exact ⟨vs, h1.keep hb, h2.keep hb⟩
theorem OwnMt.more {w : World} {B B' : Nat} {v : Value} {xss : ML} (h : OwnMt w B v xss) (hb : B' ≤ B) : OwnMt w B' v xss := by
  obtain ⟨vs, h1, h2⟩ := h
  exact ⟨vs, h1.more hb, h2.more hb⟩
theorem OwnMt.drewN {w : World} {B : Nat} {v : Value} {xss : ML} (h : OwnMt w B v xss) (d : Nat) : OwnMt (w.drewN d) B v xss := h
theorem OwnMt.isM {w : World} {B : Nat} {A : Option Addr} {n c : Nat} {xss : ML} (h : OwnMt w B (.slice A n c) xss) : IsM w A xss ∧ xss.length = n := by
  obtain ⟨vs, h1, h2⟩ := h
  obtain ⟨A', c', e, hr, hl⟩ := h1.form rfl
  cases e
  exact ⟨⟨vs, hr, h2.isBs⟩, h2.1.symm⟩
/-- In a block of its own: at each place the row's slice, of the call's own. -/
theorem OwnMt.row {w : World} {B g n c : Nat} {xss : ML} (h : OwnMt w B (.slice (some ⟨g, 0, none⟩) n c) xss) (k : Nat) (hk : k < n) :
    ∃ A' c', w.cell? ⟨g, k, none⟩ = some (.slice A' (xss.getD k []).length c') ∧ Own w B (.slice A' (xss.getD k []).length c') (xss.getD k []) ∧ w.frozen? ⟨g, k, none⟩ = false := by
  obtain ⟨vs, h1, h2⟩ := h
  have hl : vs.length = n := by
    obtain ⟨A', c', e, _, _⟩ := h1.form rfl
    cases e
    rfl
  have hv := h2.2 k (by omega)
  obtain ⟨A', c', e, _⟩ := hv.form
  rw [e] at hv
  unfold OwnV at h1
  rw [hl] at h1
  refine ⟨A', c', ?_, hv, World.ownsRow.frozenAt h1 k⟩
  rw [World.ownsRow.cellAt h1 k (by omega), ← e]
  have : k < vs.length := by omega
  simp [this]
theorem Owns.put {w : World} {B : Nat} {vs : List Value} {xss : ML} {v : Value} {xs : List Nat} (h : Owns w B vs xss) (hv : Own w B v xs) (k : Nat) : Owns w B (vs.set k v) (xss.set k xs) := by
  refine ⟨by rw [List.length_set, List.length_set, h.1], fun i hi => ?_⟩
  rw [List.length_set] at hi
  have hi2 : i < xss.length := by rw [← h.1]; exact hi
  rw [List.getD_eq_getElem?_getD, List.getD_eq_getElem?_getD, List.getElem?_set, List.getElem?_set]
  by_cases e : k = i
  · subst e
    rw [if_pos rfl, if_pos rfl, if_pos hi, if_pos hi2]
    exact hv
  · rw [if_neg e, if_neg e, ← List.getD_eq_getElem?_getD, ← List.getD_eq_getElem?_getD]
    exact h.2 i hi
/-- A row of the call's own comes to a place. -/
theorem OwnMt.put {w : World} {B g n c : Nat} {xss : ML} {v : Value} {xs : List Nat} (h : OwnMt w B (.slice (some ⟨g, 0, none⟩) n c) xss) (hv : Own w B v xs) (k : Nat) :
    OwnMt (w.setCell ⟨g, k, none⟩ v) B (.slice (some ⟨g, 0, none⟩) n c) (xss.set k xs) := by
  obtain ⟨vs, h1, h2⟩ := h
  have hl : vs.length = n := by
    obtain ⟨A', c', e, _, _⟩ := h1.form rfl
    cases e
    rfl
  have h1' := h1
  unfold OwnV at h1
  have st := (World.ownsRow.stored (n := n) (by rw [hl] at h1; exact h1) k v)
  refine ⟨vs.set k v, ?_, ?_⟩
  · unfold OwnV
    rw [List.length_set, hl]
    exact st.1
  · have := (h2.put hv k).apart (us := vs) (u := .slice (some ⟨g, 0, none⟩) n c) h1' (w' := w.setCell ⟨g, k, none⟩ v) st.2
    exact this
/-- .. and the slices that were read ahead of it stand. -/
theorem Own.putIn {w : World} {B B' g n c k : Nat} {xss : ML} {u v : Value} {xs : List Nat} (h : Own w B' v xs) (hm : OwnMt w B (.slice (some ⟨g, 0, none⟩) n c) xss) : Own (w.setCell ⟨g, k, none⟩ u) B' v xs := by
  obtain ⟨vs, h1, _⟩ := hm
  exact h.apart h1 (grown_set w g k u)
theorem OwnMt.base {w : World} {B g n c : Nat} {xss : ML} (h : OwnMt w B (.slice (some ⟨g, 0, none⟩) n c) xss) : B ≤ g ∧ g < w.heap.size := by
  obtain ⟨vs, h1, _⟩ := h
  exact World.ownsRow.lt h1 g rfl
theorem OwnMt.below {w : World} {B g n c k : Nat} {xss : ML} {a : World} {u : Value} (h : OwnMt w B (.slice (some ⟨g, 0, none⟩) n c) xss) (hb : Below B a w) : Below B a (w.setCell ⟨g, k, none⟩ u) := hb.setCell h.base.1 _
/-- A row that is appended. -/
theorem OwnMt.snoc {w w' : World} {B : Nat} {v' v : Value} {vs : List Value} {u : Value} {xss : ML} {xs : List Nat} (h1 : OwnV w B v vs) (h2 : Owns w B vs xss) (hu : Own w B u xs) (ho : OwnV w' B v' (vs ++ [u])) (hg : w.grownBy w' v.ownBlock) : OwnMt w' B v' (xss ++ [xs]) :=
  ⟨vs ++ [u], ho, (h2.snoc hu).apart h1 hg⟩
/-- Whether rows are a matrix. -/
def isMt (xss : ML) : Bool := decide (1 ≤ xss.length ∧ xss.length ≤ 64 ∧ 1 ≤ (xss.getD 0 []).length ∧ (xss.getD 0 []).length ≤ 64 ∧ ∀ r ∈ xss, r.length = (xss.getD 0 []).length)
theorem isMt_shape {xss : ML} (h : isMt xss = true) (hb : ∀ r ∈ xss, ∀ x ∈ r, x < 256) : ∃ n m, 1 ≤ n ∧ n ≤ 64 ∧ 1 ≤ m ∧ m ≤ 64 ∧ Shape xss n m := by
  have h := of_decide_eq_true h
  exact ⟨_, _, h.1, h.2.1, h.2.2.1, h.2.2.2.1, ⟨rfl, h.2.2.2.2, hb⟩⟩
theorem Shape.isMt {xss : ML} {n m : Nat} (h : Shape xss n m) (h1 : 1 ≤ n) (h2 : n ≤ 64) (h3 : 1 ≤ m) (h4 : m ≤ 64) : isMt xss = true := by
  have e := (h.row (i := 0) (by omega)).1
  refine decide_eq_true ?_
  rw [e, h.high]
  exact ⟨h1, h2, h3, h4, h.wide⟩
theorem Shape.len_at {xss : ML} {n m : Nat} (h : Shape xss n m) (k : Nat) (hk : k < n) : (xss.getD k []).length = m := (h.row hk).1
theorem mem_getD {xss : ML} {k : Nat} (hk : k < xss.length) : xss.getD k [] ∈ xss := by
  have : xss.getD k [] = xss[k] := by simp [hk]
  rw [this]
  exact List.getElem_mem hk
theorem isMt_no {xss : ML} (h : ¬ (1 ≤ xss.length ∧ xss.length ≤ 64)) : isMt xss = false := decide_eq_false (fun k => h ⟨k.1, k.2.1⟩)
theorem isMt_no2 {xss : ML} (h : ¬ (1 ≤ (xss.getD 0 []).length ∧ (xss.getD 0 []).length ≤ 64)) : isMt xss = false := decide_eq_false (fun k => h ⟨k.2.2.1, k.2.2.2.1⟩)
theorem isMt_is {xss : ML} (h : 1 ≤ xss.length ∧ xss.length ≤ 64) (h2 : 1 ≤ (xss.getD 0 []).length ∧ (xss.getD 0 []).length ≤ 64) : isMt xss = decide (∀ i, i < xss.length → (xss.getD i []).length = (xss.getD 0 []).length) := by
  unfold isMt
  apply decide_eq_decide.2
  constructor
  · intro k i hi
    exact k.2.2.2.2 _ (mem_getD hi)
  · intro k
    refine ⟨h.1, h.2, h2.1, h2.2, fun r hr => ?_⟩
    obtain ⟨i, hi, e⟩ := List.getElem_of_mem hr
    have := k i hi
    rw [show xss.getD i [] = r by simp [hi, e]] at this
    exact this
end Go.Proofs.Ytdbngchbhoanpaa
namespace Go.Proofs.Ytdbngchbhoanpaa
open Go.RowKit
def rowV (r m : Nat) : Value := .slice (some ⟨r, 0, none⟩) m m
def cellsG (f : Mat) (i m : Nat) : List Value := (List.range m).map fun j => .int .u8 ((f i j).n : Int)
structure Grid (w : World) (B g n m : Nat) (R : Nat → Nat) (f : Mat) : Prop where
  outer : Blk w B 24 g ((List.range n).map fun i => rowV (R i) m)
  row : ∀ i, i < n → Blk w B 5 (R i) (cellsG f i m)
  apart : ∀ i j, i < n → j < n → R i = R j → i = j
theorem Grid.keep {w w' : World} {B g n m : Nat} {R : Nat → Nat} {f : Mat} (h : Grid w B g n m R f) (hb : Below w.heap.size w w') : Grid w' B g n m R f := ⟨h.outer.keep hb, fun i hi => (h.row i hi).keep hb, h.apart⟩
theorem Grid.more {w : World} {B B' g n m : Nat} {R : Nat → Nat} {f : Mat} (h : Grid w B g n m R f) (hb : B' ≤ B) : Grid w B' g n m R f := ⟨h.outer.more hb, fun i hi => (h.row i hi).more hb, h.apart⟩
theorem Grid.drewN {w : World} {B g n m : Nat} {R : Nat → Nat} {f : Mat} (h : Grid w B g n m R f) (d : Nat) : Grid (w.drewN d) B g n m R f := ⟨h.outer.drewN d, fun i hi => (h.row i hi).drewN d, h.apart⟩
theorem Grid.cell {w : World} {B g n m : Nat} {R : Nat → Nat} {f : Mat} (h : Grid w B g n m R f) (i : Nat) (hi : i < n) : w.cell? ⟨g, i, none⟩ = some (.slice (some ⟨R i, 0, none⟩) m m) := by
  rw [h.outer.cell]
  simp [hi, rowV]
theorem Grid.num {w : World} {B g n m : Nat} {R : Nat → Nat} {f : Mat} (h : Grid w B g n m R f) (i j : Nat) (hi : i < n) (hj : j < m) : w.cell? ⟨R i, j, none⟩ = some (.int .u8 ((f i j).n : Int)) := by
  rw [(h.row i hi).cell]
  simp [hj, cellsG]
theorem Grid.frozen {w : World} {B g n m : Nat} {R : Nat → Nat} {f : Mat} (h : Grid w B g n m R f) (i j : Nat) (hi : i < n) : w.frozen? ⟨R i, j, none⟩ = false := (h.row i hi).frozen j
def upd (f : Mat) (i j : Nat) (x : G) : Mat := fun a b => if a = i ∧ b = j then x else f a b
theorem upd_at (f : Mat) (i j : Nat) (x : G) : upd f i j x i j = x := if_pos ⟨rfl, rfl⟩
theorem upd_row {f : Mat} {i j a b : Nat} {x : G} (h : a ≠ i) : upd f i j x a b = f a b := if_neg (fun e => h e.1)
theorem upd_col {f : Mat} {i j a b : Nat} {x : G} (h : b ≠ j) : upd f i j x a b = f a b := if_neg (fun e => h e.2)
theorem cellsG_set (f : Mat) (i j m : Nat) (x : G) : (cellsG f i m).set j (.int .u8 (x.n : Int)) = cellsG (upd f i j x) i m := by
  apply List.ext_getElem
  · simp [cellsG]
  · intro b h1 h2
    rw [List.getElem_set]
    simp only [cellsG, List.getElem_map, List.getElem_range]
    by_cases e : j = b
    · subst e; rw [if_pos rfl, upd_at]
    · rw [if_neg e, upd_col (fun q => e q.symm)]
theorem cellsG_other (f : Mat) {i a : Nat} (j m : Nat) (x : G) (h : a ≠ i) : cellsG (upd f i j x) a m = cellsG f a m := by
  unfold cellsG
  congr 1
  funext b
  rw [upd_row h]
theorem Grid.ne {w : World} {B g n m : Nat} {R : Nat → Nat} {f : Mat} (h : Grid w B g n m R f) (i : Nat) (hi : i < n) : R i ≠ g := (h.row i hi).ne h.outer (by decide)
theorem Grid.set {w : World} {B g n m : Nat} {R : Nat → Nat} {f : Mat} (h : Grid w B g n m R f) (i j : Nat) (hi : i < n) (x : G) : Grid (w.setCell ⟨R i, j, none⟩ (.int .u8 (x.n : Int))) B g n m R (upd f i j x) := by
  refine ⟨h.outer.kept (grown_set w (R i) j _) (fun e => h.ne i hi (by simpa using e)), fun a ha => ?_, h.apart⟩
  by_cases e : a = i
  · subst e
    rw [← cellsG_set]
    exact (h.row a hi).stored j _
  · rw [cellsG_other f j m x e]
    exact (h.row a ha).kept (grown_set w (R i) j _) (fun q => e (h.apart a i ha hi (by simpa using q.symm)))
theorem Grid.base {w : World} {B g n m : Nat} {R : Nat → Nat} {f : Mat} (h : Grid w B g n m R f) (i : Nat) (hi : i < n) : B ≤ R i := (h.row i hi).1
theorem Grid.below {w a : World} {B g n m : Nat} {R : Nat → Nat} {f : Mat} (h : Grid w B g n m R f) (i j : Nat) (hi : i < n) (u : Value) (hb : Below B a w) : Below B a (w.setCell ⟨R i, j, none⟩ u) := hb.setCell (h.base i hi) _
theorem blk_own {w : World} {B g n : Nat} {xs : List Nat} (h : Blk w B 5 g (xs.map fun x : Nat => Value.int .u8 (x : Int))) (hn : xs.length = n) (h3 : n ≤ 9223372036854775807) : Own w B (.slice (some ⟨g, 0, none⟩) n n) xs := by
  obtain ⟨hb, cur, hg, hc⟩ := h
  have hs : cur.size = n := by rw [← Array.length_toList, hc, List.length_map, hn]
  unfold Own
  refine ⟨by rw [List.length_map, Nat.mul_one], .inr ⟨g, n, cur, by rw [hn], hb, hg, by omega, by unfold maxLen; omega, by omega, ?_⟩⟩
  rw [hc, Nat.mul_one]
  exact List.take_of_length_le (by rw [List.length_map]; exact Nat.le_refl _)
theorem laid_len (n m : Nat) (f : Mat) : (laid n m f).length = n := by simp [laid]
theorem Grid.own {w : World} {B g n m : Nat} {R : Nat → Nat} {f : Mat} (h : Grid w B g n m R f) (h1 : n ≤ 1000000) (h2 : m ≤ 1000000) : OwnMt w B (.slice (some ⟨g, 0, none⟩) n n) (laid n m f) := by
  refine ⟨(List.range n).map fun i => rowV (R i) m, ?_, by rw [laid_len, List.length_map, List.length_range], fun i hi => ?_⟩
  · obtain ⟨hb, cur, hg, hc⟩ := h.outer
    have hs : cur.size = n := by rw [← Array.length_toList, hc, List.length_map, List.length_range]
    unfold OwnV
    rw [List.length_map, List.length_range]
    refine ⟨by rw [List.length_map, List.length_range, Nat.mul_one], .inr ⟨g, n, cur, rfl, hb, hg, by omega, by unfold maxLen; omega, by omega, ?_⟩⟩
    rw [hc, Nat.mul_one]
    exact List.take_of_length_le (by rw [List.length_map, List.length_range]; exact Nat.le_refl _)
  · have hi2 : i < n := by simpa using hi
    have e1 : ((List.range n).map fun i => rowV (R i) m).getD i (.slice none 0 0) = rowV (R i) m := by simp [hi2]
    rw [e1, laid_row f hi2]
    refine blk_own ?_ (by simp) (by omega)
    have := h.row i hi2
    unfold cellsG at this
    rw [List.map_map]
    exact this
theorem Grid.isM {w : World} {B g n m : Nat} {R : Nat → Nat} {f : Mat} (h : Grid w B g n m R f) (h1 : n ≤ 1000000) (h2 : m ≤ 1000000) : IsM w (some ⟨g, 0, none⟩) (laid n m f) := (h.own h1 h2).isM.1
theorem laid_congr {n m : Nat} {f g : Mat} (h : ∀ i, i < n → ∀ j, j < m → f i j = g i j) : laid n m f = laid n m g :=
  (laid_shape n m f).ext (laid_shape n m g) (fun i hi j hj => by rw [laid_at f hi hj, laid_at g hi hj]; exact h i hi j hj)
theorem made_nils {w : World} {B g n : Nat} (h : w.ownsRow B 24 1 (.slice (some ⟨g, 0, none⟩) n n) n (madeCells (Value.slice none 0 0).cells (n * 1)).toList) : Blk w B 24 g (List.replicate n (.slice none 0 0)) := by
  have e : (madeCells (Value.slice none 0 0).cells (n * 1)).toList = List.replicate n (Value.slice none 0 0) := by
    rw [Nat.mul_one]; exact toList_madeCells_one (Value.slice none 0 0) n
  rw [e] at h
  rcases h.2 with ⟨h', _⟩ | ⟨g', cap, cur, h', hb, hg, _, _, h4, h5⟩
  · cases h'
  · simp only [Value.slice.injEq, Option.some.injEq, Addr.mk.injEq, and_true, true_and] at h'
    obtain ⟨rfl, rfl⟩ := h'
    refine ⟨hb, cur, hg, ?_⟩
    rw [← h5, List.take_of_length_le]
    rw [Array.length_toList]
    omega
theorem made_zeros {w : World} {B g n : Nat} (h : w.ownsRow B 5 1 (.slice (some ⟨g, 0, none⟩) n n) n (madeCells (Value.int .u8 0).cells (n * 1)).toList) (i : Nat) : Blk w B 5 g (cellsG (fun _ _ => G.zero) i n) := by
  have e : (madeCells (Value.int .u8 0).cells (n * 1)).toList = List.replicate n (Value.int .u8 0) := by
    rw [Nat.mul_one]; exact toList_madeCells_one (Value.int .u8 0) n
  rw [e] at h
  have e2 : cellsG (fun _ _ => G.zero) i n = List.replicate n (Value.int .u8 0) := by
    apply List.ext_getElem
    · simp [cellsG]
    · intro b h1 h2
      simp [cellsG, G.zero]
  rw [e2]
  rcases h.2 with ⟨h', _⟩ | ⟨g', cap, cur, h', hb, hg, _, _, h4, h5⟩
  · cases h'
  · simp only [Value.slice.injEq, Option.some.injEq, Addr.mk.injEq, and_true, true_and] at h'
    obtain ⟨rfl, rfl⟩ := h'
    refine ⟨hb, cur, hg, ?_⟩
    rw [← h5, List.take_of_length_le]
    rw [Array.length_toList]
    omega
/-- The first k rows stand. -/
structure Begun (w : World) (B g n m k : Nat) (R : Nat → Nat) : Prop where
  outer : Blk w B 24 g ((List.range n).map fun i => if i < k then rowV (R i) m else .slice none 0 0)
  row : ∀ i, i < k → Blk w B 5 (R i) (cellsG (fun _ _ => G.zero) i m)
  apart : ∀ i j, i < k → j < k → R i = R j → i = j
theorem Begun.next {w w' : World} {B g n m k : Nat} {R : Nat → Nat} {b : Nat} (h : Begun w B g n m k R) (hk : k < n) (hb : Blk w' B 5 b (cellsG (fun _ _ => G.zero) k m)) (hw : Below w.heap.size w w') (hn : w.heap.size ≤ b) :
    Begun (w'.setCell ⟨g, k, none⟩ (.slice (some ⟨b, 0, none⟩) m m)) B g n m (k + 1) (fun i => if i = k then b else R i) := by
  have ho := h.outer.keep hw
  have hgb : b ≠ g := hb.ne ho (by decide)
  refine ⟨?_, fun i hi => ?_, fun i j hi hj e => ?_⟩
  · have := ho.stored k (rowV b m)
    have e : ((List.range n).map fun i => if i < k then rowV (R i) m else .slice none 0 0).set k (rowV b m) = (List.range n).map fun i => if i < k + 1 then rowV (if i = k then b else R i) m else .slice none 0 0 := by
      apply List.ext_getElem
      · simp
      · intro i h1 h2
        rw [List.getElem_set]
        simp only [List.getElem_map, List.getElem_range]
        by_cases e : k = i
        · subst e; simp
        · rw [if_neg e]
          by_cases hlt : i < k
          · have : i < k + 1 := by omega
            have ne : i ≠ k := by omega
            simp [hlt, this, ne]
          · have : ¬ i < k + 1 := by omega
            simp [hlt, this]
    rw [e] at this
    exact this
  · by_cases e : i = k
    · subst e
      rw [if_pos rfl]
      exact hb.kept (grown_set w' g i _) (fun q => hgb (by simpa using q.symm))
    · rw [if_neg e]
      have hr := (h.row i (by omega)).keep hw
      exact hr.kept (grown_set w' g k _) (fun q => hr.ne ho (by decide) (by simpa using q.symm))
  · by_cases e1 : i = k
    · by_cases e2 : j = k
      · omega
      · rw [if_pos e1, if_neg e2] at e
        have := (h.row j (by omega)).lt
        omega
    · by_cases e2 : j = k
      · rw [if_neg e1, if_pos e2] at e
        have := (h.row i (by omega)).lt
        omega
      · rw [if_neg e1, if_neg e2] at e
        exact h.apart i j (by omega) (by omega) e
theorem Begun.done {w : World} {B g n m : Nat} {R : Nat → Nat} (h : Begun w B g n m n R) : Grid w B g n m R (fun _ _ => G.zero) := by
  refine ⟨?_, h.row, h.apart⟩
  have := h.outer
  rwa [show ((List.range n).map fun i => if i < n then rowV (R i) m else .slice none 0 0) = (List.range n).map fun i => rowV (R i) m from List.map_congr_left (fun i hi => if_pos (List.mem_range.1 hi))] at this
end Go.Proofs.Ytdbngchbhoanpaa
namespace Go.Proofs.Ytdbngchbhoanpaa
open Go.RowKit
theorem wpList_append_mrow {w : World} {ops : Array Oper} {rest : List Oper} {o : Oper} {a : Act} {Q : Exit → Act → World → Prop} (hgd : o.guard = none) (s x : Operand)
    (ho : o.op = .call { callee := .builtin .append, args := #[s, x], argTypes := #[50, 50] })
    (B : Nat) (v : Value) (xss : ML) (hs : a.eval s = v) (hown : OwnMt w B v xss)
    (b : Nat) (u : Value) (xs : List Nat) (hx : a.eval x = .slice (some ⟨b, 0, none⟩) 1 1) (hu : w.cell? ⟨b, 0, none⟩ = some u) (hr : Own w B u xs)
    (hlen : xss.length + 1 ≤ 1099511627776) (hbase : B ≤ w.heap.size)
    (h : ∀ v' w', OwnMt w' B v' (xss ++ [xs]) → Below B w w' → wpList Try.prog ops Q rest (a.put o.dst v') w') : wpList Try.prog ops Q (o :: rest) a w := by
  obtain ⟨vs, h1, h2⟩ := hown
  obtain ⟨A, c, e, _⟩ := hr.form
  exact wpList_append_row hgd s x ho B v vs hs h1 b u hx hu (by rw [e]; rfl) (by rw [h2.1]; exact hlen) hbase (fun v' w' k1 k2 k3 => h v' w' (OwnMt.snoc h1 h2 hr k1 k3) k2)
theorem cell_newAt (w : World) (u : Value) (e : TypeId) {b : Nat} (h : b = w.heap.size) : (w.alloc (.cells #[u] e)).cell? ⟨b, 0, none⟩ = some u := by
  subst h
  exact cell_new w u e
theorem take_snoc (xss : ML) (k : Nat) (h : k < xss.length) : xss.take (k + 1) = xss.take k ++ [xss.getD k []] := by
  rw [List.take_succ_eq_append_getElem h]
  simp [h]
theorem one_row {n k : Nat} (hk : k < n) : (List.replicate n 0).set k 1 = (oneL n).getD k [] := by
  unfold oneL
  rw [laid_row dl hk]
  apply List.ext_getElem
  · simp
  · intro i h1 h2
    rw [List.getElem_set]
    simp only [List.getElem_replicate, List.getElem_map, List.getElem_range]
    by_cases e : k = i
    · subst e; rw [if_pos rfl, dl_eq]; rfl
    · rw [if_neg e, dl_ne e]; rfl
end Go.Proofs.Ytdbngchbhoanpaa
namespace Go.Proofs.Ytdbngchbhoanpaa
open Go.RowKit
/-- The matrix whose rows are another's columns. -/
def turn (f : Mat) : Mat := fun a b => f b a
theorem dot_mm {A : ML} (B : ML) {n p m : Nat} (hA : Shape A n p) (i j : Nat) (hi : i < n) (hj : j < m) :
    dotS (A.getD i []) ((laid m p (turn (en B))).getD j []) p = (mm p (en A) (en B) i j).n := by
  have h2 := (laid_shape m p (turn (en B))).row hj
  rw [dot_gs (hA.row hi).2 h2.2]
  congr 1
  refine gs_congr (fun l hl => ?_)
  show en A i l * en (laid m p (turn (en B))) j l = en A i l * en B l j
  rw [laid_at _ hj hl]
  rfl
theorem Shape.num {xss : ML} {n m : Nat} (h : Shape xss n m) (i j : Nat) (hi : i < n) : (xss.getD i []).getD j 0 = (en xss i j).n := (h.at_ hi j).symm
/-- What is refused. -/
def mulBad (A B : ML) : Prop := isMt A = false ∨ isMt B = false ∨ (A.getD 0 []).length ≠ B.length
theorem take_snocN (xs : List Nat) (k : Nat) (h : k < xs.length) : xs.take (k + 1) = xs.take k ++ [xs.getD k 0] := by
  rw [List.take_succ_eq_append_getElem h]
  simp [h]
theorem isB_one (w : World) (z : Nat) {b : Nat} (h : b = w.heap.size) : IsB (w.alloc (.cells #[.int .u8 (z : Int)] 5)) (.slice (some ⟨b, 0, none⟩) 1 1) [z] := by
  subst h
  exact isB_new w _ [z] rfl (by simp) _ 1 rfl rfl
end Go.Proofs.Ytdbngchbhoanpaa
namespace Go.Proofs.Ytdbngchbhoanpaa
open Go.RowKit
theorem xor_i64_c (a b : Nat) (ha : a < 32768) (hb : b < 32768) : bits .xor .i64 (a : Int) (b : Int) = ((a ^^^ b : Nat) : Int) := by
  have hx : a ^^^ b < 32768 := xor_lt15 ha hb
  show IntKind.i64.wrap ((BitVec.ofInt 64 (a : Int) ^^^ BitVec.ofInt 64 (b : Int)).toNat : Int) = _
  rw [BitVec.toNat_xor, ofInt_u64 a (by omega), ofInt_u64 b (by omega), IntKind.wrap_i64]
  omega
theorem code_row {k m i : Nat} (hi : i < m) : (codeL k m).getD (k + i) [] = (List.range k).map fun j => (kx (k + i) j).n := by
  unfold codeL
  rw [laid_row _ (by omega)]
  refine List.map_congr_left (fun j _ => ?_)
  unfold codeRow
  rw [if_neg (by omega)]
theorem code_one {k m : Nat} : (codeL k m).take k = oneL k := by
  apply List.ext_getElem
  · unfold codeL oneL
    rw [List.length_take, laid_len, laid_len]
    omega
  · intro i h1 h2
    rw [List.getElem_take]
    have hi : i < k := by
      rw [List.length_take] at h1
      omega
    have e1 : (codeL k m).getD i [] = (oneL k).getD i [] := by
      unfold codeL oneL
      rw [laid_row _ (by omega), laid_row _ hi]
      refine List.map_congr_left (fun j _ => ?_)
      unfold codeRow
      rw [if_pos hi]
    have g1 : i < (codeL k m).length := by unfold codeL; rw [laid_len]; omega
    simpa [g1, h2] using e1
theorem kx_walk {x j : Nat} (hx : x ≤ 14) (hj : j < x) : bits .xor .i64 (x : Int) (j : Int) = ((x ^^^ j : Nat) : Int) ∧ IntKind.u8.wrap ((x ^^^ j : Nat) : Int) = ((x ^^^ j : Nat) : Int) ∧ x ^^^ j < 256 ∧ x ^^^ j ≠ 0 ∧ (kx x j).n = ginv (x ^^^ j) := by
  have h16 : x ^^^ j < 16 := Nat.xor_lt_two_pow (n := 4) (by omega) (by omega)
  refine ⟨xor_i64_c x j (by omega) (by omega), by rw [IntKind.wrap_u8]; omega, by omega, ?_, kx_n (by omega) (by omega)⟩
  intro e
  have : (x ^^^ j) ^^^ j = 0 ^^^ j := by rw [e]
  rw [Nat.xor_assoc, Nat.xor_self, Nat.xor_zero, Nat.zero_xor] at this
  omega
end Go.Proofs.Ytdbngchbhoanpaa
namespace Go.Proofs.Ytdbngchbhoanpaa
open Go.RowKit
def oneR (n : Int) : ML := if 1 ≤ n ∧ n ≤ 64 then oneL n.toNat else []
def oneE (n : Int) : Int := if 1 ≤ n ∧ n ≤ 64 then 0 else 1
def codeR (k m : Int) : ML := if k < 1 ∨ m < 0 ∨ 14 < k + m then [] else codeL k.toNat m.toNat
def codeE (k m : Int) : Int := if k < 1 ∨ m < 0 ∨ 14 < k + m then 1 else 0
end Go.Proofs.Ytdbngchbhoanpaa
namespace Go.Proofs.Ytdbngchbhoanpaa
open Go.RowKit
/-- What Sums refuses. -/
def sumsBad (D : ML) (m : Int) : Prop := D.length < 1 ∨ m < 0 ∨ 14 < (D.length : Int) + m ∨ ∃ r ∈ D, r = [] ∨ r.length ≠ (D.getD 0 []).length
/-- What Sums answers. -/
def sumsAns (D : ML) (m : Int) (L : ML) (e : Int) : Prop :=
  (e = 1 ∧ L = [] ∧ sumsBad D m) ∨ (e = 0 ∧ ¬ sumsBad D m ∧ L = (wordL D.length m.toNat (D.getD 0 []).length (en D)).drop D.length)
theorem sums_once {D : ML} {m : Int} {L L' : ML} {e e' : Int} (h : sumsAns D m L e) (k : sumsAns D m L' e') : L = L' ∧ e = e' := by
  rcases h with ⟨rfl, rfl, h⟩ | ⟨rfl, h, rfl⟩
  · rcases k with ⟨rfl, rfl, _⟩ | ⟨_, k, _⟩
    · exact ⟨rfl, rfl⟩
    · exact absurd h k
  · rcases k with ⟨_, _, k⟩ | ⟨rfl, _, rfl⟩
    · exact absurd k h
    · exact ⟨rfl, rfl⟩
theorem sums_fit {D : ML} {m : Int} (h : ¬ sumsBad D m) (hb : ∀ r ∈ D, ∀ x ∈ r, x < 256) : ∃ b : Nat, m = (b : Int) ∧ 1 ≤ D.length ∧ D.length + b ≤ 14 ∧ 1 ≤ (D.getD 0 []).length ∧ Shape D D.length (D.getD 0 []).length := by
  have h1 : ¬ D.length < 1 := fun q => h (.inl q)
  have h2 : ¬ m < 0 := fun q => h (.inr (.inl q))
  have h3 : ¬ 14 < (D.length : Int) + m := fun q => h (.inr (.inr (.inl q)))
  have h4 : ∀ r ∈ D, r ≠ [] ∧ r.length = (D.getD 0 []).length := fun r hr => by
    refine ⟨fun q => h (.inr (.inr (.inr ⟨r, hr, .inl q⟩))), ?_⟩
    rcases Decidable.em (r.length = (D.getD 0 []).length) with e | e
    · exact e
    · exact absurd (.inr (.inr (.inr ⟨r, hr, .inr e⟩))) h
  refine ⟨m.toNat, by omega, by omega, by omega, ?_, rfl, fun r hr => (h4 r hr).2, hb⟩
  have := (h4 _ (mem_getD (xss := D) (k := 0) (by omega))).1
  have := List.length_pos_iff.2 this
  omega
/-- What Sums answers, with the data before it. -/
theorem sums_all {D L : ML} {m : Int} (h : sumsAns D m L 0) (hb : ∀ r ∈ D, ∀ x ∈ r, x < 256) : ∃ b n : Nat, m = (b : Int) ∧ 1 ≤ D.length ∧ D.length + b ≤ 14 ∧ 1 ≤ n ∧ n = (D.getD 0 []).length ∧ L.length = b ∧ D ++ L = wordL D.length b n (en D) := by
  rcases h with ⟨h, _⟩ | ⟨_, h, rfl⟩
  · cases h
  · obtain ⟨b, rfl, h1, h2, h3, h4⟩ := sums_fit h hb
    refine ⟨b, _, rfl, h1, h2, h3, rfl, ?_, ?_⟩
    · rw [List.length_drop, wordL_len, Int.toNat_natCast]; omega
    · rw [Int.toNat_natCast]
      have e := wordL_low (m := b) h4
      conv => lhs; lhs; rw [← e]
      rw [List.take_append_drop]
end Go.Proofs.Ytdbngchbhoanpaa
