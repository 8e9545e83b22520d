/- Bytes as slice values, and the law of an append of bytes to a slice of the call's own, whatever the appended slice is (nil, empty or not). Conditions: the lengths together are below 2 to the 47. Rows of rows of bytes that are read: a slice of slices, each with bytes. No condition. Rows of rows of bytes that the call makes: a slice of slices that grows by one, each with bytes of its own. Condition: fewer than 2 to the 40 rows. A store into bytes of the call's own. No conditions. Blocks of the call's own with their cells written out. No condition. Rows that are laid place by place; rows that came in, at a place; the sum of products. It names nothing of the program. Matrices as lists of rows of bytes: product, One, the code, picks. It names nothing of the program. A matrix and One side by side, row by row brought to One and the inverse: what each step leaves. It names nothing of the program. Matrices in memory: rows of rows of bytes that are read, and such as the call makes. No condition. Matrices that the call makes row by row, each row in a block of its own. No condition. A row appended to a matrix of the call's own. No condition. Products of matrices as lists; what is refused. It names nothing of the program. Words of the code: what rows and their sums are, which rows bring all back, which one is wrong. It names nothing of the program. The code's rows. It names nothing of the program. What One and Code answer, also where they refuse. It names nothing of the program. The contract of the law's own 'great' at rows within the form's reach: where it says no, each row and their number are small. Condition: no row longer than a slice of the form's reach. The contract of the law's own comparison: whether two rows of bytes are the same. Condition: no row is longer than a slice may be. The contract of the law's own comparison of rows of rows: rows that are the same are found so. Condition: no row is longer than a slice may be. The contract of the law's own 'rows' at rows that are the same. No condition but the widths. What may have been turned: footprints. No condition. Lists of rows of bytes that the call gathers in a slice of its own, the rows lying anywhere (handed in, or of the call's own): stores and appends, of one row or of a list of rows. Condition: fewer than 2 to the 40 rows. The contract of the document's One. No condition but the widths. The contract of the document's Code. No condition but the widths. The document's One and Code, also where they refuse. No condition but the widths. An append of bytes inside a region that draws its order. No conditions. Rows that are exchanged, scaled and added, in memory; what Invert answers. It names nothing of the program. The contract of the document's Is: whether rows are a matrix. No condition but the widths. The contract of the document's comparison: whether two rows of bytes are the same. Condition: no row is longer than a slice may be. Numbers that a slice holds. No condition but that a slice has at most so many places. The contract of shard.present: which rows are there, as a set; whether these are of one length. Condition: at most 14 rows. The contract of gf.Dot. Condition: there are at most 1000000 bytes. The contract of matrix's noughts. Condition: at most 128 rows of at most 128 numbers. The contract of matrix.One. No condition but the widths. The contracts of matrix's sums and of matrix.Code. No condition but the widths. matrix.One and matrix.Code, also where they refuse. No condition but the widths. The contracts of matrix's set of rows: firstRows, has, without; of lead. Condition: at most 64 rows. The contract of gf.Scale. Condition: there are at most 1000000 bytes. The contract of gf.Add. Condition: there are at most 1000000 bytes. The contract of matrix's isMatrix: whether rows are a matrix. No condition but the widths. What Mul answers, also where it refuses. It names nothing of the program. The contract of matrix.Mul: the product, or refused. No condition but the widths. matrix.Mul, also where it refuses. No condition but the widths. The contract of slices.Clone at []byte. Condition: the row is below 2 to the 40. -/
import Derived.Test.YtpjocddeiehckaaDoorPr4
import Derived.Laws.AppendOwnNone
import Derived.OpenShut
import Derived.Maps.Range
import Derived.Maps.AppendAt
import Derived.RegionTactic
import Derived.ChangeAlike
import Derived.Test.YtpjocddeiehckaaDoorPr1
import Derived.BigQuiet
import Derived.Lib.SliceRun
namespace Go.Proofs.YtpjocddeiehckaaDoor
open Go.RowKit
/-- A place at which the walk stops. -/
structure Halt (p : Prop) : Prop where
  out : p
theorem halt {p : Prop} (h : Halt p) : p := h.out
/-- The value is a slice that reads as these bytes. -/
def IsB (w : World) (v : Value) (xs : List Nat) : Prop := ∃ A c, v = .slice A xs.length c ∧ Rd w A xs ∧ (A = none → c = 0) ∧ xs.length ≤ c ∧ c ≤ 9223372036854775807
theorem Own.more {w : World} {B B' : Nat} {v : Value} {l : List Nat} (h : Own w B v l) (hb : B' ≤ B) : Own w B' v l := by
  unfold Own at h ⊢
  refine ⟨h.1, ?_⟩
  rcases h.2 with hn | ⟨g, cap, cur, hv, h1, r⟩
  · exact .inl hn
  · exact .inr ⟨g, cap, cur, hv, by omega, r⟩
theorem add_off (b off j : Nat) : (⟨b, off, none⟩ : Addr).add j = ⟨b, off + j, none⟩ := by
  unfold Addr.add; split <;> simp_all
theorem Own.isB {w : World} {B : Nat} {v : Value} {xs : List Nat} (h : Own w B v xs) : IsB w v xs := by
  unfold Own at h
  rcases h.2 with ⟨rfl, hn⟩ | ⟨g, cap, cur, rfl, _, _, c1, c2, _⟩
  · refine ⟨none, 0, by rw [hn], fun hne => ?_, fun _ => rfl, by omega, by decide⟩
    exact absurd (List.eq_nil_of_length_eq_zero hn) hne
  · refine ⟨_, _, rfl, fun _ => ⟨g, 0, rfl, fun i hi => ?_⟩, (fun h => by cases h), c1, by unfold maxLen at c2; omega⟩
    rw [Nat.zero_add, h.cellAt i (by omega)]
    simp [hi]
theorem IsB.keep {w w' : World} {v : Value} {xs : List Nat} (h : IsB w v xs) (hb : Below w.heap.size w w') : IsB w' v xs := by
  obtain ⟨A, c, e, hr, hn⟩ := h
  exact ⟨A, c, e, hr.below hb, hn⟩
theorem Tryd.info_u8' : (Tryd.prog.info? 5).map (fun i => (i.zero, i.size, i.bytes)) = some (some (.int .u8 0), 1, 1) := by kernel_rfl
theorem wpList_append_bytes {w : World} {ops : Array Oper} {rest : List Oper} {o : Oper} {a : Act} {Q : Exit → Act → World → Prop} (hgd : o.guard = none) (s x : Operand)
    (ho : o.op = .call { callee := .builtin .append, args := #[s, x], argTypes := #[34, 34] })
    (B : Nat) (v : Value) (xs : List Nat) (hs : a.eval s = v) (hown : Own w B v xs)
    (u : Value) (ys : List Nat) (hx : a.eval x = u) (hr : IsB w u ys)
    (hlen : xs.length + ys.length ≤ 140737488355328) (hbase : B ≤ w.heap.size)
    (h : ∀ v' w', Own w' B v' (xs ++ ys) → Below B w w' → wpList Tryd.prog ops Q rest (a.put o.dst v') w') : wpList Tryd.prog ops Q (o :: rest) a w := by
  obtain ⟨i0, hi, hz0, hz1, hz2⟩ := info_parts Tryd.info_u8'
  obtain ⟨A, c, rfl, hr, hn, _⟩ := hr
  have fin : ∀ v' w', w'.ownsRow B 5 1 v' (xs.length + ys.length) ((xs.map fun x : Nat => Value.int .u8 (x : Int)) ++ (ys.map fun x : Nat => Value.int .u8 (x : Int))) → w.grownBy w' v.ownBlock → wpList Tryd.prog ops Q rest (a.put o.dst v') w' := by
    intro v' w' hown' hg
    refine h v' w' (by unfold Own; simpa using hown') ((Below.refl _ _).grown hg hbase fun k hk => (hown.lt k hk).1)
  rcases A with _ | ad
  · have h0 := hn rfl
    subst h0
    have hys : ys = [] := by
      rcases ys with _ | ⟨y, ys⟩
      · rfl
      · obtain ⟨_, _, e, _⟩ := hr (by simp)
        cases e
    subst hys
    exact wpList_append_own_none hgd s x _ ho B 5 i0 1 Tryd.underlying34 hi v _ _ hs hown hx (fin v w (by simpa [Own] using hown) (World.grownBy.refl w _))
  · refine wpList_append_own w hgd s x _ ho B 5 i0 (.int .u8 0) 1 1 Tryd.underlying34 hi hz0 hz1 hz2 rfl (by decide) v _ _ hs hown ad ys.length c (ys.map fun x : Nat => Value.int .u8 (x : Int)) hx (by simp) ?_ ?_ (by unfold maxLen; omega) (by omega) hbase (fun v' w' h1 h2 _ => fin v' w' h1 h2)
    · intro j u hu
      have hj : j < ys.length := by
        rcases Nat.lt_or_ge j ys.length with h | h
        · exact h
        · simp [h] at hu
      obtain ⟨b, off, e, hc⟩ := hr (by intro e; rw [e] at hj; simp at hj)
      cases e
      have := hc j hj
      simp [hj] at hu
      subst hu
      simpa [add_off, hj] using this
    · intro u hu
      simp at hu
      obtain ⟨y, _, rfl⟩ := hu
      rfl
/-- What the walk is told of a slice of integers that came in. -/
def IsRow (k : IntKind) (w : World) (a : Option Addr) (len cap : Nat) (zs : List Int) : Prop :=
  (a = none ∧ len = 0 ∧ cap = 0 ∧ zs = []) ∨
  ∃ x, a = some x ∧ len ≤ cap ∧ cap ≤ maxLen ∧ zs.length = cap ∧ (∀ i, i < zs.length → w.cell? (x.add i) = some (.int k (zs.getD i 0))) ∧ ∀ n ∈ zs, (Lit.int k n).wf = true
/-- Bytes that came in read as bytes. -/
theorem IsRow.isB {w : World} {a : Option Addr} {len cap : Nat} {zs : List Int} (h : IsRow .u8 w a len cap zs) :
    ∃ xs : List Nat, xs.length = len ∧ (∀ x ∈ xs, x < 256) ∧ IsB w (.slice a len cap) xs ∧ len ≤ 9223372036854775807 := by
  rcases h with ⟨rfl, rfl, rfl, rfl⟩ | ⟨x, rfl, h1, h2, h3, hc, hw⟩
  · exact ⟨[], rfl, by simp, ⟨none, 0, rfl, fun h => absurd rfl h, fun _ => rfl, by decide, by decide⟩, by decide⟩
  · have hb : ∀ z ∈ zs, 0 ≤ z ∧ z ≤ 255 := fun z hz => bounds_u8 (hw z hz)
    refine ⟨(zs.take len).map Int.toNat, by simp; omega, ?_, ⟨some x, cap, by congr 1; simp; omega, ?_, (fun h => by cases h), by simp; omega, by unfold maxLen at h2; omega⟩, by unfold maxLen at h2; omega⟩
    · intro y hy
      simp only [List.mem_map] at hy
      obtain ⟨z, hz, rfl⟩ := hy
      have := hb z (List.mem_of_mem_take hz)
      omega
    · intro hne
      have hl : 0 < zs.length := by
        rcases zs with _ | ⟨z, zs⟩
        · simp at hne
        · simp
      obtain ⟨b, off, sp⟩ := x
      have hs0 := hc 0 hl
      have hsp : sp = none := by simpa [Addr.add] using World.cell?_spot hs0
      subst hsp
      refine ⟨b, off, rfl, fun i hi => ?_⟩
      have hi2 : i < len ∧ i < zs.length := by simp at hi; omega
      have := hc i hi2.2
      rw [add_off] at this
      rw [this]
      have hz := hb zs[i] (List.getElem_mem hi2.2)
      simp [hi2.1, hi2.2]
      omega
theorem IsB.drewN {w : World} {v : Value} {xs : List Nat} (h : IsB w v xs) (d : Nat) : IsB (w.drewN d) v xs := h
theorem IsB.rd {w : World} {A : Option Addr} {n c : Nat} {xs : List Nat} (h : IsB w (.slice A n c) xs) : Rd w A xs := by
  obtain ⟨A', c', e, r, _⟩ := h
  cases e
  exact r
theorem IsB.form {w : World} {v : Value} {xs : List Nat} {n : Nat} (h : IsB w v xs) (hn : xs.length = n) : ∃ A c, v = .slice A n c ∧ IsB w (.slice A n c) xs ∧ n ≤ c ∧ c ≤ 9223372036854775807 := by
  subst hn
  obtain ⟨A, c, e, r, h1, h2, h3⟩ := h
  exact ⟨A, c, e, ⟨A, c, rfl, r, h1, h2, h3⟩, h2, h3⟩
theorem byte_app {xs ys : List Nat} (h1 : ∀ x ∈ xs, x < 256) (h2 : ∀ x ∈ ys, x < 256) : ∀ x ∈ xs ++ ys, x < 256 := by
  intro x hx
  rcases List.mem_append.1 hx with h | h
  · exact h1 x h
  · exact h2 x h
theorem below_step {w a b : World} (h : Below w.heap.size w a) (k : Below a.heap.size a b) : Below w.heap.size w b := h.trans (k.mono h.size)
theorem below_draw {w a : World} (h : Below w.heap.size w a) (d : Nat) : Below w.heap.size w (a.drewN d) := below_drewN h d
theorem own_lit (w : World) (cs : Array Value) (xs : List Nat) (h : cs.toList = xs.map fun x : Nat => Value.int .u8 (x : Int)) (hl : xs.length ≤ 140737488355328) :
    Own (w.alloc (.cells cs 5)) w.heap.size (.slice (some ⟨w.heap.size, 0, none⟩) xs.length xs.length) xs := by
  have hs : cs.size = xs.length := by rw [← Array.length_toList, h]; simp
  have := World.ownsRow_lit (base := w.heap.size) (e := 5) (size := 1) w cs xs.length (Nat.le_refl _) (by unfold maxLen; omega) (by omega)
  rw [h] at this
  exact this
/-- A beginning of bytes. -/
theorem IsB.take {w : World} {A : Option Addr} {n c : Nat} {xs : List Nat} (h : IsB w (.slice A n c) xs) (k : Nat) (hk : k ≤ n) : IsB w (.slice A k c) (xs.take k) := by
  obtain ⟨A', c', e, r, h1, h2, h3⟩ := h
  cases e
  have hl : (xs.take k).length = k := by rw [List.length_take]; omega
  refine ⟨A, c, by rw [hl], ?_, h1, by omega, h3⟩
  intro hne
  obtain ⟨b, off, e, hc⟩ := r (by intro e; rw [e] at hne; simp at hne)
  refine ⟨b, off, e, fun i hi => ?_⟩
  have hi2 : i < k := by omega
  rw [hc i (by omega)]
  congr 2
  simp [hi2]
/-- Bytes that were handed in read the same where only what is new has been written. -/
theorem isB_new (w : World) (cs : Array Value) (xs : List Nat) (hl : cs.toList = xs.map fun x : Nat => Value.int .u8 (x : Int)) (h : xs.length ≤ 140737488355328) (b n : Nat) (hb : b = w.heap.size) (hn : n = xs.length) :
    IsB (w.alloc (.cells cs 5)) (.slice (some ⟨b, 0, none⟩) n n) xs := by
  subst hb; subst hn
  exact ⟨_, _, rfl, rd_new _ _ _ _ _ _ rfl hl, (fun h => by cases h), Nat.le_refl _, by omega⟩
theorem rd_at {w : World} {b off : Nat} {xs : List Nat} (h : ∀ i, i < xs.length → w.cell? ⟨b, off + i, none⟩ = some (.int .u8 ((xs.getD i 0 : Nat) : Int))) (hb : ∀ x ∈ xs, x < 256) (i : Nat) (hi : i < xs.length) :
    ∃ x : Nat, w.cell? ⟨b, off + i, none⟩ = some (.int .u8 (x : Int)) ∧ x < 256 ∧ x = xs.getD i 0 := by
  refine ⟨_, h i hi, ?_, rfl⟩
  have e : xs.getD i 0 = xs[i] := by simp [hi]
  rw [e]
  exact hb _ (List.getElem_mem hi)
end Go.Proofs.YtpjocddeiehckaaDoor
namespace Go.Proofs.YtpjocddeiehckaaDoor
open Go.RowKit
/-- A slice of slices that reads as these values. -/
def RdV (w : World) (A : Option Addr) (vs : List Value) : Prop :=
  vs ≠ [] → ∃ b off, A = some ⟨b, off, none⟩ ∧ ∀ i, i < vs.length → w.cell? ⟨b, off + i, none⟩ = some (vs.getD i (.slice none 0 0))
theorem RdV.below {w w' : World} {A : Option Addr} {vs : List Value} (h : RdV w A vs) (hb : Below w.heap.size w w') : RdV w' A vs := by
  intro hne
  obtain ⟨b, off, e, hc⟩ := h hne
  exact ⟨b, off, e, fun i hi => (hb.cell (cell_lt (hc i hi))).trans (hc i hi)⟩
theorem RdV.drewN {w : World} {A : Option Addr} {vs : List Value} (h : RdV w A vs) (n : Nat) : RdV (w.drewN n) A vs := h
/-- Values that read as these rows of bytes, one each. -/
def IsBs (w : World) (vs : List Value) (xss : List (List Nat)) : Prop := vs.length = xss.length ∧ ∀ i, i < vs.length → IsB w (vs.getD i (.slice none 0 0)) (xss.getD i [])
theorem IsBs.below {w w' : World} {vs : List Value} {xss : List (List Nat)} (h : IsBs w vs xss) (hb : Below w.heap.size w w') : IsBs w' vs xss := ⟨h.1, fun i hi => (h.2 i hi).keep hb⟩
theorem IsBs.drewN {w : World} {vs : List Value} {xss : List (List Nat)} (h : IsBs w vs xss) (n : Nat) : IsBs (w.drewN n) vs xss := h
theorem rdV_new (w : World) (cs : Array Value) (e : TypeId) (vs : List Value) (b : Nat) (hb : b = w.heap.size) (h : cs.toList = vs) : RdV (w.alloc (.cells cs e)) (some ⟨b, 0, none⟩) vs := by
  subst hb; subst h
  intro _
  refine ⟨_, 0, rfl, fun i hi => ?_⟩
  have hc : cs[i]? = some (cs.toList.getD i (.slice none 0 0)) := by
    rw [← Array.getElem?_toList]
    simp at hi
    simp [hi]
  rw [Nat.zero_add, ← hc]
  exact cell_of_row _ _ _ _ _ (0, 0) (heap_alloc_new w _)
end Go.Proofs.YtpjocddeiehckaaDoor
namespace Go.Proofs.YtpjocddeiehckaaDoor
open Go.RowKit
/-- A slice of the call's own that holds these slices. -/
def OwnV (w : World) (B : Nat) (v : Value) (vs : List Value) : Prop := w.ownsRow B 34 1 v vs.length vs
/-- Each of these slices is of the call's own, and holds these bytes. -/
def Owns (w : World) (B : Nat) (vs : List Value) (xss : List (List Nat)) : Prop := vs.length = xss.length ∧ ∀ i, i < vs.length → Own w B (vs.getD i (.slice none 0 0)) (xss.getD i [])
theorem OwnV.nil (w : World) (B : Nat) : OwnV w B (.slice none 0 0) [] := World.ownsRow_nil _ _ _ _
theorem OwnV.form {w : World} {B : Nat} {v : Value} {vs : List Value} {n : Nat} (h : OwnV w B v vs) (hn : vs.length = n) : ∃ A c, v = .slice A n c ∧ RdV w A vs ∧ n ≤ 9223372036854775807 := by
  subst hn
  unfold OwnV at h
  rcases h.2 with ⟨rfl, hn⟩ | ⟨g, cap, cur, rfl, _, _, c1, c2, _⟩
  · refine ⟨none, 0, by rw [hn], fun hne => ?_, by omega⟩
    exact absurd (List.eq_nil_of_length_eq_zero hn) hne
  · refine ⟨_, _, rfl, fun _ => ⟨g, 0, rfl, fun i hi => ?_⟩, by unfold maxLen at c2; omega⟩
    rw [Nat.zero_add, h.cellAt i (by omega)]
    simp [hi]
theorem OwnV.keep {w w' : World} {B : Nat} {v : Value} {vs : List Value} (h : OwnV w B v vs) (hb : Below w.heap.size w w') : OwnV w' B v vs := by
  unfold OwnV at h ⊢
  refine ⟨h.1, ?_⟩
  rcases h.2 with hn | ⟨g, cap, cur, hv, h1, h2, r⟩
  · exact .inl hn
  · refine .inr ⟨g, cap, cur, hv, h1, ?_, r⟩
    rw [hb.block g ?_]
    · exact h2
    · exact (h.lt g (by rw [hv]; rfl)).2
theorem OwnV.more {w : World} {B B' : Nat} {v : Value} {vs : List Value} (h : OwnV w B v vs) (hb : B' ≤ B) : OwnV w B' v vs := by
  unfold OwnV at h ⊢
  refine ⟨h.1, ?_⟩
  rcases h.2 with hn | ⟨g, cap, cur, hv, h1, r⟩
  · exact .inl hn
  · exact .inr ⟨g, cap, cur, hv, by omega, r⟩
theorem Owns.keep {w w' : World} {B : Nat} {vs : List Value} {xss : List (List Nat)} (h : Owns w B vs xss) (hb : Below w.heap.size w w') : Owns w' B vs xss := ⟨h.1, fun i hi => (h.2 i hi).keep hb⟩
theorem Owns.isBs {w : World} {B : Nat} {vs : List Value} {xss : List (List Nat)} (h : Owns w B vs xss) : IsBs w vs xss := ⟨h.1, fun i hi => (h.2 i hi).isB⟩
theorem Owns.nil (w : World) (B : Nat) : Owns w B [] [] := ⟨rfl, fun _ h => absurd h (by simp)⟩
theorem Owns.more {w : World} {B B' : Nat} {vs : List Value} {xss : List (List Nat)} (h : Owns w B vs xss) (hb : B' ≤ B) : Owns w B' vs xss := ⟨h.1, fun i hi => (h.2 i hi).more hb⟩
/-- Bytes of the call's own are none of the blocks in which slices of slices lie. -/
theorem Own.apart {w w' : World} {B B' : Nat} {v u : Value} {xs : List Nat} {vs : List Value} (h : Own w B v xs) (hv : OwnV w B' u vs) (hg : w.grownBy w' u.ownBlock) : Own w' B v xs := by
  unfold Own OwnV at *
  refine World.ownsRow.kept h hg ?_
  rcases h.2 with ⟨rfl, _⟩ | ⟨g, cap, cur, rfl, _, hh, _⟩
  · exact .inl rfl
  · right
    rcases hv.2 with ⟨rfl, _⟩ | ⟨g', cap', cur', rfl, _, hh', _⟩
    · intro e; cases e
    · intro e
      have e' : g = g' := by simpa [Value.ownBlock] using e
      subst e'
      rw [hh] at hh'
      simp only [Option.some.injEq, Obj.cells.injEq] at hh'
      exact absurd hh'.2.1 (by decide)
theorem Owns.apart {w w' : World} {B B' : Nat} {u : Value} {vs us : List Value} {xss : List (List Nat)} (h : Owns w B vs xss) (hv : OwnV w B' u us) (hg : w.grownBy w' u.ownBlock) : Owns w' B vs xss := ⟨h.1, fun i hi => (h.2 i hi).apart hv hg⟩
theorem Owns.snoc {w : World} {B : Nat} {vs : List Value} {xss : List (List Nat)} {v : Value} {xs : List Nat} (h : Owns w B vs xss) (hv : Own w B v xs) : Owns w B (vs ++ [v]) (xss ++ [xs]) := by
  refine ⟨by rw [List.length_append, List.length_append, h.1]; rfl, fun i hi => ?_⟩
  rw [List.length_append] at hi
  simp only [List.getD_eq_getElem?_getD]
  by_cases hlt : i < vs.length
  · rw [List.getElem?_append_left hlt, List.getElem?_append_left (by rw [← h.1]; exact hlt), ← List.getD_eq_getElem?_getD, ← List.getD_eq_getElem?_getD]
    exact h.2 i hlt
  · have e : i = vs.length := by simp at hi; omega
    subst e
    rw [List.getElem?_append_right (Nat.le_refl _), List.getElem?_append_right (by rw [h.1]; exact Nat.le_refl _), h.1, Nat.sub_self]
    exact hv
theorem Tryd.info_rows : (Tryd.prog.info? 34).map (fun i => (i.zero, i.size, i.bytes)) = some (some (.slice none 0 0), 1, 24) := by kernel_rfl
theorem wpList_append_row {w : World} {ops : Array Oper} {rest : List Oper} {o : Oper} {a : Act} {Q : Exit → Act → World → Prop} (hgd : o.guard = none) (s x : Operand)
    (ho : o.op = .call { callee := .builtin .append, args := #[s, x], argTypes := #[22, 22] })
    (B : Nat) (v : Value) (vs : List Value) (hs : a.eval s = v) (hown : OwnV w B v vs)
    (b : Nat) (u : Value) (hx : a.eval x = .slice (some ⟨b, 0, none⟩) 1 1) (hu : w.cell? ⟨b, 0, none⟩ = some u) (h1 : u.oneCell' = true)
    (hlen : vs.length + 1 ≤ 1099511627776) (hbase : B ≤ w.heap.size)
    (h : ∀ v' w', OwnV w' B v' (vs ++ [u]) → Below B w w' → w.grownBy w' v.ownBlock → wpList Tryd.prog ops Q rest (a.put o.dst v') w') : wpList Tryd.prog ops Q (o :: rest) a w := by
  obtain ⟨i0, hi, hz0, hz1, hz2⟩ := info_parts Tryd.info_rows
  refine wpList_append_own w hgd s x _ ho B 34 i0 (.slice none 0 0) 1 24 Tryd.underlying22 hi hz0 hz1 hz2 rfl (by decide) v _ _ hs hown ⟨b, 0, none⟩ 1 1 [u] hx rfl ?_ ?_ (by unfold maxLen; omega) (by omega) hbase ?_
  · intro j z hj
    match j, hj with
    | 0, hj => simp at hj; subst hj; simpa [Addr.add] using hu
  · intro z hz; simp at hz; subst hz; exact h1
  · intro v' w' h2 h3 _
    exact h v' w' (by unfold OwnV; simpa using h2) ((Below.refl _ _).grown h3 hbase fun k hk => (hown.lt k hk).1) h3
theorem cell_new (w : World) (u : Value) (e : TypeId) : (w.alloc (.cells #[u] e)).cell? ⟨w.heap.size, 0, none⟩ = some u := by
  rw [cell_of_row _ _ _ _ _ (0, 0) (heap_alloc_new w _)]
  rfl
end Go.Proofs.YtpjocddeiehckaaDoor
namespace Go.Proofs.YtpjocddeiehckaaDoor
open Go.RowKit
theorem Own.stored {w : World} {B : Nat} {g n c : Nat} {xs : List Nat} (h : Own w B (.slice (some ⟨g, 0, none⟩) n c) xs) (hn : xs.length = n) (k z : Nat) :
    Own (w.setCell ⟨g, k, none⟩ (.int .u8 (z : Int))) B (.slice (some ⟨g, 0, none⟩) n c) (xs.set k z) := by
  subst hn
  unfold Own at h ⊢
  have := (World.ownsRow.stored h k (.int .u8 (z : Int))).1
  simpa [List.map_set] using this
theorem Own.at_ {w : World} {B : Nat} {v : Value} {xs : List Nat} {n : Nat} (h : Own w B v xs) (hn : xs.length = n) (h1 : 1 ≤ n) :
    ∃ g c, v = .slice (some ⟨g, 0, none⟩) n c ∧ B ≤ g ∧ n ≤ c ∧ c ≤ 9223372036854775807 ∧ (∀ k, k < n → w.cell? ⟨g, k, none⟩ = some (.int .u8 ((xs.getD k 0 : Nat) : Int))) ∧ ∀ k, w.frozen? ⟨g, k, none⟩ = false := by
  subst hn
  have h0 := h
  unfold Own at h
  rcases h.2 with ⟨rfl, hn⟩ | ⟨g, cap, cur, rfl, hb, hg, hc, hm, _⟩
  · omega
  · refine ⟨g, cap, rfl, hb, hc, by unfold maxLen at hm; omega, fun k hk => ?_, fun k => World.ownsRow.frozenAt h k⟩
    rw [World.ownsRow.cellAt h k (by omega)]
    simp [hk]
theorem xor8 (a b : Nat) (ha : a < 256) (hb : b < 256) : bits .xor .u8 (a : Int) (b : Int) = ((a ^^^ b : Nat) : Int) := u8_xor_nat a b ha hb
end Go.Proofs.YtpjocddeiehckaaDoor
namespace Go.Proofs.YtpjocddeiehckaaDoor
open Go.RowKit
theorem below_alloc (w : World) (o : Obj) : Below w.heap.size w (w.alloc o) := (Below.refl _ _).alloc (Nat.le_refl _) _
/-- A block of the call's own that holds these cells. -/
def Blk (w : World) (B : Nat) (e : TypeId) (g : Nat) (cs : List Value) : Prop := B ≤ g ∧ ∃ cur : Array Value, w.heap[g]? = some (.cells cur e (0, 0)) ∧ cur.toList = cs
theorem heap_lt {w : World} {g : Nat} {o : Obj} (h : w.heap[g]? = some o) : g < w.heap.size := (Array.getElem?_eq_some_iff.1 h).1
theorem Blk.lt {w : World} {B : Nat} {e : TypeId} {g : Nat} {cs : List Value} (h : Blk w B e g cs) : g < w.heap.size := by
  obtain ⟨_, cur, hg, _⟩ := h
  exact heap_lt hg
theorem Blk.cell {w : World} {B : Nat} {e : TypeId} {g : Nat} {cs : List Value} (h : Blk w B e g cs) (i : Nat) : w.cell? ⟨g, i, none⟩ = cs[i]? := by
  obtain ⟨_, cur, hg, rfl⟩ := h
  rw [cell_of_row w g i cur e (0, 0) hg]
  simp
theorem Blk.frozen {w : World} {B : Nat} {e : TypeId} {g : Nat} {cs : List Value} (h : Blk w B e g cs) (i : Nat) : w.frozen? ⟨g, i, none⟩ = false := by
  obtain ⟨_, cur, hg, rfl⟩ := h
  exact frozen_of_row w g i cur e hg
theorem Blk.stored {w : World} {B : Nat} {e : TypeId} {g : Nat} {cs : List Value} (h : Blk w B e g cs) (i : Nat) (u : Value) : Blk (w.setCell ⟨g, i, none⟩ u) B e g (cs.set i u) := by
  obtain ⟨hb, cur, hg, rfl⟩ := h
  exact ⟨hb, _, heap_setCell_same w g i cur e u hg, Array.toList_setIfInBounds ..⟩
theorem grown_set (w : World) (g i : Nat) (u : Value) : w.grownBy (w.setCell ⟨g, i, none⟩ u) (some g) :=
  ⟨rfl, rfl, rfl, by simp, fun k _ hk => heap_setCell_other w ⟨g, i, none⟩ k u (fun e => hk (by simp [e]))⟩
theorem Blk.new (w : World) {B : Nat} (e : TypeId) (cs : Array Value) (hB : B ≤ w.heap.size) : Blk (w.alloc (.cells cs e)) B e w.heap.size cs.toList := ⟨hB, cs, heap_alloc_new w _, rfl⟩
theorem Blk.kept {w w' : World} {B : Nat} {e : TypeId} {g : Nat} {cs : List Value} {row : Option Nat} (h : Blk w B e g cs) (hg : w.grownBy w' row) (hne : row ≠ some g) : Blk w' B e g cs := by
  have hl := h.lt
  obtain ⟨hb, cur, hh, rfl⟩ := h
  exact ⟨hb, cur, by rw [hg.block g hl (fun e => hne e.symm)]; exact hh, rfl⟩
theorem Blk.keep {w w' : World} {B : Nat} {e : TypeId} {g : Nat} {cs : List Value} (h : Blk w B e g cs) (hb : Below w.heap.size w w') : Blk w' B e g cs := by
  have hl := h.lt
  obtain ⟨hB, cur, hh, rfl⟩ := h
  exact ⟨hB, cur, by rw [hb.block g hl]; exact hh, rfl⟩
theorem Blk.more {w : World} {B B' : Nat} {e : TypeId} {g : Nat} {cs : List Value} (h : Blk w B e g cs) (hB : B' ≤ B) : Blk w B' e g cs := ⟨Nat.le_trans hB h.1, h.2⟩
theorem Blk.drewN {w : World} {B : Nat} {e : TypeId} {g : Nat} {cs : List Value} (h : Blk w B e g cs) (n : Nat) : Blk (w.drewN n) B e g cs := h
/-- Blocks of unlike types lie apart. -/
theorem Blk.ne {w : World} {B B' : Nat} {e e' : TypeId} {g g' : Nat} {cs cs' : List Value} (h : Blk w B e g cs) (h' : Blk w B' e' g' cs') (hne : e ≠ e') : g ≠ g' := by
  obtain ⟨_, cur, hh, _⟩ := h
  obtain ⟨_, cur', hh', _⟩ := h'
  rintro rfl
  rw [hh] at hh'
  simp only [Option.some.injEq, Obj.cells.injEq] at hh'
  exact hne hh'.2.1
end Go.Proofs.YtpjocddeiehckaaDoor
namespace Go.Proofs.YtpjocddeiehckaaDoor
open Go.RowKit
/-- A row of which k places are laid, by f. -/
def part (f : Nat → Nat) (n k : Nat) : List Nat := (List.range n).map fun j => if j < k then f j else 0
theorem part_len (f : Nat → Nat) (n k : Nat) : (part f n k).length = n := by simp [part]
theorem part_zero (f : Nat → Nat) (n : Nat) : part f n 0 = List.replicate n 0 := by
  apply List.ext_getElem
  · simp [part]
  · intro i h1 h2
    simp [part]
theorem part_set (f : Nat → Nat) (n k : Nat) : (part f n k).set k (f k) = part f n (k + 1) := by
  apply List.ext_getElem
  · simp [part]
  · intro i h1 h2
    rw [List.getElem_set]
    simp only [part, List.getElem_map, List.getElem_range]
    by_cases e : k = i
    · subst e; simp
    · rw [if_neg e]
      by_cases h : i < k
      · rw [if_pos h, if_pos (by omega)]
      · rw [if_neg h, if_neg (by omega)]
theorem part_get (f : Nat → Nat) (n j : Nat) (h : j < n) : (part f n n).getD j 0 = f j := by simp [part, h]
theorem made_bytes {w : World} {B g n : Nat} (h : w.ownsRow B 5 1 (.slice (some ⟨g, 0, none⟩) n n) n (madeCells (Value.int .u8 0).cells (n * 1)).toList) : Own w B (.slice (some ⟨g, 0, none⟩) n n) (List.replicate n 0) := by
  have e : (madeCells (Value.int .u8 0).cells (n * 1)).toList = List.replicate n (Value.int .u8 0) := by
    rw [Nat.mul_one]; exact toList_madeCells_one (Value.int .u8 0) n
  rw [e] at h
  unfold Own
  simpa using h
theorem Own.cells_ {w : World} {B : Nat} {g n c : Nat} {xs : List Nat} (h : Own w B (.slice (some ⟨g, 0, none⟩) n c) xs) (hn : xs.length = n) (k : Nat) :
    (k < n → w.cell? ⟨g, k, none⟩ = some (.int .u8 ((xs.getD k 0 : Nat) : Int))) ∧ w.frozen? ⟨g, k, none⟩ = false := by
  subst hn
  unfold Own at h
  refine ⟨fun hk => ?_, World.ownsRow.frozenAt h k⟩
  rw [World.ownsRow.cellAt h k (by omega)]
  simp [hk]
theorem Own.stored' {w : World} {B : Nat} {g n c : Nat} {xs : List Nat} (h : Own w B (.slice (some ⟨g, 0, none⟩) n c) xs) (hn : xs.length = n) (k z : Nat) :
    Own (w.setCell ⟨g, k, none⟩ (.int .u8 (z : Int))) B (.slice (some ⟨g, 0, none⟩) n c) (xs.set k z) := by
  subst hn
  unfold Own at h ⊢
  have := (World.ownsRow.stored h k (.int .u8 (z : Int))).1
  simpa [List.map_set] using this
theorem at_place {w : World} {A : Option Addr} {xs : List Nat} {n : Nat} (h : Rd w A xs) (hn : xs.length = n) (hb : ∀ x ∈ xs, x < 256) (k : Nat) (hk : k < n) :
    ∃ b off, A = some ⟨b, off, none⟩ ∧ w.cell? ⟨b, off + k, none⟩ = some (.int .u8 ((xs.getD k 0 : Nat) : Int)) ∧ xs.getD k 0 < 256 := by
  subst hn
  obtain ⟨b, off, e, hc⟩ := h (by intro e; rw [e] at hk; simp at hk)
  refine ⟨b, off, e, hc k hk, ?_⟩
  have : xs.getD k 0 = xs[k] := by simp [hk]
  rw [this]; exact hb _ (List.getElem_mem hk)
/-- The sum of the first k products. -/
def dotS (xs ys : List Nat) : Nat → Nat
  | 0 => 0
  | k + 1 => dotS xs ys k ^^^ gmul (xs.getD k 0) (ys.getD k 0)
theorem getD_lt {xs : List Nat} (hb : ∀ x ∈ xs, x < 256) (k : Nat) : xs.getD k 0 < 256 := by
  by_cases h : k < xs.length
  · have : xs.getD k 0 = xs[k] := by simp [h]
    rw [this]; exact hb _ (List.getElem_mem h)
  · have : xs.getD k 0 = 0 := by simp [Nat.le_of_not_lt h]
    omega
theorem dotS_lt {xs ys : List Nat} (hb : ∀ x ∈ xs, x < 256) : ∀ k, dotS xs ys k < 256
  | 0 => by show 0 < 256; omega
  | k + 1 => xor_lt8 (dotS_lt hb k) (gmul_lt _ (getD_lt hb k))
end Go.Proofs.YtpjocddeiehckaaDoor
namespace Go.Proofs.YtpjocddeiehckaaDoor
abbrev ML := List (List Nat)
def en (A : ML) : Mat := fun i j => G.of ((A.getD i []).getD j 0)
structure Shape (A : ML) (n m : Nat) : Prop where
  high : A.length = n
  wide : ∀ r ∈ A, r.length = m
  byte : ∀ r ∈ A, ∀ x ∈ r, x < 256
theorem Shape.row {A : ML} {n m i : Nat} (h : Shape A n m) (hi : i < n) : (A.getD i []).length = m ∧ ∀ x ∈ A.getD i [], x < 256 := by
  have hl : i < A.length := by rw [h.high]; exact hi
  have e : A.getD i [] = A[i] := by simp [hl]
  rw [e]
  exact ⟨h.wide _ (List.getElem_mem hl), h.byte _ (List.getElem_mem hl)⟩
theorem Shape.at_ {A : ML} {n m i : Nat} (h : Shape A n m) (hi : i < n) (j : Nat) : (en A i j).n = (A.getD i []).getD j 0 := G.of_n (getD_lt (h.row hi).2 j)
/-- Two that agree at every place are the same. -/
theorem Shape.ext {A B : ML} {n m : Nat} (h : Shape A n m) (k : Shape B n m) (e : ∀ i, i < n → ∀ j, j < m → en A i j = en B i j) : A = B := by
  apply List.ext_getElem (by rw [h.high, k.high])
  intro i h1 h2
  have hi : i < n := by rw [← h.high]; exact h1
  obtain ⟨a1, a2⟩ := h.row hi
  obtain ⟨b1, b2⟩ := k.row hi
  have ea : A.getD i [] = A[i] := by simp [h1]
  have eb : B.getD i [] = B[i] := by simp [h2]
  rw [ea] at a1 a2
  rw [eb] at b1 b2
  apply List.ext_getElem (by rw [a1, b1])
  intro j g1 g2
  have hj : j < m := by rw [← a1]; exact g1
  have := congrArg G.n (e i hi j hj)
  rw [h.at_ hi, k.at_ hi, ea, eb] at this
  simpa [g1, g2] using this
/-- A matrix that is laid place by place. -/
def laid (n m : Nat) (f : Mat) : ML := (List.range n).map fun i => (List.range m).map fun j => (f i j).n
theorem laid_shape (n m : Nat) (f : Mat) : Shape (laid n m f) n m := by
  refine ⟨by simp [laid], fun r hr => ?_, fun r hr x hx => ?_⟩
  · simp only [laid, List.mem_map] at hr
    obtain ⟨i, _, rfl⟩ := hr
    simp
  · simp only [laid, List.mem_map] at hr
    obtain ⟨i, _, rfl⟩ := hr
    simp only [List.mem_map] at hx
    obtain ⟨j, _, rfl⟩ := hx
    exact (f i j).lt
theorem laid_row {n m i : Nat} (f : Mat) (hi : i < n) : (laid n m f).getD i [] = (List.range m).map fun j => (f i j).n := by simp [laid, hi]
theorem laid_at {n m i j : Nat} (f : Mat) (hi : i < n) (hj : j < m) : en (laid n m f) i j = f i j := by
  unfold en
  rw [laid_row f hi]
  simp [hj, G.of_self]
theorem laid_en {A : ML} {n m : Nat} (h : Shape A n m) : laid n m (en A) = A := (laid_shape n m _).ext h (fun _ hi _ hj => laid_at _ hi hj)
def mulL (A B : ML) (n p m : Nat) : ML := laid n m (mm p (en A) (en B))
theorem mul_joins (A B C : ML) (n p q m : Nat) : mulL (mulL A B n p q) C n q m = mulL A (mulL B C p q m) n p m := by
  refine (laid_shape n m _).ext (laid_shape n m _) (fun i hi j hj => ?_)
  unfold mulL
  rw [laid_at _ hi hj, laid_at _ hi hj]
  have h1 : mm q (en (laid n q (mm p (en A) (en B)))) (en C) i j = mm q (mm p (en A) (en B)) (en C) i j := gs_congr (fun l hl => by rw [laid_at _ hi hl])
  have h2 : mm p (en A) (en (laid p m (mm q (en B) (en C)))) i j = mm p (en A) (mm q (en B) (en C)) i j := gs_congr (fun l hl => by rw [laid_at _ hl hj])
  rw [h1, h2, mm_assoc]
def oneL (n : Nat) : ML := laid n n dl
theorem one_mulL {A : ML} {n m : Nat} (h : Shape A n m) : mulL (oneL n) A n n m = A := by
  refine (laid_shape n m _).ext h (fun i hi j hj => ?_)
  rw [laid_at _ hi hj]
  have : mm n (en (oneL n)) (en A) i j = mm n dl (en A) i j := gs_congr (fun l hl => by unfold oneL; rw [laid_at _ hi hl])
  rw [this, mm_one_left hi]
theorem mulL_one_of {A B : ML} {n : Nat} (h : ∀ i, i < n → ∀ j, j < n → mm n (en A) (en B) i j = dl i j) : mulL A B n n n = oneL n :=
  (laid_shape n n _).ext (laid_shape n n _) (fun i hi j hj => by unfold oneL; rw [laid_at _ hi hj, laid_at _ hi hj]; exact h i hi j hj)
/-- The sum of products of two rows, as it is reckoned. -/
theorem dot_gs {xs ys : List Nat} (hx : ∀ x ∈ xs, x < 256) (hy : ∀ y ∈ ys, y < 256) : ∀ k, dotS xs ys k = (gs k (fun l => G.of (xs.getD l 0) * G.of (ys.getD l 0))).n
  | 0 => rfl
  | k + 1 => by
    show dotS xs ys k ^^^ gmul (xs.getD k 0) (ys.getD k 0) = (gs k _ + _).n
    rw [dot_gs hx hy k, G.add_n, G.mul_n, G.of_n (getD_lt hx k), G.of_n (getD_lt hy k)]
def codeL (k m : Nat) : ML := laid (k + m) k (codeRow k)
theorem code_known : codeL 2 1 = [[1, 0], [0, 1], [142, 244]] := by decide +kernel
theorem kx_n {x y : Nat} (hx : x < 256) (hy : y < 256) : (kx x y).n = ginv (x ^^^ y) := by
  show ginv (G.of (x ^^^ y)).n = _
  rw [G.of_n (xor_lt8 hx hy)]
/-! ### picks: rows that are taken one by one out of those that are left -/
structure Picks (t : Nat) (left P : List Nat) : Prop where
  count : P.length + left.length = t
  nodupL : left.Nodup
  nodupP : P.Nodup
  apart : ∀ x ∈ P, x ∉ left
  low : ∀ x ∈ P, x < t
  lowL : ∀ x ∈ left, x < t
theorem picks_start (t : Nat) : Picks t (List.range t) [] :=
  ⟨by simp, List.nodup_range, List.nodup_nil, fun _ h => absurd h (by simp), fun _ h => absurd h (by simp), fun x hx => List.mem_range.1 hx⟩
theorem Picks.take {t j : Nat} {left P : List Nat} (h : Picks t left P) (hj : j < left.length) : Picks t (left.take j ++ left.drop (j + 1)) (P ++ [left.getD j 0]) := by
  have e : left = left.take j ++ left[j] :: left.drop (j + 1) := by rw [List.getElem_cons_drop, List.take_append_drop]
  have eg : left.getD j 0 = left[j] := by simp [hj]
  have hn := h.nodupL
  rw [e, List.nodup_append] at hn
  obtain ⟨n1, n2, n3⟩ := hn
  obtain ⟨m1, m2⟩ := List.nodup_cons.1 n2
  have sub : ∀ x ∈ left.take j ++ left.drop (j + 1), x ∈ left := fun x hx => by
    rcases List.mem_append.1 hx with hx | hx
    · exact List.mem_of_mem_take hx
    · exact List.mem_of_mem_drop hx
  have hnot : left[j] ∉ left.take j ++ left.drop (j + 1) := fun hx => by
    rcases List.mem_append.1 hx with hx | hx
    · exact n3 _ hx _ (List.mem_cons.2 (.inl rfl)) rfl
    · exact m1 hx
  have hmem : left[j] ∈ left := List.getElem_mem hj
  rw [eg]
  refine ⟨?_, ?_, ?_, fun x hx => ?_, fun x hx => ?_, fun x hx => h.lowL x (sub x hx)⟩
  · have := h.count
    simp only [List.length_append, List.length_take, List.length_drop, List.length_singleton]
    omega
  · exact List.nodup_append.2 ⟨n1, m2, fun a ha b hb => n3 a ha b (List.mem_cons.2 (.inr hb))⟩
  · refine List.nodup_append.2 ⟨h.nodupP, by simp, fun a ha b hb e => ?_⟩
    rw [List.mem_singleton] at hb
    exact h.apart a ha (by rw [e, hb]; exact hmem)
  · rcases List.mem_append.1 hx with hx | hx
    · exact fun hl => h.apart x hx (sub x hl)
    · rw [List.mem_singleton] at hx
      rw [hx]
      exact hnot
  · rcases List.mem_append.1 hx with hx | hx
    · exact h.low x hx
    · rw [List.mem_singleton] at hx
      rw [hx]
      exact h.lowL _ hmem
/-- The rows that were picked are a matrix that takes nothing but noughts to noughts. -/
theorem picked_sharp {k m : Nat} {left P : List Nat} (h : Picks (k + m) left P) (hk : P.length = k) (ht : k + m ≤ 256) : Sharp k (en (P.map fun l => (codeL k m).getD l [])) := by
  have hs := code_sharp k P hk h.nodupP (fun l hl => by have := h.low l hl; omega) (by omega)
  intro v hv
  refine hs v (fun i hi => ?_)
  rw [← hv i hi]
  refine gs_congr (fun j hj => ?_)
  congr 1
  have hiP : i < P.length := by omega
  have e1 : P.getD i 0 = P[i] := by simp [hiP]
  have hlow := h.low P[i] (List.getElem_mem hiP)
  have e2 : (P.map fun l => (codeL k m).getD l []).getD i [] = (codeL k m).getD P[i] [] := by simp [hiP]
  show codeRow k (P.getD i 0) j = G.of (((P.map fun l => (codeL k m).getD l []).getD i []).getD j 0)
  rw [e1, e2]
  exact (laid_at (n := k + m) (m := k) (codeRow k) hlow hj).symm
end Go.Proofs.YtpjocddeiehckaaDoor
namespace Go.Proofs.YtpjocddeiehckaaDoor
def scaleR (r : List Nat) (s : Nat) : List Nat := r.map fun x => gmul x s
def addR (r t : List Nat) : List Nat := (List.range r.length).map fun j => r.getD j 0 ^^^ t.getD j 0
theorem scaleR_len (r : List Nat) (s : Nat) : (scaleR r s).length = r.length := by simp [scaleR]
theorem addR_len (r t : List Nat) : (addR r t).length = r.length := by simp [addR]
theorem scaleR_byte {r : List Nat} {s : Nat} (h : ∀ x ∈ r, x < 256) : ∀ x ∈ scaleR r s, x < 256 := by
  intro x hx
  simp only [scaleR, List.mem_map] at hx
  obtain ⟨y, hy, rfl⟩ := hx
  exact gmul_lt _ (h y hy)
theorem addR_byte {r t : List Nat} (h : ∀ x ∈ r, x < 256) (k : ∀ x ∈ t, x < 256) : ∀ x ∈ addR r t, x < 256 := by
  intro x hx
  simp only [addR, List.mem_map] at hx
  obtain ⟨j, _, rfl⟩ := hx
  exact xor_lt8 (getD_lt h j) (getD_lt k j)
theorem scaleR_at (r : List Nat) (s j : Nat) (hr : ∀ x ∈ r, x < 256) (hs : s < 256) : G.of ((scaleR r s).getD j 0) = G.of (r.getD j 0) * G.of s := by
  have h1 : (scaleR r s).getD j 0 = gmul (r.getD j 0) s := by
    unfold scaleR
    by_cases hj : j < r.length
    · simp [hj]
    · simp [Nat.le_of_not_lt hj, zero_gmul]
  have h2 := getD_lt hr j
  rw [h1]
  exact G.ext (by rw [G.of_n (gmul_lt _ h2), G.mul_n, G.of_n h2, G.of_n hs])
theorem addR_at (r t : List Nat) (j : Nat) (hj : j < r.length) (hr : ∀ x ∈ r, x < 256) (ht : ∀ x ∈ t, x < 256) : G.of ((addR r t).getD j 0) = G.of (r.getD j 0) + G.of (t.getD j 0) := by
  have h1 : (addR r t).getD j 0 = r.getD j 0 ^^^ t.getD j 0 := by simp [addR, hj]
  rw [h1]
  exact of_xor (getD_lt hr j) (getD_lt ht j)
theorem Shape.set {W : ML} {n m : Nat} (h : Shape W n m) (i : Nat) {r : List Nat} (h1 : r.length = m) (h2 : ∀ x ∈ r, x < 256) : Shape (W.set i r) n m := by
  refine ⟨by rw [List.length_set, h.high], fun q hq => ?_, fun q hq => ?_⟩
  · rcases List.mem_or_eq_of_mem_set hq with hq | rfl
    · exact h.wide q hq
    · exact h1
  · rcases List.mem_or_eq_of_mem_set hq with hq | rfl
    · exact h.byte q hq
    · exact h2
theorem set_row {W : ML} {i : Nat} (r : List Nat) (k : Nat) (hi : i < W.length) : (W.set i r).getD k [] = if k = i then r else W.getD k [] := by
  rw [List.getD_eq_getElem?_getD, List.getD_eq_getElem?_getD, List.getElem?_set]
  by_cases h : i = k
  · subst h
    rw [if_pos rfl, if_pos rfl, if_pos hi]
    rfl
  · rw [if_neg h, if_neg (fun e => h e.symm)]
theorem en_set {W : ML} {i : Nat} (r : List Nat) (k j : Nat) (hi : i < W.length) : en (W.set i r) k j = if k = i then G.of (r.getD j 0) else en W k j := by
  unfold en
  rw [set_row r k hi]
  split <;> rfl
/-- The first c columns are One's. -/
structure Half (n c : Nat) (a : Mat) (W : ML) : Prop where
  shape : Shape W n (n + n)
  steps : Steps n a (en W)
  unit : ∀ i, i < n → ∀ j, j < c → en W i j = dl i j
theorem dl_ne {i j : Nat} (h : i ≠ j) : dl i j = G.zero := if_neg h
theorem dl_eq (i : Nat) : dl i i = G.one := if_pos rfl
theorem half_start {A W : ML} {n : Nat} (hA : Shape A n n) (hW : Shape W n (n + n)) (h : ∀ i, i < n → W.getD i [] = A.getD i [] ++ (oneL n).getD i []) : Half n 0 (en A) W := by
  refine ⟨hW, steps_start n _ _ (fun i hi j hj => ?_) (fun i hi l hl => ?_), fun _ _ j hj => absurd hj (Nat.not_lt_zero j)⟩
  · have hl := (hA.row hi).1
    unfold en
    rw [h i hi]
    congr 1
    simp only [List.getD_eq_getElem?_getD] at hl ⊢
    rw [List.getElem?_append_left (by omega)]
  · have hw := (hA.row hi).1
    have h1 : en W i (n + l) = en (oneL n) i l := by
      unfold en
      rw [h i hi]
      congr 1
      simp only [List.getD_eq_getElem?_getD] at hw ⊢
      rw [List.getElem?_append_right (by omega)]
      congr 2
      omega
    rw [h1]
    exact laid_at _ hi hl
/-- The row with something in column c comes to its place, and is scaled to 1 there. -/
theorem Half.pivot {n c p : Nat} {a : Mat} {W : ML} (h : Half n c a W) (hc : c ≤ p) (hp : p < n) (hne : en W p c ≠ G.zero) :
    Half n c a ((W.set p (W.getD c [])).set c (scaleR (W.getD p []) (ginv (en W p c).n))) ∧ en ((W.set p (W.getD c [])).set c (scaleR (W.getD p []) (ginv (en W p c).n))) c c = G.one := by
  have hcn : c < n := by omega
  have hl := h.shape.high
  have rp := h.shape.row hp
  have rc := h.shape.row hcn
  have hinv : ginv (en W p c).n < 256 := ginv_lt (en W p c).lt
  have einv : G.of (ginv (en W p c).n) = (en W p c).inv := G.of_self (en W p c).inv
  have hen : ∀ k j, en ((W.set p (W.getD c [])).set c (scaleR (W.getD p []) (ginv (en W p c).n))) k j = if k = c then en W p j * (en W p c).inv else if k = p then en W c j else en W k j := fun k j => by
    rw [en_set _ _ _ (by rw [List.length_set]; omega)]
    split
    · rw [scaleR_at _ _ _ rp.2 hinv, einv]
      rfl
    · rw [en_set _ _ _ (by omega)]
      rfl
  refine ⟨⟨(h.shape.set p rc.1 rc.2).set c (by rw [scaleR_len]; exact rp.1) (scaleR_byte rp.2), ?_, fun i hi j hj => ?_⟩, ?_⟩
  · refine ((h.steps.swap hp hcn).scale (c := c) (G.inv_ne hne)).congr (fun i hi j hj => ?_)
    rw [hen]
    rcases Decidable.em (i = c) with e | e
    · rw [if_pos e, if_pos e]
      rcases Decidable.em (c = p) with e2 | e2
      · simp only [if_pos e2]
        rw [← e2]
      · simp only [if_neg e2, if_true]
    · rw [if_neg e, if_neg e]
      rcases Decidable.em (i = p) with e2 | e2
      · simp only [if_pos e2]
      · simp only [if_neg e2, if_neg e]
  · rw [hen]
    have z1 : en W p j = G.zero := by rw [h.unit p hp j hj, dl_ne (by omega)]
    have z2 : en W c j = G.zero := by rw [h.unit c hcn j hj, dl_ne (by omega)]
    rcases Decidable.em (i = c) with e | e
    · rw [if_pos e, z1, G.zero_mul, e, dl_ne (by omega)]
    · rw [if_neg e]
      rcases Decidable.em (i = p) with e2 | e2
      · rw [if_pos e2, z2, e2, dl_ne (by omega)]
      · rw [if_neg e2]
        exact h.unit i hi j hj
  · rw [hen, if_pos rfl]
    exact G.mul_inv hne
/-- Of the rows ahead of i none but row c has anything in column c. -/
structure Clear (n c i : Nat) (a : Mat) (W : ML) : Prop where
  half : Half n c a W
  one : en W c c = G.one
  none_ : ∀ k, k < i → k < n → k ≠ c → en W k c = G.zero
theorem Clear.skip {n c : Nat} {a : Mat} {W : ML} (h : Clear n c c a W) : Clear n c (c + 1) a W := ⟨h.half, h.one, fun k hk hn hne => h.none_ k (by omega) hn hne⟩
theorem Clear.next {n c i : Nat} {a : Mat} {W : ML} (h : Clear n c i a W) (hc : c < n) (hi : i < n) (hne : i ≠ c) :
    Clear n c (i + 1) a (W.set i (addR (W.getD i []) (scaleR (W.getD c []) (en W i c).n))) := by
  have hl := h.half.shape.high
  have ri := h.half.shape.row hi
  have rc := h.half.shape.row hc
  have hx := (en W i c).lt
  have hen : ∀ k j, j < n + n → en (W.set i (addR (W.getD i []) (scaleR (W.getD c []) (en W i c).n))) k j = if k = i then en W i j + en W c j * en W i c else en W k j := fun k j hj => by
    rw [en_set _ _ _ (by omega)]
    split
    · rw [addR_at _ _ _ (by rw [ri.1]; exact hj) ri.2 (scaleR_byte rc.2), scaleR_at _ _ _ rc.2 hx, G.of_self]
      rfl
    · rfl
  refine ⟨⟨h.half.shape.set i (by rw [addR_len]; exact ri.1) (addR_byte ri.2 (scaleR_byte rc.2)), ?_, fun k hk j hj => ?_⟩, ?_, fun k hk hkn hkc => ?_⟩
  · refine (h.half.steps.add (t := en W i c) hc hne).congr (fun k hk j hj => ?_)
    rw [hen k j hj]
    rcases Decidable.em (k = i) with e | e
    · rw [if_pos e, if_pos e]
    · rw [if_neg e, if_neg e]
  · rw [hen k j (by omega)]
    split
    · rename_i e
      have z : en W c j = G.zero := by rw [h.half.unit c hc j hj, dl_ne (by omega)]
      rw [z, G.zero_mul, G.add_zero, e]
      exact h.half.unit i hi j hj
    · exact h.half.unit k hk j hj
  · rw [hen c c (by omega), if_neg (fun e => hne e.symm)]
    exact h.one
  · rw [hen k c (by omega)]
    split
    · rw [h.one, G.one_mul, G.add_self]
    · rename_i e
      exact h.none_ k (by omega) hkn hkc
theorem Clear.done {n c : Nat} {a : Mat} {W : ML} (h : Clear n c n a W) : Half n (c + 1) a W := by
  refine ⟨h.half.shape, h.half.steps, fun i hi j hj => ?_⟩
  rcases Nat.lt_or_ge j c with h1 | h1
  · exact h.half.unit i hi j h1
  · obtain rfl : j = c := by omega
    rcases Decidable.em (i = j) with e | e
    · rw [e, h.one, dl_eq]
    · rw [h.none_ i hi hi e, dl_ne e]
theorem Half.flat {n c : Nat} {a : Mat} {W : ML} (h : Half n c a W) (hc : c < n) (hz : ∀ i, c ≤ i → i < n → en W i c = G.zero) : ¬ Sharp n a := h.steps.flat hc h.unit hz
/-- The right half, when all columns are One's. -/
def rightL (n : Nat) (W : ML) : ML := W.map fun r => r.drop n
theorem Half.right {n : Nat} {a : Mat} {W : ML} (h : Half n n a W) : Shape (rightL n W) n n ∧ (∀ i, i < n → ∀ j, j < n → mm n (en (rightL n W)) a i j = dl i j) ∧ (∀ i, i < n → ∀ j, j < n → mm n a (en (rightL n W)) i j = dl i j) := by
  have hs : Shape (rightL n W) n n := by
    refine ⟨by simp [rightL, h.shape.high], fun r hr => ?_, fun r hr x hx => ?_⟩
    · simp only [rightL, List.mem_map] at hr
      obtain ⟨q, hq, rfl⟩ := hr
      rw [List.length_drop, h.shape.wide q hq]
      omega
    · simp only [rightL, List.mem_map] at hr
      obtain ⟨q, hq, rfl⟩ := hr
      exact h.shape.byte q hq x (List.mem_of_mem_drop hx)
  have he : ∀ i, i < n → ∀ j, en (rightL n W) i j = en W i (n + j) := fun i hi j => by
    have hl : i < W.length := by rw [h.shape.high]; exact hi
    unfold en rightL
    congr 1
    simp [hl]
  obtain ⟨h1, h2⟩ := h.steps.done h.unit
  refine ⟨hs, fun i hi j hj => ?_, fun i hi j hj => ?_⟩
  · rw [← h1 i hi j hj]
    exact gs_congr (fun l _ => by rw [he i hi l])
  · rw [← h2 i hi j hj]
    exact gs_congr (fun l hl => by rw [he l hl j])
/-- There is one inverse. -/
theorem one_inverse {A B C : ML} {n : Nat} (hB : Shape B n n) (hC : Shape C n n) (h1 : ∀ i, i < n → ∀ j, j < n → mm n (en B) (en A) i j = dl i j) (h2 : ∀ i, i < n → ∀ j, j < n → mm n (en A) (en C) i j = dl i j) : B = C :=
  hB.ext hC (inverse_one h1 h2)
end Go.Proofs.YtpjocddeiehckaaDoor
namespace Go.Proofs.YtpjocddeiehckaaDoor
open Go.RowKit
/-- A slice of slices at A reads as these rows. -/
def IsM (w : World) (A : Option Addr) (xss : ML) : Prop := ∃ vs, RdV w A vs ∧ IsBs w vs xss
theorem IsM.below {w w' : World} {A : Option Addr} {xss : ML} (h : IsM w A xss) (hb : Below w.heap.size w w') : IsM w' A xss := by
  obtain ⟨vs, h1, h2⟩ := h
  exact ⟨vs, h1.below hb, h2.below hb⟩
theorem IsM.drewN {w : World} {A : Option Addr} {xss : ML} (h : IsM w A xss) (d : Nat) : IsM (w.drewN d) A xss := h
theorem IsM.at_ {w : World} {A : Option Addr} {xss : ML} (h : IsM w A xss) (k : Nat) (hk : k < xss.length) :
    ∃ b off A' c, A = some ⟨b, off, none⟩ ∧ w.cell? ⟨b, off + k, none⟩ = some (.slice A' (xss.getD k []).length c) ∧ IsB w (.slice A' (xss.getD k []).length c) (xss.getD k []) ∧ (xss.getD k []).length ≤ c ∧ c ≤ 9223372036854775807 := by
  obtain ⟨vs, h1, h2, h3⟩ := h
  obtain ⟨b, off, e, hc⟩ := h1 (by intro e; rw [e] at h2; simp at h2; omega)
  have hv := h3 k (by omega)
  have ck := hc k (by omega)
  obtain ⟨A', c, e1, i1, l1, m1⟩ := hv.form rfl
  rw [e1] at ck
  exact ⟨b, off, A', c, e, ck, i1, l1, m1⟩
/-- A matrix of the call's own. -/
def OwnMt (w : World) (B : Nat) (v : Value) (xss : ML) : Prop := ∃ vs, OwnV w B v vs ∧ Owns w B vs xss
theorem OwnMt.nil (w : World) (B : Nat) : OwnMt w B (.slice none 0 0) [] := ⟨[], OwnV.nil w B, Owns.nil w B⟩
theorem OwnMt.form {w : World} {B : Nat} {v : Value} {xss : ML} {n : Nat} (h : OwnMt w B v xss) (hn : xss.length = n) : ∃ A c, v = .slice A n c ∧ IsM w A xss ∧ n ≤ 9223372036854775807 := by
  obtain ⟨vs, h1, h2⟩ := h
  obtain ⟨A, c, e, hr, hl⟩ := h1.form (n := n) (by rw [h2.1, hn])
  exact ⟨A, c, e, ⟨vs, hr, h2.isBs⟩, hl⟩
theorem OwnMt.keep {w w' : World} {B : Nat} {v : Value} {xss : ML} (h : OwnMt w B v xss) (hb : Below w.heap.size w w') : OwnMt w' B v xss := by
  obtain ⟨vs, h1, h2⟩ := h
  exact ⟨vs, h1.keep hb, h2.keep hb⟩
theorem OwnMt.more {w : World} {B B' : Nat} {v : Value} {xss : ML} (h : OwnMt w B v xss) (hb : B' ≤ B) : OwnMt w B' v xss := by
  obtain ⟨vs, h1, h2⟩ := h
  exact ⟨vs, h1.more hb, h2.more hb⟩
theorem OwnMt.drewN {w : World} {B : Nat} {v : Value} {xss : ML} (h : OwnMt w B v xss) (d : Nat) : OwnMt (w.drewN d) B v xss := h
theorem OwnMt.isM {w : World} {B : Nat} {A : Option Addr} {n c : Nat} {xss : ML} (h : OwnMt w B (.slice A n c) xss) : IsM w A xss ∧ xss.length = n := by
  obtain ⟨vs, h1, h2⟩ := h
  obtain ⟨A', c', e, hr, hl⟩ := h1.form rfl
  cases e
  exact ⟨⟨vs, hr, h2.isBs⟩, h2.1.symm⟩
/-- In a block of its own: at each place the row's slice, of the call's own. -/
theorem OwnMt.row {w : World} {B g n c : Nat} {xss : ML} (h : OwnMt w B (.slice (some ⟨g, 0, none⟩) n c) xss) (k : Nat) (hk : k < n) :
    ∃ A' c', w.cell? ⟨g, k, none⟩ = some (.slice A' (xss.getD k []).length c') ∧ Own w B (.slice A' (xss.getD k []).length c') (xss.getD k []) ∧ w.frozen? ⟨g, k, none⟩ = false := by
  obtain ⟨vs, h1, h2⟩ := h
  have hl : vs.length = n := by
    obtain ⟨A', c', e, _, _⟩ := h1.form rfl
    cases e
    rfl
  have hv := h2.2 k (by omega)
  obtain ⟨A', c', e, _⟩ := hv.form
  rw [e] at hv
  unfold OwnV at h1
  rw [hl] at h1
  refine ⟨A', c', ?_, hv, World.ownsRow.frozenAt h1 k⟩
  rw [World.ownsRow.cellAt h1 k (by omega), ← e]
  have : k < vs.length := by omega
  simp [this]
theorem Owns.put {w : World} {B : Nat} {vs : List Value} {xss : ML} {v : Value} {xs : List Nat} (h : Owns w B vs xss) (hv : Own w B v xs) (k : Nat) : Owns w B (vs.set k v) (xss.set k xs) := by
  refine ⟨by rw [List.length_set, List.length_set, h.1], fun i hi => ?_⟩
  rw [List.length_set] at hi
  have hi2 : i < xss.length := by rw [← h.1]; exact hi
  rw [List.getD_eq_getElem?_getD, List.getD_eq_getElem?_getD, List.getElem?_set, List.getElem?_set]
  by_cases e : k = i
  · subst e
    rw [if_pos rfl, if_pos rfl, if_pos hi, if_pos hi2]
    exact hv
  · rw [if_neg e, if_neg e, ← List.getD_eq_getElem?_getD, ← List.getD_eq_getElem?_getD]
    exact h.2 i hi
/-- A row of the call's own comes to a place. -/
theorem OwnMt.put {w : World} {B g n c : Nat} {xss : ML} {v : Value} {xs : List Nat} (h : OwnMt w B (.slice (some ⟨g, 0, none⟩) n c) xss) (hv : Own w B v xs) (k : Nat) :
    OwnMt (w.setCell ⟨g, k, none⟩ v) B (.slice (some ⟨g, 0, none⟩) n c) (xss.set k xs) := by
  obtain ⟨vs, h1, h2⟩ := h
  have hl : vs.length = n := by
    obtain ⟨A', c', e, _, _⟩ := h1.form rfl
    cases e
    rfl
  have h1' := h1
  unfold OwnV at h1
  have st := (World.ownsRow.stored (n := n) (by rw [hl] at h1; exact h1) k v)
  refine ⟨vs.set k v, ?_, ?_⟩
  · unfold OwnV
    rw [List.length_set, hl]
    exact st.1
  · have := (h2.put hv k).apart (us := vs) (u := .slice (some ⟨g, 0, none⟩) n c) h1' (w' := w.setCell ⟨g, k, none⟩ v) st.2
    exact this
/-- .. and the slices that were read ahead of it stand. -/
theorem Own.putIn {w : World} {B B' g n c k : Nat} {xss : ML} {u v : Value} {xs : List Nat} (h : Own w B' v xs) (hm : OwnMt w B (.slice (some ⟨g, 0, none⟩) n c) xss) : Own (w.setCell ⟨g, k, none⟩ u) B' v xs := by
  obtain ⟨vs, h1, _⟩ := hm
  exact h.apart h1 (grown_set w g k u)
theorem OwnMt.base {w : World} {B g n c : Nat} {xss : ML} (h : OwnMt w B (.slice (some ⟨g, 0, none⟩) n c) xss) : B ≤ g ∧ g < w.heap.size := by
  obtain ⟨vs, h1, _⟩ := h
  exact World.ownsRow.lt h1 g rfl
theorem OwnMt.below {w : World} {B g n c k : Nat} {xss : ML} {a : World} {u : Value} (h : OwnMt w B (.slice (some ⟨g, 0, none⟩) n c) xss) (hb : Below B a w) : Below B a (w.setCell ⟨g, k, none⟩ u) := hb.setCell h.base.1 _
/-- A row that is appended. -/
theorem OwnMt.snoc {w w' : World} {B : Nat} {v' v : Value} {vs : List Value} {u : Value} {xss : ML} {xs : List Nat} (h1 : OwnV w B v vs) (h2 : Owns w B vs xss) (hu : Own w B u xs) (ho : OwnV w' B v' (vs ++ [u])) (hg : w.grownBy w' v.ownBlock) : OwnMt w' B v' (xss ++ [xs]) :=
  ⟨vs ++ [u], ho, (h2.snoc hu).apart h1 hg⟩
/-- Whether rows are a matrix. -/
def isMt (xss : ML) : Bool := decide (1 ≤ xss.length ∧ xss.length ≤ 64 ∧ 1 ≤ (xss.getD 0 []).length ∧ (xss.getD 0 []).length ≤ 64 ∧ ∀ r ∈ xss, r.length = (xss.getD 0 []).length)
theorem isMt_shape {xss : ML} (h : isMt xss = true) (hb : ∀ r ∈ xss, ∀ x ∈ r, x < 256) : ∃ n m, 1 ≤ n ∧ n ≤ 64 ∧ 1 ≤ m ∧ m ≤ 64 ∧ Shape xss n m := by
  have h := of_decide_eq_true h
  exact ⟨_, _, h.1, h.2.1, h.2.2.1, h.2.2.2.1, ⟨rfl, h.2.2.2.2, hb⟩⟩
theorem Shape.isMt {xss : ML} {n m : Nat} (h : Shape xss n m) (h1 : 1 ≤ n) (h2 : n ≤ 64) (h3 : 1 ≤ m) (h4 : m ≤ 64) : isMt xss = true := by
  have e := (h.row (i := 0) (by omega)).1
  refine decide_eq_true ?_
  rw [e, h.high]
  exact ⟨h1, h2, h3, h4, h.wide⟩
theorem Shape.len_at {xss : ML} {n m : Nat} (h : Shape xss n m) (k : Nat) (hk : k < n) : (xss.getD k []).length = m := (h.row hk).1
theorem mem_getD {xss : ML} {k : Nat} (hk : k < xss.length) : xss.getD k [] ∈ xss := by
  have : xss.getD k [] = xss[k] := by simp [hk]
  rw [this]
  exact List.getElem_mem hk
theorem isMt_no {xss : ML} (h : ¬ (1 ≤ xss.length ∧ xss.length ≤ 64)) : isMt xss = false := decide_eq_false (fun k => h ⟨k.1, k.2.1⟩)
theorem isMt_no2 {xss : ML} (h : ¬ (1 ≤ (xss.getD 0 []).length ∧ (xss.getD 0 []).length ≤ 64)) : isMt xss = false := decide_eq_false (fun k => h ⟨k.2.2.1, k.2.2.2.1⟩)
theorem isMt_is {xss : ML} (h : 1 ≤ xss.length ∧ xss.length ≤ 64) (h2 : 1 ≤ (xss.getD 0 []).length ∧ (xss.getD 0 []).length ≤ 64) : isMt xss = decide (∀ i, i < xss.length → (xss.getD i []).length = (xss.getD 0 []).length) := by
  unfold isMt
  apply decide_eq_decide.2
  constructor
  · intro k i hi
    exact k.2.2.2.2 _ (mem_getD hi)
  · intro k
    refine ⟨h.1, h.2, h2.1, h2.2, fun r hr => ?_⟩
    obtain ⟨i, hi, e⟩ := List.getElem_of_mem hr
    have := k i hi
    rw [show xss.getD i [] = r by simp [hi, e]] at this
    exact this
end Go.Proofs.YtpjocddeiehckaaDoor
namespace Go.Proofs.YtpjocddeiehckaaDoor
open Go.RowKit
def rowV (r m : Nat) : Value := .slice (some ⟨r, 0, none⟩) m m
def cellsG (f : Mat) (i m : Nat) : List Value := (List.range m).map fun j => .int .u8 ((f i j).n : Int)
structure Grid (w : World) (B g n m : Nat) (R : Nat → Nat) (f : Mat) : Prop where
  outer : Blk w B 34 g ((List.range n).map fun i => rowV (R i) m)
  row : ∀ i, i < n → Blk w B 5 (R i) (cellsG f i m)
  apart : ∀ i j, i < n → j < n → R i = R j → i = j
theorem Grid.keep {w w' : World} {B g n m : Nat} {R : Nat → Nat} {f : Mat} (h : Grid w B g n m R f) (hb : Below w.heap.size w w') : Grid w' B g n m R f := ⟨h.outer.keep hb, fun i hi => (h.row i hi).keep hb, h.apart⟩
theorem Grid.more {w : World} {B B' g n m : Nat} {R : Nat → Nat} {f : Mat} (h : Grid w B g n m R f) (hb : B' ≤ B) : Grid w B' g n m R f := ⟨h.outer.more hb, fun i hi => (h.row i hi).more hb, h.apart⟩
theorem Grid.drewN {w : World} {B g n m : Nat} {R : Nat → Nat} {f : Mat} (h : Grid w B g n m R f) (d : Nat) : Grid (w.drewN d) B g n m R f := ⟨h.outer.drewN d, fun i hi => (h.row i hi).drewN d, h.apart⟩
theorem Grid.cell {w : World} {B g n m : Nat} {R : Nat → Nat} {f : Mat} (h : Grid w B g n m R f) (i : Nat) (hi : i < n) : w.cell? ⟨g, i, none⟩ = some (.slice (some ⟨R i, 0, none⟩) m m) := by
  rw [h.outer.cell]
  simp [hi, rowV]
theorem Grid.num {w : World} {B g n m : Nat} {R : Nat → Nat} {f : Mat} (h : Grid w B g n m R f) (i j : Nat) (hi : i < n) (hj : j < m) : w.cell? ⟨R i, j, none⟩ = some (.int .u8 ((f i j).n : Int)) := by
  rw [(h.row i hi).cell]
  simp [hj, cellsG]
theorem Grid.frozen {w : World} {B g n m : Nat} {R : Nat → Nat} {f : Mat} (h : Grid w B g n m R f) (i j : Nat) (hi : i < n) : w.frozen? ⟨R i, j, none⟩ = false := (h.row i hi).frozen j
def upd (f : Mat) (i j : Nat) (x : G) : Mat := fun a b => if a = i ∧ b = j then x else f a b
theorem upd_at (f : Mat) (i j : Nat) (x : G) : upd f i j x i j = x := if_pos ⟨rfl, rfl⟩
theorem upd_row {f : Mat} {i j a b : Nat} {x : G} (h : a ≠ i) : upd f i j x a b = f a b := if_neg (fun e => h e.1)
theorem upd_col {f : Mat} {i j a b : Nat} {x : G} (h : b ≠ j) : upd f i j x a b = f a b := if_neg (fun e => h e.2)
theorem cellsG_set (f : Mat) (i j m : Nat) (x : G) : (cellsG f i m).set j (.int .u8 (x.n : Int)) = cellsG (upd f i j x) i m := by
  apply List.ext_getElem
  · simp [cellsG]
  · intro b h1 h2
    rw [List.getElem_set]
    simp only [cellsG, List.getElem_map, List.getElem_range]
    by_cases e : j = b
    · subst e; rw [if_pos rfl, upd_at]
    · rw [if_neg e, upd_col (fun q => e q.symm)]
theorem cellsG_other (f : Mat) {i a : Nat} (j m : Nat) (x : G) (h : a ≠ i) : cellsG (upd f i j x) a m = cellsG f a m := by
  unfold cellsG
  congr 1
  funext b
  rw [upd_row h]
theorem Grid.ne {w : World} {B g n m : Nat} {R : Nat → Nat} {f : Mat} (h : Grid w B g n m R f) (i : Nat) (hi : i < n) : R i ≠ g := (h.row i hi).ne h.outer (by decide)
theorem Grid.set {w : World} {B g n m : Nat} {R : Nat → Nat} {f : Mat} (h : Grid w B g n m R f) (i j : Nat) (hi : i < n) (x : G) : Grid (w.setCell ⟨R i, j, none⟩ (.int .u8 (x.n : Int))) B g n m R (upd f i j x) := by
  refine ⟨h.outer.kept (grown_set w (R i) j _) (fun e => h.ne i hi (by simpa using e)), fun a ha => ?_, h.apart⟩
  by_cases e : a = i
  · subst e
    rw [← cellsG_set]
    exact (h.row a hi).stored j _
  · rw [cellsG_other f j m x e]
    exact (h.row a ha).kept (grown_set w (R i) j _) (fun q => e (h.apart a i ha hi (by simpa using q.symm)))
theorem Grid.base {w : World} {B g n m : Nat} {R : Nat → Nat} {f : Mat} (h : Grid w B g n m R f) (i : Nat) (hi : i < n) : B ≤ R i := (h.row i hi).1
theorem Grid.below {w a : World} {B g n m : Nat} {R : Nat → Nat} {f : Mat} (h : Grid w B g n m R f) (i j : Nat) (hi : i < n) (u : Value) (hb : Below B a w) : Below B a (w.setCell ⟨R i, j, none⟩ u) := hb.setCell (h.base i hi) _
theorem blk_own {w : World} {B g n : Nat} {xs : List Nat} (h : Blk w B 5 g (xs.map fun x : Nat => Value.int .u8 (x : Int))) (hn : xs.length = n) (h3 : n ≤ 9223372036854775807) : Own w B (.slice (some ⟨g, 0, none⟩) n n) xs := by
  obtain ⟨hb, cur, hg, hc⟩ := h
  have hs : cur.size = n := by rw [← Array.length_toList, hc, List.length_map, hn]
  unfold Own
  refine ⟨by rw [List.length_map, Nat.mul_one], .inr ⟨g, n, cur, by rw [hn], hb, hg, by omega, by unfold maxLen; omega, by omega, ?_⟩⟩
  rw [hc, Nat.mul_one]
  exact List.take_of_length_le (by rw [List.length_map]; exact Nat.le_refl _)
theorem laid_len (n m : Nat) (f : Mat) : (laid n m f).length = n := by simp [laid]
theorem Grid.own {w : World} {B g n m : Nat} {R : Nat → Nat} {f : Mat} (h : Grid w B g n m R f) (h1 : n ≤ 1000000) (h2 : m ≤ 1000000) : OwnMt w B (.slice (some ⟨g, 0, none⟩) n n) (laid n m f) := by
  refine ⟨(List.range n).map fun i => rowV (R i) m, ?_, by rw [laid_len, List.length_map, List.length_range], fun i hi => ?_⟩
  · obtain ⟨hb, cur, hg, hc⟩ := h.outer
    have hs : cur.size = n := by rw [← Array.length_toList, hc, List.length_map, List.length_range]
    unfold OwnV
    rw [List.length_map, List.length_range]
    refine ⟨by rw [List.length_map, List.length_range, Nat.mul_one], .inr ⟨g, n, cur, rfl, hb, hg, by omega, by unfold maxLen; omega, by omega, ?_⟩⟩
    rw [hc, Nat.mul_one]
    exact List.take_of_length_le (by rw [List.length_map, List.length_range]; exact Nat.le_refl _)
  · have hi2 : i < n := by simpa using hi
    have e1 : ((List.range n).map fun i => rowV (R i) m).getD i (.slice none 0 0) = rowV (R i) m := by simp [hi2]
    rw [e1, laid_row f hi2]
    refine blk_own ?_ (by simp) (by omega)
    have := h.row i hi2
    unfold cellsG at this
    rw [List.map_map]
    exact this
theorem Grid.isM {w : World} {B g n m : Nat} {R : Nat → Nat} {f : Mat} (h : Grid w B g n m R f) (h1 : n ≤ 1000000) (h2 : m ≤ 1000000) : IsM w (some ⟨g, 0, none⟩) (laid n m f) := (h.own h1 h2).isM.1
theorem laid_congr {n m : Nat} {f g : Mat} (h : ∀ i, i < n → ∀ j, j < m → f i j = g i j) : laid n m f = laid n m g :=
  (laid_shape n m f).ext (laid_shape n m g) (fun i hi j hj => by rw [laid_at f hi hj, laid_at g hi hj]; exact h i hi j hj)
theorem made_nils {w : World} {B g n : Nat} (h : w.ownsRow B 34 1 (.slice (some ⟨g, 0, none⟩) n n) n (madeCells (Value.slice none 0 0).cells (n * 1)).toList) : Blk w B 34 g (List.replicate n (.slice none 0 0)) := by
  have e : (madeCells (Value.slice none 0 0).cells (n * 1)).toList = List.replicate n (Value.slice none 0 0) := by
    rw [Nat.mul_one]; exact toList_madeCells_one (Value.slice none 0 0) n
  rw [e] at h
  rcases h.2 with ⟨h', _⟩ | ⟨g', cap, cur, h', hb, hg, _, _, h4, h5⟩
  · cases h'
  · simp only [Value.slice.injEq, Option.some.injEq, Addr.mk.injEq, and_true, true_and] at h'
    obtain ⟨rfl, rfl⟩ := h'
    refine ⟨hb, cur, hg, ?_⟩
    rw [← h5, List.take_of_length_le]
    rw [Array.length_toList]
    omega
theorem made_zeros {w : World} {B g n : Nat} (h : w.ownsRow B 5 1 (.slice (some ⟨g, 0, none⟩) n n) n (madeCells (Value.int .u8 0).cells (n * 1)).toList) (i : Nat) : Blk w B 5 g (cellsG (fun _ _ => G.zero) i n) := by
  have e : (madeCells (Value.int .u8 0).cells (n * 1)).toList = List.replicate n (Value.int .u8 0) := by
    rw [Nat.mul_one]; exact toList_madeCells_one (Value.int .u8 0) n
  rw [e] at h
  have e2 : cellsG (fun _ _ => G.zero) i n = List.replicate n (Value.int .u8 0) := by
    apply List.ext_getElem
    · simp [cellsG]
    · intro b h1 h2
      simp [cellsG, G.zero]
  rw [e2]
  rcases h.2 with ⟨h', _⟩ | ⟨g', cap, cur, h', hb, hg, _, _, h4, h5⟩
  · cases h'
  · simp only [Value.slice.injEq, Option.some.injEq, Addr.mk.injEq, and_true, true_and] at h'
    obtain ⟨rfl, rfl⟩ := h'
    refine ⟨hb, cur, hg, ?_⟩
    rw [← h5, List.take_of_length_le]
    rw [Array.length_toList]
    omega
/-- The first k rows stand. -/
structure Begun (w : World) (B g n m k : Nat) (R : Nat → Nat) : Prop where
  outer : Blk w B 34 g ((List.range n).map fun i => if i < k then rowV (R i) m else .slice none 0 0)
  row : ∀ i, i < k → Blk w B 5 (R i) (cellsG (fun _ _ => G.zero) i m)
  apart : ∀ i j, i < k → j < k → R i = R j → i = j
theorem Begun.next {w w' : World} {B g n m k : Nat} {R : Nat → Nat} {b : Nat} (h : Begun w B g n m k R) (hk : k < n) (hb : Blk w' B 5 b (cellsG (fun _ _ => G.zero) k m)) (hw : Below w.heap.size w w') (hn : w.heap.size ≤ b) :
    Begun (w'.setCell ⟨g, k, none⟩ (.slice (some ⟨b, 0, none⟩) m m)) B g n m (k + 1) (fun i => if i = k then b else R i) := by
  have ho := h.outer.keep hw
  have hgb : b ≠ g := hb.ne ho (by decide)
  refine ⟨?_, fun i hi => ?_, fun i j hi hj e => ?_⟩
  · have := ho.stored k (rowV b m)
    have e : ((List.range n).map fun i => if i < k then rowV (R i) m else .slice none 0 0).set k (rowV b m) = (List.range n).map fun i => if i < k + 1 then rowV (if i = k then b else R i) m else .slice none 0 0 := by
      apply List.ext_getElem
      · simp
      · intro i h1 h2
        rw [List.getElem_set]
        simp only [List.getElem_map, List.getElem_range]
        by_cases e : k = i
        · subst e; simp
        · rw [if_neg e]
          by_cases hlt : i < k
          · have : i < k + 1 := by omega
            have ne : i ≠ k := by omega
            simp [hlt, this, ne]
          · have : ¬ i < k + 1 := by omega
            simp [hlt, this]
    rw [e] at this
    exact this
  · by_cases e : i = k
    · subst e
      rw [if_pos rfl]
      exact hb.kept (grown_set w' g i _) (fun q => hgb (by simpa using q.symm))
    · rw [if_neg e]
      have hr := (h.row i (by omega)).keep hw
      exact hr.kept (grown_set w' g k _) (fun q => hr.ne ho (by decide) (by simpa using q.symm))
  · by_cases e1 : i = k
    · by_cases e2 : j = k
      · omega
      · rw [if_pos e1, if_neg e2] at e
        have := (h.row j (by omega)).lt
        omega
    · by_cases e2 : j = k
      · rw [if_neg e1, if_pos e2] at e
        have := (h.row i (by omega)).lt
        omega
      · rw [if_neg e1, if_neg e2] at e
        exact h.apart i j (by omega) (by omega) e
theorem Begun.done {w : World} {B g n m : Nat} {R : Nat → Nat} (h : Begun w B g n m n R) : Grid w B g n m R (fun _ _ => G.zero) := by
  refine ⟨?_, h.row, h.apart⟩
  have := h.outer
  rwa [show ((List.range n).map fun i => if i < n then rowV (R i) m else .slice none 0 0) = (List.range n).map fun i => rowV (R i) m from List.map_congr_left (fun i hi => if_pos (List.mem_range.1 hi))] at this
end Go.Proofs.YtpjocddeiehckaaDoor
namespace Go.Proofs.YtpjocddeiehckaaDoor
open Go.RowKit
theorem wpList_append_mrow {w : World} {ops : Array Oper} {rest : List Oper} {o : Oper} {a : Act} {Q : Exit → Act → World → Prop} (hgd : o.guard = none) (s x : Operand)
    (ho : o.op = .call { callee := .builtin .append, args := #[s, x], argTypes := #[22, 22] })
    (B : Nat) (v : Value) (xss : ML) (hs : a.eval s = v) (hown : OwnMt w B v xss)
    (b : Nat) (u : Value) (xs : List Nat) (hx : a.eval x = .slice (some ⟨b, 0, none⟩) 1 1) (hu : w.cell? ⟨b, 0, none⟩ = some u) (hr : Own w B u xs)
    (hlen : xss.length + 1 ≤ 1099511627776) (hbase : B ≤ w.heap.size)
    (h : ∀ v' w', OwnMt w' B v' (xss ++ [xs]) → Below B w w' → wpList Tryd.prog ops Q rest (a.put o.dst v') w') : wpList Tryd.prog ops Q (o :: rest) a w := by
  obtain ⟨vs, h1, h2⟩ := hown
  obtain ⟨A, c, e, _⟩ := hr.form
  exact wpList_append_row hgd s x ho B v vs hs h1 b u hx hu (by rw [e]; rfl) (by rw [h2.1]; exact hlen) hbase (fun v' w' k1 k2 k3 => h v' w' (OwnMt.snoc h1 h2 hr k1 k3) k2)
theorem cell_newAt (w : World) (u : Value) (e : TypeId) {b : Nat} (h : b = w.heap.size) : (w.alloc (.cells #[u] e)).cell? ⟨b, 0, none⟩ = some u := by
  subst h
  exact cell_new w u e
theorem take_snoc (xss : ML) (k : Nat) (h : k < xss.length) : xss.take (k + 1) = xss.take k ++ [xss.getD k []] := by
  rw [List.take_succ_eq_append_getElem h]
  simp [h]
theorem one_row {n k : Nat} (hk : k < n) : (List.replicate n 0).set k 1 = (oneL n).getD k [] := by
  unfold oneL
  rw [laid_row dl hk]
  apply List.ext_getElem
  · simp
  · intro i h1 h2
    rw [List.getElem_set]
    simp only [List.getElem_replicate, List.getElem_map, List.getElem_range]
    by_cases e : k = i
    · subst e; rw [if_pos rfl, dl_eq]; rfl
    · rw [if_neg e, dl_ne e]; rfl
end Go.Proofs.YtpjocddeiehckaaDoor
namespace Go.Proofs.YtpjocddeiehckaaDoor
open Go.RowKit
/-- The matrix whose rows are another's columns. -/
def turn (f : Mat) : Mat := fun a b => f b a
theorem dot_mm {A : ML} (B : ML) {n p m : Nat} (hA : Shape A n p) (i j : Nat) (hi : i < n) (hj : j < m) :
    dotS (A.getD i []) ((laid m p (turn (en B))).getD j []) p = (mm p (en A) (en B) i j).n := by
  have h2 := (laid_shape m p (turn (en B))).row hj
  rw [dot_gs (hA.row hi).2 h2.2]
  congr 1
  refine gs_congr (fun l hl => ?_)
  show en A i l * en (laid m p (turn (en B))) j l = en A i l * en B l j
  rw [laid_at _ hj hl]
  rfl
theorem Shape.num {xss : ML} {n m : Nat} (h : Shape xss n m) (i j : Nat) (hi : i < n) : (xss.getD i []).getD j 0 = (en xss i j).n := (h.at_ hi j).symm
/-- What is refused. -/
def mulBad (A B : ML) : Prop := isMt A = false ∨ isMt B = false ∨ (A.getD 0 []).length ≠ B.length
theorem take_snocN (xs : List Nat) (k : Nat) (h : k < xs.length) : xs.take (k + 1) = xs.take k ++ [xs.getD k 0] := by
  rw [List.take_succ_eq_append_getElem h]
  simp [h]
theorem isB_one (w : World) (z : Nat) {b : Nat} (h : b = w.heap.size) : IsB (w.alloc (.cells #[.int .u8 (z : Int)] 5)) (.slice (some ⟨b, 0, none⟩) 1 1) [z] := by
  subst h
  exact isB_new w _ [z] rfl (by simp) _ 1 rfl rfl
end Go.Proofs.YtpjocddeiehckaaDoor
namespace Go.Proofs.YtpjocddeiehckaaDoor
theorem getD_at {xs : List Nat} {x : Nat} (h : x < xs.length) : xs.getD x 0 = xs[x] := by simp [h]
/-- All rows, by the data. -/
def word (k : Nat) (X : Mat) : Mat := mm k (codeRow k) X
theorem word_low {k l : Nat} (X : Mat) (h : l < k) (x : Nat) : word k X l x = X l x := by
  show gs k (fun j => codeRow k l j * X j x) = X l x
  rw [gs_congr (g := fun j => dl l j * X j x) (fun j _ => by unfold codeRow; rw [if_pos h])]
  exact gs_dl_left (f := fun j => X j x) h
theorem word_congr {k : Nat} {X Y : Mat} {x : Nat} (h : ∀ j, j < k → X j x = Y j x) (l : Nat) : word k X l x = word k Y l x := gs_congr (fun j hj => by rw [h j hj])
theorem word_add (k : Nat) (X Y : Mat) (l x : Nat) : word k (fun i j => X i j + Y i j) l x = word k X l x + word k Y l x := by
  show gs k (fun j => codeRow k l j * (X j x + Y j x)) = _
  rw [gs_congr (g := fun j => codeRow k l j * X j x + codeRow k l j * Y j x) (fun j _ => G.mul_add _ _ _), gs_add]
  rfl
/-- Two words that agree in k unlike rows are the same. -/
theorem word_agree {k : Nat} {P : List Nat} (hk : P.length = k) (hn : P.Nodup) (hb : ∀ l ∈ P, l < 256) (h256 : k ≤ 256) {X Y : Mat} {x : Nat} (h : ∀ l ∈ P, word k X l x = word k Y l x) : ∀ i, i < k → X i x = Y i x := by
  have hs := code_sharp k P hk hn hb h256
  intro i hi
  have hv : ∀ r, r < k → mv k (fun i j => codeRow k (P.getD i 0) j) (fun j => X j x + Y j x) r = G.zero := fun r hr => by
    have hr2 : r < P.length := by omega
    have e : P.getD r 0 = P[r] := by simp [hr2]
    show gs k (fun j => codeRow k (P.getD r 0) j * (X j x + Y j x)) = G.zero
    rw [gs_congr (g := fun j => codeRow k P[r] j * X j x + codeRow k P[r] j * Y j x) (fun j _ => by rw [e, G.mul_add]), gs_add]
    have := h P[r] (List.getElem_mem hr2)
    have e1 : gs k (fun j => codeRow k P[r] j * X j x) = word k X P[r] x := rfl
    have e2 : gs k (fun j => codeRow k P[r] j * Y j x) = word k Y P[r] x := rfl
    rw [e1, e2, this, G.add_self]
  exact G.eq_of (hs _ hv i hi)
def wordL (k m n : Nat) (X : Mat) : ML := laid (k + m) n (word k X)
theorem wordL_len (k m n : Nat) (X : Mat) : (wordL k m n X).length = k + m := by simp [wordL, laid]
theorem wordL_shape (k m n : Nat) (X : Mat) : Shape (wordL k m n X) (k + m) n := laid_shape _ _ _
theorem wordL_congr {k m n : Nat} {X Y : Mat} (h : ∀ j, j < k → ∀ x, x < n → X j x = Y j x) : wordL k m n X = wordL k m n Y :=
  (laid_shape _ _ _).ext (laid_shape _ _ _) (fun i hi x hx => by
    unfold wordL
    rw [laid_at _ hi hx, laid_at _ hi hx]
    exact word_congr (fun j hj => h j hj x hx) i)
theorem wordL_row {k m n l : Nat} {X Y : Mat} (hl : l < k + m) (h : (wordL k m n X).getD l [] = (wordL k m n Y).getD l []) {x : Nat} (hx : x < n) : word k X l x = word k Y l x := by
  have h1 : en (wordL k m n X) l x = word k X l x := laid_at _ hl hx
  have h2 : en (wordL k m n Y) l x = word k Y l x := laid_at _ hl hx
  rw [← h1, ← h2]
  unfold en
  rw [h]
/-- Words that agree in the rows of P are the same. -/
theorem wordL_agree {k m n : Nat} {P : List Nat} (hk : P.length = k) (hn : P.Nodup) (hb : ∀ l ∈ P, l < k + m) (h256 : k + m ≤ 256) {X Y : Mat} (h : ∀ l ∈ P, (wordL k m n X).getD l [] = (wordL k m n Y).getD l []) : wordL k m n X = wordL k m n Y :=
  wordL_congr (fun j hj x hx => word_agree hk hn (fun l hl => by have := hb l hl; omega) (by omega) (fun l hl => wordL_row (hb l hl) (h l hl) hx) j hj)
/-- The data's rows stand first. -/
theorem wordL_low {k m n : Nat} {D : ML} (h : Shape D k n) : (wordL k m n (en D)).take k = D := by
  have hs := wordL_shape k m n (en D)
  have hl : ((wordL k m n (en D)).take k).length = k := by rw [List.length_take, wordL_len]; omega
  refine (Shape.ext (n := k) (m := n) ⟨hl, fun r hr => hs.wide r (List.mem_of_mem_take hr), fun r hr => hs.byte r (List.mem_of_mem_take hr)⟩ h (fun i hi x hx => ?_))
  have e : en ((wordL k m n (en D)).take k) i x = en (wordL k m n (en D)) i x := by
    unfold en
    congr 1
    simp [hi]
  rw [e]
  unfold wordL
  rw [laid_at _ (by omega) hx, word_low _ hi]
/-! ### which rows are there -/
def present (W : ML) : List Nat := (List.range W.length).filter fun i => !(W.getD i []).isEmpty
theorem present_mem {W : ML} {i : Nat} : i ∈ present W ↔ i < W.length ∧ W.getD i [] ≠ [] := by
  unfold present
  rw [List.mem_filter, List.mem_range]
  simp
theorem present_nodup (W : ML) : (present W).Nodup := List.nodup_range.filter _
/-- The first k of them. -/
def firstP (W : ML) (k : Nat) : List Nat := (present W).take k
theorem firstP_mem {W : ML} {k i : Nat} (h : i ∈ firstP W k) : i < W.length ∧ W.getD i [] ≠ [] := present_mem.1 (List.mem_of_mem_take h)
theorem firstP_nodup (W : ML) (k : Nat) : (firstP W k).Nodup := (present_nodup W).sublist (List.take_sublist k _)
theorem firstP_len {W : ML} {k : Nat} (h : k ≤ (present W).length) : (firstP W k).length = k := by unfold firstP; rw [List.length_take]; omega
/-- Which of the first i rows are there. -/
def filt (W : ML) (i : Nat) : List Nat := (List.range i).filter fun t => !(W.getD t []).isEmpty
theorem filt_all (W : ML) : filt W W.length = present W := rfl
theorem filt_yes {W : ML} {i : Nat} (h : W.getD i [] ≠ []) : filt W (i + 1) = filt W i ++ [i] := by
  unfold filt
  rw [List.range_succ, List.filter_append]
  congr 1
  have e : (W.getD i []).isEmpty = false := by
    cases q : W.getD i [] with
    | nil => exact absurd q h
    | cons a b => rfl
  simp only [List.filter_cons, e, List.filter_nil]
  rfl
theorem filt_no {W : ML} {i : Nat} (h : W.getD i [] = []) : filt W (i + 1) = filt W i := by
  unfold filt
  rw [List.range_succ, List.filter_append]
  have e : (W.getD i []).isEmpty = true := by rw [h]; rfl
  simp only [List.filter_cons, e, List.filter_nil]
  simp
theorem filt_take {W : ML} {i : Nat} : ∀ N, i ≤ N → ∃ r, filt W N = filt W i ++ r
  | 0, h => by
    obtain rfl : i = 0 := by omega
    exact ⟨[], by simp⟩
  | N + 1, h => by
    rcases Nat.lt_or_ge N i with h1 | h1
    · obtain rfl : i = N + 1 := by omega
      exact ⟨[], by simp⟩
    · obtain ⟨r, hr⟩ := filt_take N h1
      rcases Decidable.em (W.getD N [] = []) with e | e
      · exact ⟨r, by rw [filt_no e, hr]⟩
      · exact ⟨r ++ [N], by rw [filt_yes e, hr, List.append_assoc]⟩
theorem filt_first {W : ML} {i k : Nat} (h : i ≤ W.length) (hk : (filt W i).length = k) : firstP W k = filt W i ∧ k ≤ (present W).length := by
  obtain ⟨r, hr⟩ := filt_take W.length h
  rw [filt_all] at hr
  unfold firstP
  rw [hr]
  refine ⟨List.take_left' hk, by rw [List.length_append]; omega⟩
theorem filt_mem {W : ML} {i t : Nat} (h : t ∈ filt W i) : t < i ∧ W.getD t [] ≠ [] := by
  unfold filt at h
  rw [List.mem_filter, List.mem_range] at h
  simpa using h
/-- What Mend answers, where it answers: the word that has the first k rows that are there. -/
def mended (W : ML) (k m n : Nat) (L : ML) : Prop := ∃ X, L = wordL k m n X ∧ ∀ l ∈ firstP W k, L.getD l [] = W.getD l []
theorem mended_once {W : ML} {k m n : Nat} {L L' : ML} (hW : W.length = k + m) (h256 : k + m ≤ 256) (hp : k ≤ (present W).length) (h : mended W k m n L) (h' : mended W k m n L') : L = L' := by
  obtain ⟨X, rfl, hx⟩ := h
  obtain ⟨Y, rfl, hy⟩ := h'
  refine wordL_agree (firstP_len hp) (firstP_nodup W k) (fun l hl => ?_) h256 (fun l hl => by rw [hx l hl, hy l hl])
  rw [← hW]
  exact (firstP_mem hl).1
/-- The word that is made by the inverse of the rows that are there. -/
theorem mended_by {W : ML} {k m n : Nat} {inv hav : Mat} (hW : W.length = k + m) (hs : ∀ r ∈ W, r ≠ [] → r.length = n) (hb : ∀ r ∈ W, ∀ x ∈ r, x < 256) (hp : k ≤ (present W).length)
    (hi : ∀ i, i < k → ∀ j, j < k → mm k (fun i j => codeRow k ((firstP W k).getD i 0) j) inv i j = dl i j) (hh : ∀ i, i < k → ∀ x, x < n → hav i x = en W ((firstP W k).getD i 0) x) :
    mended W k m n (wordL k m n (mm k inv hav)) := by
  refine ⟨_, rfl, fun l hl => ?_⟩
  obtain ⟨i, hi2, e⟩ := List.getElem_of_mem hl
  have hlen := firstP_len hp
  have hik : i < k := by omega
  have hlm := firstP_mem hl
  have hlW : l < k + m := by rw [← hW]; exact hlm.1
  have hmem : W.getD l [] ∈ W := by
    have : W.getD l [] = W[l]'hlm.1 := by simp [hlm.1]
    rw [this]; exact List.getElem_mem _
  have hg : (firstP W k).getD i 0 = l := by simp [hi2, e]
  have hrl := hs _ hmem hlm.2
  have hrow := (wordL_shape k m n (mm k inv hav)).row hlW
  apply List.ext_getElem (by rw [hrow.1, hrl])
  intro x h1 h2
  have hx : x < n := by rw [← hrow.1]; exact h1
  have e1 : en (wordL k m n (mm k inv hav)) l x = en W l x := by
    unfold wordL
    rw [laid_at _ hlW hx]
    have h3 : word k (mm k inv hav) l x = mm k (mm k (fun i j => codeRow k ((firstP W k).getD i 0) j) inv) hav i x := by
      rw [mm_assoc]
      show gs k (fun j => codeRow k l j * _) = gs k (fun j => codeRow k ((firstP W k).getD i 0) j * _)
      rw [hg]
    rw [h3]
    have h4 : mm k (mm k (fun i j => codeRow k ((firstP W k).getD i 0) j) inv) hav i x = mm k dl hav i x := gs_congr (fun j hj => by rw [hi i hik j hj])
    rw [h4, mm_one_left hik, hh i hik x hx, hg]
  have e2 := congrArg G.n e1
  have e3 : (en (wordL k m n (mm k inv hav)) l x).n = ((wordL k m n (mm k inv hav)).getD l []).getD x 0 := (wordL_shape k m n (mm k inv hav)).at_ hlW x
  have e4 : (en W l x).n = (W.getD l []).getD x 0 := G.of_n (getD_lt (hb _ hmem) x)
  rw [e3, e4, getD_at h1, getD_at h2] at e2
  exact e2
/-- Whether all rows fit. -/
def fitting (W : ML) (k m n : Nat) : Prop := ∃ X, W = wordL k m n X
/-- All but row i. -/
def fittingBut (W : ML) (k m n i : Nat) : Prop := ∃ X, ∀ l, l < k + m → l ≠ i → W.getD l [] = (wordL k m n X).getD l []
theorem fitting_mended {W : ML} {k m n : Nat} (h : fitting W k m n) (V : ML) (hV : ∀ l ∈ firstP V k, W.getD l [] = V.getD l []) : mended V k m n W := by
  obtain ⟨X, rfl⟩ := h
  exact ⟨X, rfl, hV⟩
/-- k unlike numbers below k + m, none of them among two. -/
theorem rest_len {k m i j : Nat} (_hm : 2 ≤ m) : k ≤ ((List.range (k + m)).filter fun l => decide (l ≠ i ∧ l ≠ j)).length := by
  have h1 : (List.range (k + m)).length ≤ (((List.range (k + m)).filter fun l => decide (l ≠ i ∧ l ≠ j)) ++ [i, j]).length := nodup_len List.nodup_range (fun x hx => by
    by_cases h : x ≠ i ∧ x ≠ j
    · exact List.mem_append.2 (.inl (List.mem_filter.2 ⟨hx, decide_eq_true h⟩))
    · refine List.mem_append.2 (.inr ?_)
      by_cases e : x = i
      · simp [e]
      · have : x = j := by
          by_cases e2 : x = j
          · exact e2
          · exact absurd ⟨e, e2⟩ h
        simp [this])
  rw [List.length_range, List.length_append] at h1
  have h2 : ([i, j] : List Nat).length = 2 := rfl
  omega
/-- Two words that differ in row j at most, or in rows i and j, are the same, where m is 2 or more. -/
theorem word_two {k m n i j : Nat} (hm : 2 ≤ m) (h256 : k + m ≤ 256) {X Y : Mat} (h : ∀ l, l < k + m → l ≠ i → l ≠ j → (wordL k m n X).getD l [] = (wordL k m n Y).getD l []) : wordL k m n X = wordL k m n Y := by
  have hr := rest_len (k := k) (m := m) (i := i) (j := j) hm
  refine wordL_agree (P := ((List.range (k + m)).filter fun l => decide (l ≠ i ∧ l ≠ j)).take k) (by rw [List.length_take]; omega) ((List.nodup_range.filter _).sublist (List.take_sublist _ _)) (fun l hl => ?_) h256 (fun l hl => ?_)
  · exact List.mem_range.1 (List.mem_filter.1 (List.mem_of_mem_take hl)).1
  · have h2 := List.mem_filter.1 (List.mem_of_mem_take hl)
    have h3 := of_decide_eq_true h2.2
    exact h l (List.mem_range.1 h2.1) h3.1 h3.2
/-- One row of a word is changed: it no longer fits, and no row but that one is wrong. -/
theorem one_wrong {k m n j : Nat} {X : Mat} {r : List Nat} (hm : 2 ≤ m) (h256 : k + m ≤ 256) (hj : j < k + m) (hr : r ≠ (wordL k m n X).getD j []) (i : Nat) :
    fittingBut ((wordL k m n X).set j r) k m n i ↔ i = j := by
  have hset : ∀ l, ((wordL k m n X).set j r).getD l [] = if l = j then r else (wordL k m n X).getD l [] := fun l => set_row r l (by rw [wordL_len]; exact hj)
  constructor
  · rintro ⟨Y, hY⟩
    rcases Decidable.em (i = j) with e | e
    · exact e
    · exfalso
      have hsame : wordL k m n X = wordL k m n Y := word_two (i := i) (j := j) hm h256 (fun l hl h1 h2 => by
        have := hY l hl h1
        rw [hset, if_neg h2] at this
        exact this)
      have := hY j hj (fun q => e q.symm)
      rw [hset, if_pos rfl, ← hsame] at this
      exact hr this
  · rintro rfl
    exact ⟨X, fun l hl hne => by rw [hset, if_neg hne]⟩
theorem one_not {k m n j : Nat} {X : Mat} {r : List Nat} (hm : 2 ≤ m) (h256 : k + m ≤ 256) (hj : j < k + m) (hr : r ≠ (wordL k m n X).getD j []) : ¬ fitting ((wordL k m n X).set j r) k m n := by
  rintro ⟨Y, hY⟩
  have h1 := (one_wrong hm h256 hj hr (j + 1)).1 ⟨Y, fun l hl _ => by rw [hY]⟩
  omega
end Go.Proofs.YtpjocddeiehckaaDoor
namespace Go.Proofs.YtpjocddeiehckaaDoor
open Go.RowKit
theorem code_row {k m i : Nat} (hi : i < m) : (codeL k m).getD (k + i) [] = (List.range k).map fun j => (kx (k + i) j).n := by
  unfold codeL
  rw [laid_row _ (by omega)]
  refine List.map_congr_left (fun j _ => ?_)
  unfold codeRow
  rw [if_neg (by omega)]
theorem code_one {k m : Nat} : (codeL k m).take k = oneL k := by
  apply List.ext_getElem
  · unfold codeL oneL
    rw [List.length_take, laid_len, laid_len]
    omega
  · intro i h1 h2
    rw [List.getElem_take]
    have hi : i < k := by
      rw [List.length_take] at h1
      omega
    have e1 : (codeL k m).getD i [] = (oneL k).getD i [] := by
      unfold codeL oneL
      rw [laid_row _ (by omega), laid_row _ hi]
      refine List.map_congr_left (fun j _ => ?_)
      unfold codeRow
      rw [if_pos hi]
    have g1 : i < (codeL k m).length := by unfold codeL; rw [laid_len]; omega
    simpa [g1, h2] using e1
theorem kx_walk {x j : Nat} (hx : x ≤ 14) (hj : j < x) : bits .xor .i64 (x : Int) (j : Int) = ((x ^^^ j : Nat) : Int) ∧ IntKind.u8.wrap ((x ^^^ j : Nat) : Int) = ((x ^^^ j : Nat) : Int) ∧ x ^^^ j < 256 ∧ x ^^^ j ≠ 0 ∧ (kx x j).n = ginv (x ^^^ j) := by
  have h16 : x ^^^ j < 16 := Nat.xor_lt_two_pow (n := 4) (by omega) (by omega)
  refine ⟨xor_i64 x j (by omega) (by omega), by rw [IntKind.wrap_u8]; omega, by omega, ?_, kx_n (by omega) (by omega)⟩
  intro e
  have : (x ^^^ j) ^^^ j = 0 ^^^ j := by rw [e]
  rw [Nat.xor_assoc, Nat.xor_self, Nat.xor_zero, Nat.zero_xor] at this
  omega
end Go.Proofs.YtpjocddeiehckaaDoor
namespace Go.Proofs.YtpjocddeiehckaaDoor
open Go.RowKit
def oneR (n : Int) : ML := if 1 ≤ n ∧ n ≤ 64 then oneL n.toNat else []
def oneE (n : Int) : Int := if 1 ≤ n ∧ n ≤ 64 then 0 else 1
def codeR (k m : Int) : ML := if k < 1 ∨ m < 0 ∨ 14 < k + m then [] else codeL k.toNat m.toNat
def codeE (k m : Int) : Int := if k < 1 ∨ m < 0 ∨ 14 < k + m then 1 else 0
end Go.Proofs.YtpjocddeiehckaaDoor
namespace Go.Proofs.YtpjocddeiehckaaDoor
open Go.RowKit
set_option maxHeartbeats 800000 in
theorem great_sized (A : Option Addr) (n c : Nat) (xss : ML) (w : World) (hA : IsM w A xss) (hn : xss.length = n) (h63 : n ≤ 9223372036854775807) (h47 : ∀ r ∈ xss, r.length ≤ 140737488351232) :
    Calls Tryd.prog 8 #[.slice A n c] w fun e w' => ∃ t : Bool, e = .returned (.bool t) ∧ (t = false → n ≤ 1500 ∧ ∀ r ∈ xss, r.length ≤ 1500) ∧ w' = w := by
  have HA := hide hA
  have HN := hide hn
  have H47 := hide h47
  clear hA hn h47
  go_enter Tryd.func8, Tryd.ntmps8
  go_wp2_with fail
  go_loop [3, 4] (fun s i => ∃ (k z : Nat), k ≤ n ∧ i = .int .i64 (k : Int) ∧ s = .int .i64 (z : Int) ∧ z ≤ 140737488351232 + 1500 + 1 ∧ k ≤ z ∧ Hid (∀ t, t < k → (xss.getD t []).length ≤ z)) (fun _ i => n - (intOf i).toNat)
  case atStart => exact ⟨0, 0, Nat.zero_le _, rfl, rfl, Nat.zero_le _, Nat.le_refl _, hide (fun t ht => absurd ht (Nat.not_lt_zero t))⟩
  case round =>
    obtain ⟨k, z, hk, rfl, rfl, hz0, hkz, hall⟩ := hrel
    by_cases hlt : k < n
    · by_cases hz : (z : Int) ≤ 1500
      · obtain ⟨b, off, A', c', rfl, ck, -, l1, m1⟩ := HA.out.at_ k (by rw [HN.out]; exact hlt)
        have hm := H47.out _ (mem_getD (xss := xss) (k := k) (by rw [HN.out]; exact hlt))
        obtain ⟨l, hl⟩ : ∃ l, l = (xss.getD k []).length := ⟨_, rfl⟩
        rw [← hl] at ck l1 hm
        have HL := hide hl
        clear hl
        go_wp2_with fail
        go_round
        case rel =>
          refine ⟨k + 1, z + 1 + l, by omega, by go_num, by go_num, by omega, by omega, hide (fun t ht => ?_)⟩
          by_cases e : t = k
          · subst e; rw [← HL.out]; omega
          · have := hall.out t (by omega); omega
        case measure => simp [intOf]; omega
      · have hz2 : decide ((1500 : Int) < (z : Int)) = true := by simp; omega
        have hz3 : (1500 : Int) < (z : Int) := by omega
        go_wp2_with fail
        go_ret
        exact .inr ⟨rfl, rfl⟩
    · obtain rfl : k = n := by omega
      by_cases hz : (z : Int) ≤ 1500
      · have hz2 : ¬ (1500 : Int) < (z : Int) := by omega
        go_wp2_with fail
        go_ret
        refine .inl ⟨rfl, ⟨by omega, fun r hr => ?_⟩, rfl⟩
        obtain ⟨t, ht, rfl⟩ := List.getElem_of_mem hr
        have := hall.out t (by rw [← HN.out]; exact ht)
        have e : xss.getD t [] = xss[t] := by simp [ht]
        rw [e] at this
        omega
      · have hz3 : (1500 : Int) < (z : Int) := by omega
        go_wp2_with fail
        go_ret
        exact .inr ⟨rfl, rfl⟩
end Go.Proofs.YtpjocddeiehckaaDoor
namespace Go.Proofs.YtpjocddeiehckaaDoor
open Go.RowKit
theorem take_ext {xs ys : List Nat} {k : Nat} (hx : k < xs.length) (hy : k < ys.length) (h : xs.take k = ys.take k) (e : xs.getD k 0 = ys.getD k 0) : xs.take (k + 1) = ys.take (k + 1) := by
  rw [List.take_succ_eq_append_getElem hx, List.take_succ_eq_append_getElem hy, h]
  have e1 : xs.getD k 0 = xs[k] := by simp [hx]
  have e2 : ys.getD k 0 = ys[k] := by simp [hy]
  rw [← e1, ← e2, e]
set_option maxHeartbeats 400000 in
theorem same_any (A B : Option Addr) (n m ca cb : Nat) (xs ys : List Nat) (w : World) (hA : Rd w A xs) (hB : Rd w B ys) (hn : n = xs.length) (hm : m = ys.length)
    (ln : n ≤ 9223372036854775807) (lm : m ≤ 9223372036854775807) :
    Calls Tryd.prog 31 #[.slice A n ca, .slice B m cb] w fun e w' => e = .returned (.bool (decide (xs = ys))) ∧ ∃ d, w' = w.drewN d := by
  by_cases hl : n = m
  · subst hl
    have hne0 : ((n : Int) != (n : Int)) = false := by simp
    have HN := hide hn
    have HM := hide hm
    clear hn hm
    go_enter Tryd.func31, Tryd.ntmps31
    go_wp2
    go_loopw [5] (fun i wr => ∃ k d : Nat, k ≤ n ∧ i = .int .i64 (k : Int) ∧ Hid (xs.take k = ys.take k) ∧ wr = w.drewN d) (fun i _ => n - (intOf i).toNat)
    case atStart => exact ⟨0, 0, Nat.zero_le _, rfl, rfl, rfl⟩
    case round =>
      obtain ⟨k, d, hk, rfl, hs, rfl⟩ := hrel
      by_cases hlt : k < n
      · obtain ⟨b1, o1, rfl, c1⟩ := hA (by intro e; rw [HN.out, e] at hlt; simp at hlt)
        obtain ⟨b2, o2, rfl, c2⟩ := hB (by intro e; rw [HM.out, e] at hlt; simp at hlt)
        have k1 := c1 k (by rw [← HN.out]; exact hlt)
        have k2 := c2 k (by rw [← HM.out]; exact hlt)
        obtain ⟨x, hx⟩ : ∃ x, x = xs.getD k 0 := ⟨_, rfl⟩
        obtain ⟨y, hy⟩ : ∃ y, y = ys.getD k 0 := ⟨_, rfl⟩
        rw [← hx] at k1
        rw [← hy] at k2
        have HX := hide hx
        have HY := hide hy
        clear hx hy c1 c2 hA hB
        by_cases hxy : x = y
        · subst hxy
          have hne1 : ((x : Int) != (x : Int)) = false := by simp
          go_wp2
          go_quiet (fail)
          go_wp2
          go_roundw
          case rel => exact ⟨k + 1, _, by omega, by go_num, take_ext (by rw [← HN.out]; exact hlt) (by rw [← HM.out]; exact hlt) hs.out (by rw [← HX.out, ← HY.out]), rfl⟩
          case measure => simp [intOf]; omega
        · have hne1 : ((x : Int) != (y : Int)) = true := by simp; omega
          go_wp2
          go_quiet (fail)
          go_wp2
          go_ret
          refine ⟨ret_bool ?_, _, World.drewN_drewN _ _ _⟩
          symm
          rw [decide_eq_false_iff_not]
          intro e
          exact hxy (by rw [HX.out, HY.out, e])
      · go_wp2
        go_ret
        refine ⟨ret_bool ?_, _, rfl⟩
        symm
        rw [decide_eq_true_eq]
        have e := hs.out
        rw [List.take_of_length_le (by rw [← HN.out]; omega), List.take_of_length_le (by rw [← HM.out]; omega)] at e
        exact e
  · have hne0 : ((n : Int) != (m : Int)) = true := by simp; omega
    have hd : decide (xs = ys) = false := by
      rw [decide_eq_false_iff_not]
      intro e
      exact hl (by rw [hn, hm, e])
    rw [hd]
    clear hd
    have HN := hide hn
    have HM := hide hm
    clear hn hm
    go_enter Tryd.func31, Tryd.ntmps31
    go_wp2
    go_ret
    exact ⟨rfl, 0, rfl⟩
end Go.Proofs.YtpjocddeiehckaaDoor
namespace Go.Proofs.YtpjocddeiehckaaDoor
open Go.RowKit
set_option maxHeartbeats 800000 in
theorem rows_any (A B : Option Addr) (n ca cb : Nat) (vs us : List Value) (xss : List (List Nat)) (w : World) (hA : RdV w A vs) (hB : RdV w B us) (hn : vs.length = n) (hv : IsBs w vs xss) (hu : IsBs w us xss)
    (ln : n ≤ 9223372036854775807) :
    Calls Tryd.prog 11 #[.slice A n ca, .slice B n cb] w fun e w' => e = .returned (.bool true) ∧ ∃ d, w' = w.drewN d := by
  have HN := hide hn
  have HM : Hid (us.length = n) := by unfold Hid; rw [hu.1, ← hv.1, hn]
  have HA := hide hA
  have HB := hide hB
  have HV := hide hv
  have HU := hide hu
  clear hn hA hB hv hu
  have hne0 : ((n : Int) != (n : Int)) = false := by simp
  go_enter Tryd.func11, Tryd.ntmps11
  go_wp2_with fail
  go_loopw [5] (fun i wr => ∃ k d : Nat, k ≤ n ∧ i = .int .i64 (k : Int) ∧ wr = w.drewN d) (fun i _ => n - (intOf i).toNat)
  case atStart => exact ⟨0, 0, Nat.zero_le _, rfl, rfl⟩
  case round =>
    obtain ⟨k, d, hk, rfl, rfl⟩ := hrel
    by_cases hlt : k < n
    · obtain ⟨b1, o1, rfl, c1⟩ := HA.out (by intro e; have := HN.out; rw [e] at this; simp at this; omega)
      obtain ⟨b2, o2, rfl, c2⟩ := HB.out (by intro e; have := HM.out; rw [e] at this; simp at this; omega)
      have k1 := c1 k (by rw [HN.out]; exact hlt)
      have k2 := c2 k (by rw [HM.out]; exact hlt)
      obtain ⟨A1, d1, e1, r1, _, l1, m1⟩ := HV.out.2 k (by rw [HN.out]; exact hlt)
      obtain ⟨A2, d2, e2, r2, _, l2, m2⟩ := HU.out.2 k (by rw [HM.out]; exact hlt)
      rw [e1] at k1
      rw [e2] at k2
      obtain ⟨ys, hys⟩ : ∃ ys, ys = xss.getD k [] := ⟨_, rfl⟩
      rw [← hys] at k1 k2 r1 r2 l1 l2
      obtain ⟨l, hl⟩ : ∃ l, l = ys.length := ⟨_, rfl⟩
      rw [← hl] at k1 k2 l1 l2
      have HL := hide hl
      obtain ⟨W, hW⟩ : ∃ W, W = w.drewN d := ⟨_, rfl⟩
      have k1 : W.cell? ⟨b1, o1 + k, none⟩ = some (.slice A1 l d1) := by rw [hW]; exact k1
      have k2 : W.cell? ⟨b2, o2 + k, none⟩ = some (.slice A2 l d2) := by rw [hW]; exact k2
      have R1 : Hid (Rd W A1 ys) := by rw [hW]; exact r1.drewN d
      have R2 : Hid (Rd W A2 ys) := by rw [hW]; exact r2.drewN d
      rw [← hW]
      have HW := hide hW
      clear c1 c2 e1 e2 hys hl r1 r2 HA HB hW
      go_wp2_with fail
      go_quiet ((go_at_call 31; refine Calls.quiet_of (v := .bool true) ?_; refine (same_any A1 A2 l l d1 d2 ys ys _ (R1.out.drewN _) (R2.out.drewN _) HL.out HL.out (by omega) (by omega)).mono ?_; rintro e w' ⟨rfl, m, rfl⟩; exact ⟨by rw [decide_eq_true rfl], m, rfl⟩))
      go_wp2_with fail
      go_roundw
      case rel => exact ⟨k + 1, d + _, by omega, by go_num, by rw [HW.out, World.drewN_drewN]⟩
      case measure => simp [intOf]; omega
    · go_wp2_with fail
      go_ret
      exact ⟨rfl, _, rfl⟩
end Go.Proofs.YtpjocddeiehckaaDoor
namespace Go.Proofs.YtpjocddeiehckaaDoor
open Go.RowKit
theorem rows_same (A B : Option Addr) (n ca cb : Nat) (xss : ML) (w : World) (hA : IsM w A xss) (hB : IsM w B xss) (hn : xss.length = n) (h63 : n ≤ 9223372036854775807) :
    Calls Tryd.prog 11 #[.slice A n ca, .slice B n cb] w fun e w' => e = .returned (.bool true) ∧ ∃ d, w' = w.drewN d := by
  obtain ⟨vs, h1, h2⟩ := hA
  obtain ⟨us, h3, h4⟩ := hB
  exact rows_any A B n ca cb vs us xss w h1 h3 (by rw [h2.1, hn]) h2 h4 h63
end Go.Proofs.YtpjocddeiehckaaDoor
namespace Go.Proofs.YtpjocddeiehckaaDoor
open Go.RowKit
/-- Nothing but what lies in S, and new blocks, has been turned. -/
structure Turn (S : Nat → Prop) (w w' : World) : Prop where
  os : w'.os = w.os
  tape : w'.tape = w.tape
  output : w'.output = w.output
  size : w.heap.size ≤ w'.heap.size
  block : ∀ k, k < w.heap.size → ¬ S k → w'.heap[k]? = w.heap[k]?
/-- .. and what belongs to the thing is what did, or is new. -/
structure Next (F : Nat → Prop) (w : World) (F' : Nat → Prop) (w' : World) : Prop where
  turn : Turn F w w'
  foot : ∀ k, F' k → F k ∨ w.heap.size ≤ k
theorem Turn.refl (S : Nat → Prop) (w : World) : Turn S w w := ⟨rfl, rfl, rfl, Nat.le_refl _, fun _ _ _ => rfl⟩
theorem Turn.then {S S' : Nat → Prop} {a b c : World} (h : Turn S a b) (k : Turn S' b c) (hs : ∀ i, S' i → S i ∨ a.heap.size ≤ i) : Turn S a c :=
  ⟨k.os.trans h.os, k.tape.trans h.tape, k.output.trans h.output, Nat.le_trans h.size k.size, fun i hi hn => by
    rw [k.block i (Nat.lt_of_lt_of_le hi h.size) (fun e => (hs i e).elim hn (fun q => by omega))]
    exact h.block i hi hn⟩
theorem Turn.trans {S : Nat → Prop} {a b c : World} (h : Turn S a b) (k : Turn S b c) : Turn S a c := h.then k fun _ => .inl
theorem Turn.mono {S S' : Nat → Prop} {a b : World} (h : Turn S a b) (hs : ∀ i, S i → S' i) : Turn S' a b := ⟨h.os, h.tape, h.output, h.size, fun i hi hn => h.block i hi (fun e => hn (hs i e))⟩
theorem Turn.of_below {w w' : World} (S : Nat → Prop) (h : Below w.heap.size w w') : Turn S w w' := ⟨h.os, h.tape, h.output, h.size, fun k hk _ => h.block k hk⟩
theorem Turn.of_grown {w w' : World} {row : Option Nat} (h : w.grownBy w' row) : Turn (fun k => some k = row) w w' := ⟨h.os, h.tape, h.output, h.size, fun k hk hn => h.block k hk hn⟩
theorem Turn.below {S : Nat → Prop} {w w' : World} {B : Nat} (h : Turn S w w') (hB : B ≤ w.heap.size) (hs : ∀ k, S k → B ≤ k) : Below B w w' :=
  ⟨h.os, h.tape, h.output, h.size, fun k hk => h.block k (by omega) (fun e => by have := hs k e; omega)⟩
theorem Turn.drewN {S : Nat → Prop} {w w' : World} (h : Turn S w w') (n : Nat) : Turn S w (w'.drewN n) := ⟨h.os, h.tape, h.output, h.size, h.block⟩
theorem Next.refl (F : Nat → Prop) (w : World) : Next F w F w := ⟨Turn.refl _ _, fun _ => .inl⟩
theorem Next.of_below {w w' : World} (F : Nat → Prop) (h : Below w.heap.size w w') : Next F w F w' := ⟨Turn.of_below _ h, fun _ => .inl⟩
theorem Next.trans {F F' F'' : Nat → Prop} {a b c : World} (h : Next F a F' b) (k : Next F' b F'' c) : Next F a F'' c :=
  ⟨h.turn.then k.turn h.foot, fun i hi => by
    rcases k.foot i hi with h1 | h1
    · exact h.foot i h1
    · exact .inr (Nat.le_trans h.turn.size h1)⟩
theorem Next.drewN {F F' : Nat → Prop} {w w' : World} (h : Next F w F' w') (n : Nat) : Next F w F' (w'.drewN n) := ⟨h.turn.drewN n, h.foot⟩
theorem Next.below {F F' : Nat → Prop} {w w' : World} {B : Nat} (h : Next F w F' w') (hB : B ≤ w.heap.size) (hs : ∀ k, F k → B ≤ k) : Below B w w' := h.turn.below hB hs
theorem Next.up {F F' : Nat → Prop} {w w' : World} {B : Nat} (h : Next F w F' w') (hB : B ≤ w.heap.size) (hs : ∀ k, F k → B ≤ k) : ∀ k, F' k → B ≤ k := fun k hk => by
  rcases h.foot k hk with h1 | h1
  · exact hs k h1
  · omega
/-- A slice lies outside of what may be turned. -/
def Off (S : Nat → Prop) (v : Value) : Prop := ∀ g, v.ownBlock = some g → ¬ S g
theorem Off.nil (S : Nat → Prop) : Off S (.slice none 0 0) := fun _ h => by simp [Value.ownBlock] at h
theorem IsB.turn {S : Nat → Prop} {w w' : World} {v : Value} {xs : List Nat} (h : IsB w v xs) (t : Turn S w w') (ho : Off S v) : IsB w' v xs := by
  obtain ⟨A, c, rfl, hr, hn⟩ := h
  refine ⟨A, c, rfl, fun hne => ?_, hn⟩
  obtain ⟨b, off, rfl, hc⟩ := hr hne
  refine ⟨b, off, rfl, fun i hi => ?_⟩
  have h1 := hc i hi
  have hb := t.block b (cell_lt h1) (ho b rfl)
  rw [← h1]
  exact World.cell?_of_block hb
theorem Own.turn {S : Nat → Prop} {w w' : World} {B : Nat} {v : Value} {xs : List Nat} (h : Own w B v xs) (t : Turn S w w') (ho : Off S v) : Own w' B v xs := by
  unfold Own at h ⊢
  refine ⟨h.1, ?_⟩
  rcases h.2 with hn | ⟨g, cap, cur, hv, h1, h2, r⟩
  · exact .inl hn
  · refine .inr ⟨g, cap, cur, hv, h1, ?_, r⟩
    rw [t.block g (heap_lt h2) (ho g (by rw [hv]; rfl))]
    exact h2
theorem Own.lt {w : World} {B : Nat} {v : Value} {xs : List Nat} (h : Own w B v xs) : ∀ g, v.ownBlock = some g → B ≤ g ∧ g < w.heap.size := World.ownsRow.lt h
theorem Blk.turn {S : Nat → Prop} {w w' : World} {B : Nat} {e : TypeId} {g : Nat} {cs : List Value} (h : Blk w B e g cs) (t : Turn S w w') (ho : ¬ S g) : Blk w' B e g cs := by
  have hl := h.lt
  obtain ⟨hB, cur, hh, rfl⟩ := h
  exact ⟨hB, cur, by rw [t.block g hl ho]; exact hh, rfl⟩
/-- What was made behind a thing lies outside of it. -/
theorem off_new {F : Nat → Prop} {w : World} {v : Value} {xs : List Nat} {w1 : World} (h : Own w1 w.heap.size v xs) (hF : ∀ k, F k → k < w.heap.size) : Off F v := fun g hg hf => by
  have h1 := (h.lt g hg).1
  have h2 := hF g hf
  omega
theorem off_old {F : Nat → Prop} {B : Nat} {v : Value} (hF : ∀ k, F k → B ≤ k) (hv : ∀ g, v.ownBlock = some g → g < B) : Off F v := fun g hg hf => by
  have h1 := hv g hg
  have h2 := hF g hf
  omega
end Go.Proofs.YtpjocddeiehckaaDoor
namespace Go.Proofs.YtpjocddeiehckaaDoor
open Go.RowKit
/-- A row that lies apart from every list of rows whose blocks begin at B. -/
def RowOff (w : World) (B : Nat) (u : Value) (xs : List Nat) : Prop :=
  IsB w u xs ∧ (xs ≠ [] → ∀ b, u.ownBlock = some b → b < B ∨ ∃ cur fr, w.heap[b]? = some (.cells cur 5 fr))
theorem RowOff.nil (w : World) (B : Nat) : RowOff w B (.slice none 0 0) [] := ⟨⟨none, 0, rfl, fun h => absurd rfl h, fun _ => rfl, Nat.zero_le _, by decide⟩, fun h => absurd rfl h⟩
theorem IsB.blockLt {w : World} {u : Value} {xs : List Nat} (h : IsB w u xs) (hne : xs ≠ []) : ∀ b, u.ownBlock = some b → b < w.heap.size := by
  obtain ⟨A, c, rfl, hr, _⟩ := h
  obtain ⟨b, off, rfl, hc⟩ := hr hne
  intro b' e
  have e' : b = b' := by simpa [Value.ownBlock] using e
  subst e'
  exact cell_lt (hc 0 (List.length_pos_iff.2 hne))
theorem IsB.off {w : World} {B : Nat} {u : Value} {xs : List Nat} (h : IsB w u xs) (hB : w.heap.size ≤ B) : RowOff w B u xs :=
  ⟨h, fun hne b e => .inl (Nat.lt_of_lt_of_le (h.blockLt hne b e) hB)⟩
theorem Own.off {w : World} {B B' : Nat} {u : Value} {xs : List Nat} (h : Own w B' u xs) : RowOff w B u xs := by
  refine ⟨h.isB, fun hne b e => .inr ?_⟩
  unfold Own at h
  rcases h.2 with ⟨rfl, _⟩ | ⟨g, cap, cur, rfl, _, hh, _⟩
  · cases e
  · have e' : g = b := by simpa [Value.ownBlock] using e
    subst e'
    exact ⟨_, _, hh⟩
theorem RowOff.keep {w w' : World} {B : Nat} {u : Value} {xs : List Nat} (h : RowOff w B u xs) (hb : Below w.heap.size w w') : RowOff w' B u xs := by
  refine ⟨h.1.keep hb, fun hne b e => ?_⟩
  rcases h.2 hne b e with h1 | ⟨cur, fr, h1⟩
  · exact .inl h1
  · exact .inr ⟨cur, fr, by rw [hb.block b (heap_lt h1)]; exact h1⟩
theorem RowOff.ne {w : World} {B : Nat} {u v : Value} {vs : List Value} {xs : List Nat} (h : RowOff w B u xs) (hv : OwnV w B v vs) (hne : xs ≠ []) : ∀ b, u.ownBlock = some b → v.ownBlock ≠ some b := by
  intro b e q
  rcases h.2 hne b e with h1 | ⟨cur, fr, h1⟩
  · have := (World.ownsRow.lt hv b q).1
    omega
  · rcases hv.2 with ⟨rfl, _⟩ | ⟨g, cap, cur', rfl, _, hh, _⟩
    · cases q
    · have e' : g = b := by simpa [Value.ownBlock] using q
      subst e'
      rw [hh] at h1
      simp only [Option.some.injEq, Obj.cells.injEq] at h1
      exact absurd h1.2.1 (by decide)
theorem RowOff.grown {w w' : World} {B : Nat} {u v : Value} {vs : List Value} {xs : List Nat} (h : RowOff w B u xs) (hv : OwnV w B v vs) (hg : w.grownBy w' v.ownBlock) : RowOff w' B u xs := by
  refine ⟨?_, fun hne b e => ?_⟩
  · rcases xs with _ | ⟨x, r⟩
    · obtain ⟨A, c, e, _, hn⟩ := h.1
      exact ⟨A, c, e, fun q => absurd rfl q, hn⟩
    · refine h.1.turn (S := fun k => some k = v.ownBlock) (Turn.of_grown hg) (fun b e q => ?_)
      exact h.ne hv (by simp) b e q.symm
  · have hlt := h.1.blockLt hne b e
    rcases h.2 hne b e with h1 | ⟨cur, fr, h1⟩
    · exact .inl h1
    · exact .inr ⟨cur, fr, by rw [hg.block b hlt (fun q => h.ne hv hne b e q.symm)]; exact h1⟩
/-- A slice of slices at A reads as these rows, which lie apart. -/
def RowsOff (w : World) (B : Nat) (A : Option Addr) (xss : ML) : Prop := ∃ us, RdV w A us ∧ us.length = xss.length ∧ ∀ i, i < us.length → RowOff w B (us.getD i (.slice none 0 0)) (xss.getD i [])
theorem IsM.off {w : World} {B : Nat} {A : Option Addr} {xss : ML} (h : IsM w A xss) (hB : w.heap.size ≤ B) : RowsOff w B A xss := by
  obtain ⟨vs, h1, h2⟩ := h
  exact ⟨vs, h1, h2.1, fun i hi => (h2.2 i hi).off hB⟩
theorem RowsOff.isM {w : World} {B : Nat} {A : Option Addr} {xss : ML} (h : RowsOff w B A xss) : IsM w A xss := by
  obtain ⟨us, h1, h2, h3⟩ := h
  exact ⟨us, h1, h2, fun i hi => (h3 i hi).1⟩
theorem RowsOff.keep {w w' : World} {B : Nat} {A : Option Addr} {xss : ML} (h : RowsOff w B A xss) (hb : Below w.heap.size w w') : RowsOff w' B A xss := by
  obtain ⟨us, h1, h2, h3⟩ := h
  exact ⟨us, h1.below hb, h2, fun i hi => (h3 i hi).keep hb⟩
/-- A list of rows that the call gathers. -/
def Held (w : World) (B : Nat) (v : Value) (xss : ML) : Prop := ∃ vs, OwnV w B v vs ∧ vs.length = xss.length ∧ ∀ i, i < vs.length → RowOff w B (vs.getD i (.slice none 0 0)) (xss.getD i [])
theorem Held.nil (w : World) (B : Nat) : Held w B (.slice none 0 0) [] := ⟨[], OwnV.nil w B, rfl, fun _ h => absurd h (by simp)⟩
theorem Held.empty (w : World) : Held (w.alloc (.cells #[] 34)) w.heap.size (.slice (some ⟨w.heap.size, 0, none⟩) 0 0) [] :=
  ⟨[], ⟨rfl, .inr ⟨_, 0, #[], rfl, Nat.le_refl _, heap_alloc_new w _, Nat.le_refl _, Nat.zero_le _, rfl, rfl⟩⟩, rfl, fun _ h => absurd h (by simp)⟩
theorem Held.emptyAt {w : World} {B b : Nat} (hB : B ≤ w.heap.size) (hb : b = w.heap.size) : Held (w.alloc (.cells #[] 34)) B (.slice (some ⟨b, 0, none⟩) 0 0) [] := by
  subst hb
  exact ⟨[], ⟨rfl, .inr ⟨_, 0, #[], rfl, hB, heap_alloc_new w _, Nat.le_refl _, Nat.zero_le _, rfl, rfl⟩⟩, rfl, fun _ h => absurd h (by simp)⟩
theorem OwnMt.held {w : World} {B : Nat} {v : Value} {xss : ML} (h : OwnMt w B v xss) : Held w B v xss := by
  obtain ⟨vs, h1, h2⟩ := h
  exact ⟨vs, h1, h2.1, fun i hi => (h2.2 i hi).off⟩
theorem Held.form {w : World} {B : Nat} {v : Value} {xss : ML} {n : Nat} (h : Held w B v xss) (hn : xss.length = n) : ∃ A c, v = .slice A n c ∧ RowsOff w B A xss ∧ n ≤ 9223372036854775807 := by
  obtain ⟨vs, h1, h2, h3⟩ := h
  obtain ⟨A, c, e, hr, hl⟩ := h1.form (n := n) (by rw [h2, hn])
  exact ⟨A, c, e, ⟨vs, hr, h2, h3⟩, hl⟩
theorem Held.keep {w w' : World} {B : Nat} {v : Value} {xss : ML} (h : Held w B v xss) (hb : Below w.heap.size w w') : Held w' B v xss := by
  obtain ⟨vs, h1, h2, h3⟩ := h
  exact ⟨vs, h1.keep hb, h2, fun i hi => (h3 i hi).keep hb⟩
theorem Held.drewN {w : World} {B : Nat} {v : Value} {xss : ML} (h : Held w B v xss) (d : Nat) : Held (w.drewN d) B v xss := h
theorem Held.block {w : World} {B n : Nat} {v : Value} {W : ML} (h : Held w B v W) (hn : W.length = n) (h1 : 1 ≤ n) : ∃ g c, v = .slice (some ⟨g, 0, none⟩) n c := by
  obtain ⟨vs, o1, o2, _⟩ := h
  rcases o1.2 with ⟨q, q2⟩ | ⟨g, cap, cur, q, _⟩
  · omega
  · rw [o2, hn] at q
    exact ⟨g, cap, q⟩
theorem OwnV.nilc {w : World} {B n c : Nat} {A : Option Addr} {vs : List Value} (h : OwnV w B (.slice A n c) vs) : A = none → c = 0 := by
  rintro rfl
  rcases h.2 with ⟨q, _⟩ | ⟨g, cap, cur, q, _⟩
  · cases q; rfl
  · cases q
theorem Held.nilc {w : World} {B n c : Nat} {A : Option Addr} {xss : ML} (h : Held w B (.slice A n c) xss) : A = none → c = 0 := by
  obtain ⟨vs, h1, _⟩ := h
  exact h1.nilc
theorem OwnMt.nilc {w : World} {B n c : Nat} {A : Option Addr} {xss : ML} (h : OwnMt w B (.slice A n c) xss) : A = none → c = 0 := by
  obtain ⟨vs, h1, _⟩ := h
  exact h1.nilc
theorem Held.lens {w : World} {B g n c : Nat} {xss : ML} (h : Held w B (.slice (some ⟨g, 0, none⟩) n c) xss) : xss.length = n := by
  obtain ⟨vs, h1, h2, _⟩ := h
  obtain ⟨A', c', e, _, _⟩ := h1.form rfl
  cases e
  exact h2.symm
/-- At each place a slice that reads as the row. -/
theorem Held.row {w : World} {B g n c : Nat} {xss : ML} (h : Held w B (.slice (some ⟨g, 0, none⟩) n c) xss) (k : Nat) (hk : k < n) :
    ∃ A' c', w.cell? ⟨g, k, none⟩ = some (.slice A' (xss.getD k []).length c') ∧ RowOff w B (.slice A' (xss.getD k []).length c') (xss.getD k []) ∧ w.frozen? ⟨g, k, none⟩ = false ∧ (xss.getD k []).length ≤ c' ∧ c' ≤ 9223372036854775807 := by
  obtain ⟨vs, h1, h2, h3⟩ := h
  have hl : vs.length = n := by
    obtain ⟨A', c', e, _, _⟩ := h1.form rfl
    cases e
    rfl
  have hv := h3 k (by omega)
  obtain ⟨A', c', e, _, l1, l2⟩ := hv.1.form rfl
  rw [e] at hv
  unfold OwnV at h1
  rw [hl] at h1
  refine ⟨A', c', ?_, hv, World.ownsRow.frozenAt h1 k, l1, l2⟩
  rw [World.ownsRow.cellAt h1 k (by omega), ← e]
  have : k < vs.length := by omega
  simp [this]
/-- A row comes to a place. -/
theorem Held.put {w : World} {B g n c : Nat} {xss : ML} {u : Value} {xs : List Nat} (h : Held w B (.slice (some ⟨g, 0, none⟩) n c) xss) (hu : RowOff w B u xs) (k : Nat) :
    Held (w.setCell ⟨g, k, none⟩ u) B (.slice (some ⟨g, 0, none⟩) n c) (xss.set k xs) := by
  obtain ⟨vs, h1, h2, h3⟩ := h
  have hl : vs.length = n := by
    obtain ⟨A', c', e, _, _⟩ := h1.form rfl
    cases e
    rfl
  have h1' := h1
  unfold OwnV at h1
  rw [hl] at h1
  have st := World.ownsRow.stored h1 k u
  refine ⟨vs.set k u, ?_, by rw [List.length_set, List.length_set, h2], fun i hi => ?_⟩
  · unfold OwnV
    rw [List.length_set, hl]
    exact st.1
  · rw [List.length_set] at hi
    have hi2 : i < xss.length := by rw [← h2]; exact hi
    rw [List.getD_eq_getElem?_getD, List.getD_eq_getElem?_getD, List.getElem?_set, List.getElem?_set]
    by_cases e : k = i
    · subst e
      rw [if_pos rfl, if_pos rfl, if_pos hi, if_pos hi2]
      exact hu.grown h1' st.2
    · rw [if_neg e, if_neg e, ← List.getD_eq_getElem?_getD, ← List.getD_eq_getElem?_getD]
      exact (h3 i hi).grown h1' st.2
theorem RowOff.putIn {w : World} {B g n c k : Nat} {xss : ML} {u v : Value} {xs : List Nat} (h : RowOff w B v xs) (hm : Held w B (.slice (some ⟨g, 0, none⟩) n c) xss) : RowOff (w.setCell ⟨g, k, none⟩ u) B v xs := by
  obtain ⟨vs, h1, _⟩ := hm
  exact h.grown h1 (grown_set w g k u)
theorem Held.base {w : World} {B g n c : Nat} {xss : ML} (h : Held w B (.slice (some ⟨g, 0, none⟩) n c) xss) : B ≤ g ∧ g < w.heap.size := by
  obtain ⟨vs, h1, _⟩ := h
  exact World.ownsRow.lt h1 g rfl
theorem Held.below {w : World} {B g n c k : Nat} {xss : ML} {a : World} {u : Value} (h : Held w B (.slice (some ⟨g, 0, none⟩) n c) xss) (hb : Below B a w) : Below B a (w.setCell ⟨g, k, none⟩ u) := hb.setCell h.base.1 _
theorem getD_appV {α : Type} (d : α) (vs us : List α) (i : Nat) : (vs ++ us).getD i d = if i < vs.length then vs.getD i d else us.getD (i - vs.length) d := by
  simp only [List.getD_eq_getElem?_getD]
  by_cases h : i < vs.length
  · rw [if_pos h, List.getElem?_append_left h]
  · rw [if_neg h, List.getElem?_append_right (by omega)]
/-- Rows that come behind. -/
theorem Held.app {w w' : World} {B : Nat} {v v' : Value} {vs us : List Value} {xss yss : ML} (h1 : OwnV w B v vs) (h2 : vs.length = xss.length) (h3 : ∀ i, i < vs.length → RowOff w B (vs.getD i (.slice none 0 0)) (xss.getD i []))
    (u2 : us.length = yss.length) (u3 : ∀ i, i < us.length → RowOff w B (us.getD i (.slice none 0 0)) (yss.getD i [])) (ho : OwnV w' B v' (vs ++ us)) (hg : w.grownBy w' v.ownBlock) : Held w' B v' (xss ++ yss) := by
  refine ⟨vs ++ us, ho, by rw [List.length_append, List.length_append, h2, u2], fun i hi => ?_⟩
  rw [List.length_append] at hi
  rw [getD_appV, getD_appV, ← h2]
  by_cases e : i < vs.length
  · rw [if_pos e, if_pos e]
    exact (h3 i e).grown h1 hg
  · rw [if_neg e, if_neg e]
    exact (u3 _ (by omega)).grown h1 hg
theorem RowOff.one {w : World} {B : Nat} {u : Value} {xs : List Nat} (h : RowOff w B u xs) : u.oneCell' = true := by
  obtain ⟨A, c, rfl, _⟩ := h.1
  rfl
/-- An append of one row. -/
theorem wpList_append_held {w : World} {ops : Array Oper} {rest : List Oper} {o : Oper} {a : Act} {Q : Exit → Act → World → Prop} (hgd : o.guard = none) (s x : Operand)
    (ho : o.op = .call { callee := .builtin .append, args := #[s, x], argTypes := #[22, 22] })
    (B : Nat) (v : Value) (xss : ML) (hs : a.eval s = v) (hown : Held w B v xss)
    (b : Nat) (u : Value) (xs : List Nat) (hx : a.eval x = .slice (some ⟨b, 0, none⟩) 1 1) (hu : w.cell? ⟨b, 0, none⟩ = some u) (hr : RowOff w B u xs)
    (hlen : xss.length + 1 ≤ 1099511627776) (hbase : B ≤ w.heap.size)
    (h : ∀ v' w', Held w' B v' (xss ++ [xs]) → Below B w w' → wpList Tryd.prog ops Q rest (a.put o.dst v') w') : wpList Tryd.prog ops Q (o :: rest) a w := by
  obtain ⟨vs, h1, h2, h3⟩ := hown
  exact wpList_append_row hgd s x ho B v vs hs h1 b u hx hu hr.one (by rw [h2]; exact hlen) hbase (fun v' w' k1 k2 k3 => h v' w' (Held.app h1 h2 h3 (us := [u]) (yss := [xs]) rfl (fun i hi => by
    have : i = 0 := by simp at hi; omega
    subst this
    exact hr) k1 k3) k2)
/-- What an append of many rows leaves, whatever it is that is appended. -/
theorem held_news {w : World} {A : Option Addr} {B : Nat} {yss : ML} {us : List Value} (h1 : RdV w A us) (h3 : ∀ i, i < us.length → RowOff w B (us.getD i (.slice none 0 0)) (yss.getD i [])) (ad : Addr) (hA : A = some ad) :
    (∀ j u, us[j]? = some u → w.cell? (ad.add j) = some u) ∧ ∀ u ∈ us, u.oneCell' = true := by
  subst hA
  refine ⟨fun j u hu => ?_, fun u hu => ?_⟩
  · have hj : j < us.length := by
      rcases Nat.lt_or_ge j us.length with h | h
      · exact h
      · simp [h] at hu
    obtain ⟨b, off, e, hc⟩ := h1 (by intro e; rw [e] at hj; simp at hj)
    cases e
    have := hc j hj
    simp [hj] at hu
    subst hu
    simpa [add_off, hj] using this
  · obtain ⟨i, hi, rfl⟩ := List.getElem_of_mem hu
    have := (h3 i hi).one
    simpa [hi] using this
theorem wpList_append_helds {w : World} {ops : Array Oper} {rest : List Oper} {o : Oper} {a : Act} {Q : Exit → Act → World → Prop} (hgd : o.guard = none) (s x : Operand)
    (ho : o.op = .call { callee := .builtin .append, args := #[s, x], argTypes := #[22, 22] })
    (B : Nat) (v : Value) (xss : ML) (hs : a.eval s = v) (hown : Held w B v xss)
    (A : Option Addr) (m c : Nat) (yss : ML) (hx : a.eval x = .slice A m c) (hr : RowsOff w B A yss) (hm : yss.length = m) (hc : A = none → c = 0)
    (hlen : xss.length + m ≤ 1099511627776) (hbase : B ≤ w.heap.size)
    (h : ∀ v' w', Held w' B v' (xss ++ yss) → Below B w w' → wpList Tryd.prog ops Q rest (a.put o.dst v') w') : wpList Tryd.prog ops Q (o :: rest) a w := by
  obtain ⟨i0, hi, hz0, hz1, hz2⟩ := info_parts Tryd.info_rows
  obtain ⟨vs, h1, h2, h3⟩ := hown
  obtain ⟨us, u1, u2, u3⟩ := hr
  have fin : ∀ v' w', w'.ownsRow B 34 1 v' (vs.length + us.length) (vs ++ us) → w.grownBy w' v.ownBlock → wpList Tryd.prog ops Q rest (a.put o.dst v') w' := by
    intro v' w' hown' hg
    exact h v' w' (Held.app h1 h2 h3 u2 u3 (by unfold OwnV; simpa using hown') hg) ((Below.refl _ _).grown hg hbase fun k hk => (h1.lt k hk).1)
  have h1' := h1
  unfold OwnV at h1'
  have hum : us.length = m := by rw [u2, hm]
  rcases A with _ | ad
  · have hus : us = [] := by
      rcases us with _ | ⟨y, ys⟩
      · rfl
      · obtain ⟨_, _, e, _⟩ := u1 (by simp)
        cases e
    subst hus
    have hm0 : m = 0 := by simpa using hum.symm
    subst hm0
    have hc0 := hc rfl
    subst hc0
    exact wpList_append_own_none hgd s x _ ho B 34 i0 1 Tryd.underlying22 hi v _ _ hs h1' hx (fin v w (by simpa using h1') (World.grownBy.refl w _))
  · obtain ⟨n1, n2⟩ := held_news u1 u3 ad rfl
    subst hum
    exact wpList_append_own w hgd s x _ ho B 34 i0 (.slice none 0 0) 1 24 Tryd.underlying22 hi hz0 hz1 hz2 rfl (by decide) v _ _ hs h1' ad us.length c us hx (by simp) n1 n2 (by rw [h2]; unfold maxLen; omega) (by rw [h2]; omega) hbase (fun v' w' k1 k2 _ => fin v' w' k1 k2)
/-- Another list of rows, in another block. -/
theorem Held.kept {w w' : World} {B : Nat} {v u : Value} {xss yss : ML} (h : Held w B v xss) (hu : Held w B u yss) (hg : w.grownBy w' u.ownBlock) (ha : v.ownBlock = none ∨ v.ownBlock ≠ u.ownBlock) : Held w' B v xss := by
  obtain ⟨vs, h1, h2, h3⟩ := h
  obtain ⟨us, u1, _⟩ := hu
  exact ⟨vs, World.ownsRow.kept h1 hg ha, h2, fun i hi => (h3 i hi).grown u1 hg⟩
theorem Held.lt {w : World} {B : Nat} {v : Value} {xss : ML} (h : Held w B v xss) : ∀ g, v.ownBlock = some g → B ≤ g ∧ g < w.heap.size := by
  obtain ⟨vs, h1, _⟩ := h
  exact World.ownsRow.lt h1
/-- An append of one row, and where it goes. -/
theorem wpList_append_held_at {w : World} {ops : Array Oper} {rest : List Oper} {o : Oper} {a : Act} {Q : Exit → Act → World → Prop} (hgd : o.guard = none) (s x : Operand)
    (ho : o.op = .call { callee := .builtin .append, args := #[s, x], argTypes := #[22, 22] })
    (B : Nat) (v : Value) (xss : ML) (hs : a.eval s = v) (hown : Held w B v xss)
    (b : Nat) (u : Value) (xs : List Nat) (hx : a.eval x = .slice (some ⟨b, 0, none⟩) 1 1) (hu : w.cell? ⟨b, 0, none⟩ = some u) (hr : RowOff w B u xs)
    (hlen : xss.length + 1 ≤ 1099511627776) (hbase : B ≤ w.heap.size)
    (h : ∀ v' w', Held w' B v' (xss ++ [xs]) → Below B w w' → w.grownBy w' v.ownBlock → (v'.ownBlock = v.ownBlock ∨ v'.ownBlock = some w.heap.size) → wpList Tryd.prog ops Q rest (a.put o.dst v') w') : wpList Tryd.prog ops Q (o :: rest) a w := by
  obtain ⟨i0, hi, hz0, hz1, hz2⟩ := info_parts Tryd.info_rows
  obtain ⟨vs, h1, h2, h3⟩ := hown
  have h1' := h1
  unfold OwnV at h1'
  refine wpList_append_own_at w hgd s x _ ho B 34 i0 (.slice none 0 0) 1 24 Tryd.underlying22 hi hz0 hz1 hz2 rfl (by decide) v _ _ hs h1' ⟨b, 0, none⟩ 1 1 [u] hx rfl ?_ ?_ (by rw [h2]; unfold maxLen; omega) (by rw [h2]; omega) hbase ?_
  · intro j z hj
    match j, hj with
    | 0, hj => simp at hj; subst hj; simpa [Addr.add] using hu
  · intro z hz; simp at hz; subst hz; exact hr.one
  · intro v' w' k1 k2 _ k4
    exact h v' w' (Held.app h1 h2 h3 (us := [u]) (yss := [xs]) rfl (fun i hi => by
      have : i = 0 := by simp at hi; omega
      subst this
      exact hr) (by unfold OwnV; simpa using k1) k2) ((Below.refl _ _).grown k2 hbase fun k hk => (h1.lt k hk).1) k2 k4
/-- The same inside a region that draws its order. -/
theorem step_append_held {w : World} {ops : Array Oper} {o : Oper} {a : Act} {K : Act → World → Prop} {Q : Exit → Act → World → Prop} {E : Prop} (hgd : o.guard = none) (s x : Operand)
    (ho : o.op = .call { callee := .builtin .append, args := #[s, x], argTypes := #[22, 22] })
    (B : Nat) (v : Value) (xss : ML) (hs : a.eval s = v) (hown : Held w B v xss)
    (b : Nat) (u : Value) (xs : List Nat) (hx : a.eval x = .slice (some ⟨b, 0, none⟩) 1 1) (hu : w.cell? ⟨b, 0, none⟩ = some u) (hr : RowOff w B u xs)
    (hlen : xss.length + 1 ≤ 1099511627776) (hbase : B ≤ w.heap.size)
    (h : ∀ v' w', Held w' B v' (xss ++ [xs]) → Below B w w' → K (a.put o.dst v') w') : if Region.wanted o (yielded ops a.tmps) = true then Oper.wp Tryd.prog o a w K Q else E := by
  have hw : Region.wanted o (yielded ops a.tmps) = true := by simp [Region.wanted, hgd]
  rw [if_pos hw]
  obtain ⟨i0, hi, hz0, hz1, hz2⟩ := info_parts Tryd.info_rows
  obtain ⟨vs, h1, h2, h3⟩ := hown
  have h1' := h1
  unfold OwnV at h1'
  refine wp_append_own w s x _ ho B 34 i0 (.slice none 0 0) 1 24 Tryd.underlying22 hi hz0 hz1 hz2 rfl (by decide) v _ _ hs h1' ⟨b, 0, none⟩ 1 1 [u] hx rfl ?_ ?_ (by rw [h2]; unfold maxLen; omega) (by rw [h2]; omega) hbase ?_
  · intro j z hj
    match j, hj with
    | 0, hj => simp at hj; subst hj; simpa [Addr.add] using hu
  · intro z hz; simp at hz; subst hz; exact hr.one
  · intro v' w' k1 k2 _
    exact h v' w' (Held.app h1 h2 h3 (us := [u]) (yss := [xs]) rfl (fun i hi => by
      have : i = 0 := by simp at hi; omega
      subst this
      exact hr) (by unfold OwnV; simpa using k1) k2) ((Below.refl _ _).grown k2 hbase fun k hk => (h1.lt k hk).1)
theorem step_append_helds {w : World} {ops : Array Oper} {o : Oper} {a : Act} {K : Act → World → Prop} {Q : Exit → Act → World → Prop} {E : Prop} (hgd : o.guard = none) (s x : Operand)
    (ho : o.op = .call { callee := .builtin .append, args := #[s, x], argTypes := #[22, 22] })
    (B : Nat) (v : Value) (xss : ML) (hs : a.eval s = v) (hown : Held w B v xss)
    (A : Option Addr) (m c : Nat) (yss : ML) (hx : a.eval x = .slice A m c) (hr : RowsOff w B A yss) (hm : yss.length = m) (hc : A = none → c = 0)
    (hlen : xss.length + m ≤ 1099511627776) (hbase : B ≤ w.heap.size)
    (h : ∀ v' w', Held w' B v' (xss ++ yss) → Below B w w' → K (a.put o.dst v') w') : if Region.wanted o (yielded ops a.tmps) = true then Oper.wp Tryd.prog o a w K Q else E := by
  have hw : Region.wanted o (yielded ops a.tmps) = true := by simp [Region.wanted, hgd]
  rw [if_pos hw]
  obtain ⟨i0, hi, hz0, hz1, hz2⟩ := info_parts Tryd.info_rows
  obtain ⟨vs, h1, h2, h3⟩ := hown
  obtain ⟨us, u1, u2, u3⟩ := hr
  have fin : ∀ v' w', w'.ownsRow B 34 1 v' (vs.length + us.length) (vs ++ us) → w.grownBy w' v.ownBlock → K (a.put o.dst v') w' := by
    intro v' w' hown' hg
    exact h v' w' (Held.app h1 h2 h3 u2 u3 (by unfold OwnV; simpa using hown') hg) ((Below.refl _ _).grown hg hbase fun k hk => (h1.lt k hk).1)
  have h1' := h1
  unfold OwnV at h1'
  have hum : us.length = m := by rw [u2, hm]
  rcases A with _ | ad
  · have hus : us = [] := by
      rcases us with _ | ⟨y, ys⟩
      · rfl
      · obtain ⟨_, _, e, _⟩ := u1 (by simp)
        cases e
    subst hus
    have hm0 : m = 0 := by simpa using hum.symm
    subst hm0
    have hc0 := hc rfl
    subst hc0
    have hrun := run_append_owned_none (P := Tryd.prog) (w := w) B 22 o.type 34 i0 1 Tryd.underlying22 hi v _ _ h1'
    unfold Oper.wp
    simp [execOp, ho, resolve, invoke, builtin, hs, hx, hrun, Result.andThen]
    exact fin v w (by simpa using h1') (World.grownBy.refl w _)
  · obtain ⟨n1, n2⟩ := held_news u1 u3 ad rfl
    subst hum
    exact wp_append_own w s x _ ho B 34 i0 (.slice none 0 0) 1 24 Tryd.underlying22 hi hz0 hz1 hz2 rfl (by decide) v _ _ hs h1' ad us.length c us hx (by simp) n1 n2 (by rw [h2]; unfold maxLen; omega) (by rw [h2]; omega) hbase (fun v' w' k1 k2 _ => fin v' w' k1 k2)
end Go.Proofs.YtpjocddeiehckaaDoor
namespace Go.Proofs.YtpjocddeiehckaaDoor
open Go.RowKit
theorem rone_bad (n : Int) (w : World) (h : n < 1 ∨ 64 < n) : Calls Tryd.prog 45 #[.int .i64 n] w fun e w' => e = .returned (.tuple #[.slice none 0 0, .int .i64 1]) ∧ w = w' := by
  by_cases h1 : n < 1
  · clear h
    go_enter Tryd.func45, Tryd.ntmps45
    go_wp2_with fail
    go_ret2
    exact ⟨rfl, rfl⟩
  · have h2 : 64 < n := by omega
    clear h
    go_enter Tryd.func45, Tryd.ntmps45
    go_wp2_with fail
    go_ret2
    exact ⟨rfl, rfl⟩
set_option maxHeartbeats 800000 in
theorem rone_any (n : Nat) (w : World) (h1 : 1 ≤ n) (h2 : n ≤ 64) :
    Calls Tryd.prog 45 #[.int .i64 (n : Int)] w fun e w' => ∃ v, e = .returned (.tuple #[v, .int .i64 0]) ∧ OwnMt w' w.heap.size v (oneL n) ∧ Below w.heap.size w w' := by
  obtain ⟨i1, hj, hy0, hy1, hy2⟩ := info_parts Tryd.info_u8'
  have HJ := hide (And.intro hj (And.intro hy0 (And.intro hy1 hy2)))
  clear hj hy0 hy1 hy2
  have g1 : ¬ (n : Int) < 1 := by omega
  have g2 : ¬ 64 < (n : Int) := by omega
  obtain ⟨B, hB⟩ : ∃ B, B = w.heap.size := ⟨_, rfl⟩
  rw [← hB]
  have HB := hide hB
  clear hB
  go_enter Tryd.func45, Tryd.ntmps45
  go_wp2_with fail
  go_loopw [4, 5] (fun s i wr => ∃ k : Nat, k ≤ n ∧ i = .int .i64 (k : Int) ∧ Hid (OwnMt wr B s ((oneL n).take k)) ∧ Hid (Below B w wr)) (fun _ i _ => n - (intOf i).toNat)
  case atStart => exact ⟨0, Nat.zero_le _, rfl, hide (OwnMt.nil _ _), hide (by rw [HB.out]; exact Below.refl _ _)⟩
  case round =>
    obtain ⟨k, hk, rfl, hown, hbel⟩ := hrel
    by_cases hlt : k < n
    · obtain ⟨hj, hy0, hy1, hy2⟩ := HJ.out
      go_wp2_with (at_make; refine halt ?_)
      refine ⟨?_⟩
      refine wpList_make_full _ rfl (.tmp 18) (.tmp 18) 34 rfl wr.heap.size 5 i1 (.int .u8 0) 1 Tryd.underlying34 hj hy0 hy1 .i64 .i64 n n n rfl rfl rfl rfl (by rw [hy2]; omega) (by unfold maxLen; omega) (Nat.le_refl _) ?_
      intro w3 h3 g3
      clear hj hy0 hy1 hy2
      have hgs : B ≤ wr.heap.size := by rw [HB.out]; exact hbel.out.size
      have o3 := (made_bytes h3).more hgs
      have k3 : Below wr.heap.size wr w3 := (Below.refl _ _).grown g3 (Nat.le_refl _) (by simp)
      have ow3 := hown.out.keep k3
      have kb3 := hbel.out.trans (k3.mono hgs)
      obtain ⟨b, hb⟩ : ∃ b, b = wr.heap.size := ⟨_, rfl⟩
      rw [← hb] at o3 ⊢
      have cs := o3.cells_ (by simp) k
      have c1 := cs.1 hlt
      have c2 := cs.2
      have st := o3.stored' (by simp) k 1
      rw [one_row hlt] at st
      have ST := hide (st.more (B' := B) (Nat.le_refl _))
      have kset := k3.setCell (p := ⟨b, k, none⟩) (Nat.le_of_eq hb.symm) (.int .u8 ((1 : Nat) : Int))
      have OW := hide (hown.out.keep kset)
      have KS := hide (hbel.out.trans (kset.mono hgs))
      clear h3 g3 o3 k3 ow3 kb3 cs st kset hown hbel hgs hb
      rw [show ((1 : Nat) : Int) = 1 from rfl] at ST OW KS
      have HSZ : Hid (w3.heap.size = (w3.setCell ⟨b, k, none⟩ (.int .u8 1)).heap.size) := by unfold Hid; simp
      go_wp2_with (at_builtin; refine halt ?_)
      refine ⟨?_⟩
      have ka := below_alloc (w3.setCell ⟨b, k, none⟩ (.int .u8 1)) (.cells #[.slice (some ⟨b, 0, none⟩) n n] 34)
      have kt := KS.out.trans (ka.mono (by rw [HB.out]; exact KS.out.size))
      refine wpList_append_mrow rfl (.tmp 23) (.tmp 25) rfl B _ _ rfl (OW.out.keep ka) _ _ _ rfl (cell_newAt _ _ _ HSZ.out) (ST.out.keep ka) (by rw [List.length_take]; omega) (by rw [HB.out]; exact kt.size) ?_
      intro v' w4 o4 k4
      rw [← take_snoc _ _ (by unfold oneL; rw [laid_len]; exact hlt)] at o4
      have O4 := hide o4
      have K4 := hide (kt.trans k4)
      clear o4 k4 kt ka OW ST KS HSZ
      go_wp2_with fail
      go_roundw
      case rel => exact ⟨k + 1, by omega, by go_num, O4, K4⟩
      case measure => simp [intOf]; omega
    · obtain rfl : k = n := by omega
      go_wp2_with fail
      go_ret2
      refine ⟨_, rfl, ?_, hbel.out⟩
      have := hown.out
      rwa [List.take_of_length_le (by unfold oneL; rw [laid_len]; exact Nat.le_refl _)] at this
end Go.Proofs.YtpjocddeiehckaaDoor
namespace Go.Proofs.YtpjocddeiehckaaDoor
open Go.RowKit
theorem rcode_bad (k m : Int) (w : World) (_k1 : -9223372036854775808 ≤ k) (_k2 : k ≤ 9223372036854775807) (_m1 : -9223372036854775808 ≤ m) (_m2 : m ≤ 9223372036854775807) (h : k < 1 ∨ m < 0 ∨ 14 < k + m) :
    Calls Tryd.prog 28 #[.int .i64 k, .int .i64 m] w fun e w' => e = .returned (.tuple #[.slice none 0 0, .int .i64 1]) ∧ w = w' := by
  by_cases h1 : k < 1
  · clear h
    go_enter Tryd.func28, Tryd.ntmps28
    go_wp2_with fail
    go_ret2
    exact ⟨rfl, rfl⟩
  · by_cases h2 : m < 0
    · clear h
      go_enter Tryd.func28, Tryd.ntmps28
      go_wp2_with fail
      go_ret2
      exact ⟨rfl, rfl⟩
    · by_cases h4 : 14 < k
      · clear h
        go_enter Tryd.func28, Tryd.ntmps28
        go_wp2_with fail
        go_ret2
        exact ⟨rfl, rfl⟩
      · by_cases h5 : 14 < m
        · clear h
          go_enter Tryd.func28, Tryd.ntmps28
          go_wp2_with fail
          go_ret2
          exact ⟨rfl, rfl⟩
        · have h3 : 14 < k + m := by omega
          clear h
          go_enter Tryd.func28, Tryd.ntmps28
          go_wp2_with fail
          go_ret2
          exact ⟨rfl, rfl⟩
set_option maxHeartbeats 1600000 in
theorem rcode_any (k m : Nat) (w : World) (h1 : 1 ≤ k) (h2 : k + m ≤ 14) :
    Calls Tryd.prog 28 #[.int .i64 (k : Int), .int .i64 (m : Int)] w fun e w' => ∃ v, e = .returned (.tuple #[v, .int .i64 0]) ∧ OwnMt w' w.heap.size v (codeL k m) ∧ Below w.heap.size w w' := by
  have HO := hide (rone_any k w h1 (by omega))
  obtain ⟨B, hB⟩ : ∃ B, B = w.heap.size := ⟨_, rfl⟩
  rw [← hB] at HO ⊢
  have HB := hide hB
  have HL : Hid ((codeL k m).length = k + m) := by unfold Hid codeL; rw [laid_len]
  have HR : Hid (∀ i, i < m → (codeL k m).getD (k + i) [] = (List.range k).map fun j => (kx (k + i) j).n) := fun i hi => code_row hi
  have H0 : Hid ((codeL k m).take (k + 0) = oneL k) := code_one
  obtain ⟨L, hL⟩ : ∃ L, L = codeL k m := ⟨_, rfl⟩
  rw [← hL] at HL HR H0 ⊢
  have g1 : ¬ (k : Int) < 1 := by omega
  have g2 : ¬ (m : Int) < 0 := by omega
  have g3 : ¬ (14 < (k : Int)) := by omega
  have g4 : ¬ (14 < (m : Int)) := by omega
  have g5 : ¬ (14 < (k : Int) + (m : Int)) := by omega
  clear hB hL
  go_enter Tryd.func28, Tryd.ntmps28
  go_wp2_with fail
  refine HO.out.mono ?_
  rintro e w1 ⟨v1, rfl, o1, k1⟩
  have O1 := hide o1
  have K1 := hide k1
  clear o1 k1 HO
  go_wp2_with fail
  go_loopw [6, 8] (fun s i wr => ∃ j : Nat, j ≤ m ∧ i = .int .i64 (j : Int) ∧ Hid (OwnMt wr B s (L.take (k + j))) ∧ Hid (Below B w wr)) (fun _ i _ => m - (intOf i).toNat)
  case atStart => exact ⟨0, Nat.zero_le _, rfl, hide (by rw [H0.out]; exact O1.out), K1⟩
  case round =>
    obtain ⟨j, hj, rfl, hown, hbel⟩ := hrel
    by_cases hlt : j < m
    · have HSZ : Hid (B ≤ wr.heap.size) := by rw [HB.out]; exact hbel.out.size
      have HOW := hide hown.out
      have HBL := hide hbel.out
      clear hown hbel
      rename World => W1
      obtain ⟨T, hT⟩ : ∃ T, T = L.getD (k + j) [] := ⟨_, rfl⟩
      have HT : Hid (T.length = k ∧ ∀ y, y < k → T.getD y 0 = ginv ((k + j) ^^^ y)) := by
        rw [hT, HR.out j hlt]
        refine ⟨by simp, fun y hy => ?_⟩
        simp only [List.getD_eq_getElem?_getD, List.getElem?_map, List.getElem?_range hy, Option.map_some, Option.getD_some]
        exact (kx_walk (by omega) (by omega)).2.2.2.2
      have HTE := hide hT
      clear hT
      go_wp2_with fail
      go_loopw [9, 10] (fun s i w2 => ∃ y : Nat, y ≤ k ∧ i = .int .i64 (y : Int) ∧ Hid (Own w2 W1.heap.size s (T.take y)) ∧ Hid (Below W1.heap.size W1 w2)) (fun _ i _ => k - (intOf i).toNat)
      case atStart => exact ⟨0, Nat.zero_le _, rfl, hide (World.ownsRow_nil _ _ _ _), hide (Below.refl _ _)⟩
      case round =>
        obtain ⟨y, hy, rfl, hown2, hbel2⟩ := hrel
        by_cases hlt2 : y < k
        · obtain ⟨e1, e2, e3, e4, _⟩ := kx_walk (show k + j ≤ 14 by omega) (show y < k + j by omega)
          have hst := take_snocN T y (by rw [HT.out.1]; exact hlt2)
          rw [HT.out.2 y hlt2] at hst
          have hc : ((k + j : Nat) : Int) = (k : Int) + (j : Int) := by omega
          rw [hc] at e1
          obtain ⟨x, hx⟩ : ∃ x, x = (k + j) ^^^ y := ⟨_, rfl⟩
          rw [← hx] at e1 e2 e3 e4 hst
          have HI := hide (rinv_some x wr e3 e4)
          obtain ⟨z, hz⟩ : ∃ z, z = ginv x := ⟨_, rfl⟩
          rw [← hz] at HI hst
          have HST := hide hst
          clear hc hst hx hz e4
          go_wp2_with fail
          refine HI.out.mono ?_
          rintro e w3 ⟨rfl, rfl⟩
          have HGW := hide hbel2.out.size
          go_wp2_with (at_builtin; refine halt ?_)
          refine ⟨?_⟩
          have ka := below_alloc wr (.cells #[.int .u8 (z : Int)] 5)
          refine wpList_append_bytes rfl (.tmp 46) (.tmp 54) rfl W1.heap.size _ _ rfl (hown2.out.keep ka) _ [z] rfl (isB_one wr z rfl) (by rw [List.length_take]; simp; omega) (Nat.le_trans HGW.out ka.size) ?_
          intro v' w7 o7 k7
          rw [← HST.out] at o7
          have O7 := hide o7
          have K7 := hide ((hbel2.out.trans (ka.mono HGW.out)).trans k7)
          clear o7 k7 ka HGW hown2 hbel2
          go_wp2_with fail
          go_roundw
          case rel => exact ⟨y + 1, by omega, by go_num, O7, K7⟩
          case measure => simp [intOf]; omega
        · obtain rfl : y = k := by omega
          rw [List.take_of_length_le (by rw [HT.out.1]; exact Nat.le_refl _)] at hown2
          have KW := hide (HBL.out.trans (hbel2.out.mono HSZ.out))
          have OM := hide (HOW.out.keep hbel2.out)
          have hf := hown2.out.form
          rw [HT.out.1] at hf
          obtain ⟨Ar, cr, rfl, _⟩ := hf
          have OR := hide (hown2.out.more HSZ.out)
          rw [HTE.out] at OR
          clear hown2 hbel2 HOW HBL
          go_wp2_with (at_builtin; refine halt ?_)
          refine ⟨?_⟩
          have HGS : Hid (B ≤ wr.heap.size) := by rw [HB.out]; exact KW.out.size
          have ka := below_alloc wr (.cells #[.slice Ar y cr] 34)
          refine wpList_append_mrow rfl (.tmp 56) (.tmp 58) rfl B _ _ rfl (OM.out.keep ka) _ _ _ rfl (cell_newAt _ _ _ rfl) (OR.out.keep ka) (by rw [List.length_take]; omega) (Nat.le_trans HGS.out ka.size) ?_
          intro v' w7 o7 k7
          rw [← take_snoc _ _ (by rw [HL.out]; omega)] at o7
          have O7 := hide o7
          have K7 := hide ((KW.out.trans (ka.mono HGS.out)).trans k7)
          clear o7 k7 ka HGS OM OR KW
          go_wp2_with fail
          go_roundw
          case rel => exact ⟨j + 1, by omega, by go_num, O7, K7⟩
          case measure => simp [intOf]; omega
    · obtain rfl : j = m := by omega
      go_wp2_with fail
      go_ret2
      refine ⟨_, rfl, ?_, hbel.out⟩
      have := hown.out
      rwa [List.take_of_length_le (by rw [HL.out]; exact Nat.le_refl _)] at this
end Go.Proofs.YtpjocddeiehckaaDoor
namespace Go.Proofs.YtpjocddeiehckaaDoor
open Go.RowKit
theorem rone_all (n : Int) (w : World) : Calls Tryd.prog 45 #[.int .i64 n] w fun e w' => ∃ v, e = .returned (.tuple #[v, .int .i64 (oneE n)]) ∧ OwnMt w' w.heap.size v (oneR n) ∧ Below w.heap.size w w' := by
  unfold oneE oneR
  by_cases h : 1 ≤ n ∧ n ≤ 64
  · rw [if_pos h, if_pos h]
    obtain ⟨k, rfl⟩ : ∃ k : Nat, n = (k : Int) := ⟨n.toNat, by omega⟩
    rw [Int.toNat_natCast]
    exact rone_any k w (by omega) (by omega)
  · rw [if_neg h, if_neg h]
    refine (rone_bad n w (by omega)).mono ?_
    rintro e w' ⟨rfl, rfl⟩
    exact ⟨_, rfl, OwnMt.nil _ _, Below.refl _ _⟩
theorem rcode_all (k m : Int) (w : World) (k1 : -9223372036854775808 ≤ k) (k2 : k ≤ 9223372036854775807) (m1 : -9223372036854775808 ≤ m) (m2 : m ≤ 9223372036854775807) :
    Calls Tryd.prog 28 #[.int .i64 k, .int .i64 m] w fun e w' => ∃ v, e = .returned (.tuple #[v, .int .i64 (codeE k m)]) ∧ OwnMt w' w.heap.size v (codeR k m) ∧ Below w.heap.size w w' := by
  unfold codeE codeR
  by_cases h : k < 1 ∨ m < 0 ∨ 14 < k + m
  · rw [if_pos h, if_pos h]
    refine (rcode_bad k m w k1 k2 m1 m2 h).mono ?_
    rintro e w' ⟨rfl, rfl⟩
    exact ⟨_, rfl, OwnMt.nil _ _, Below.refl _ _⟩
  · rw [if_neg h, if_neg h]
    obtain ⟨a, rfl⟩ : ∃ a : Nat, k = (a : Int) := ⟨k.toNat, by omega⟩
    obtain ⟨b, rfl⟩ : ∃ b : Nat, m = (b : Int) := ⟨m.toNat, by omega⟩
    rw [Int.toNat_natCast, Int.toNat_natCast]
    exact rcode_any a b w (by omega) (by omega)
end Go.Proofs.YtpjocddeiehckaaDoor
namespace Go.Proofs.YtpjocddeiehckaaDoor
open Go.RowKit
theorem step_append_bytes {w : World} {ops : Array Oper} {o : Oper} {a : Act} {K : Act → World → Prop} {Q : Exit → Act → World → Prop} {E : Prop} (hgd : o.guard = none) (s x : Operand)
    (ho : o.op = .call { callee := .builtin .append, args := #[s, x], argTypes := #[34, 34] })
    (B : Nat) (v : Value) (xs : List Nat) (hs : a.eval s = v) (hown : Own w B v xs)
    (u : Value) (ys : List Nat) (hx : a.eval x = u) (hr : IsB w u ys)
    (hlen : xs.length + ys.length ≤ 140737488355328) (hbase : B ≤ w.heap.size)
    (h : ∀ v' w', Own w' B v' (xs ++ ys) → Below B w w' → K (a.put o.dst v') w') : if Region.wanted o (yielded ops a.tmps) = true then Oper.wp Tryd.prog o a w K Q else E := by
  have hw : Region.wanted o (yielded ops a.tmps) = true := by simp [Region.wanted, hgd]
  rw [if_pos hw]
  obtain ⟨i0, hi, hz0, hz1, hz2⟩ := info_parts Tryd.info_u8'
  obtain ⟨A, c, rfl, hr, hn, _⟩ := hr
  have fin : ∀ v' w', w'.ownsRow B 5 1 v' (xs.length + ys.length) ((xs.map fun x : Nat => Value.int .u8 (x : Int)) ++ (ys.map fun x : Nat => Value.int .u8 (x : Int))) → w.grownBy w' v.ownBlock → K (a.put o.dst v') w' := by
    intro v' w' hown' hg
    refine h v' w' (by unfold Own; simpa using hown') ((Below.refl _ _).grown hg hbase fun k hk => (hown.lt k hk).1)
  rcases A with _ | ad
  · have h0 := hn rfl
    subst h0
    have hys : ys = [] := by
      rcases ys with _ | ⟨y, ys⟩
      · rfl
      · obtain ⟨_, _, e, _⟩ := hr (by simp)
        cases e
    subst hys
    have hrun := run_append_owned_none (P := Tryd.prog) (w := w) B 34 o.type 5 i0 1 Tryd.underlying34 hi v _ _ hown
    unfold Oper.wp
    simp [execOp, ho, resolve, invoke, builtin, hs, hx, hrun, Result.andThen]
    exact fin v w (by simpa [Own] using hown) (World.grownBy.refl w _)
  · refine wp_append_own w s x _ ho B 5 i0 (.int .u8 0) 1 1 Tryd.underlying34 hi hz0 hz1 hz2 rfl (by decide) v _ _ hs hown ad ys.length c (ys.map fun x : Nat => Value.int .u8 (x : Int)) hx (by simp) ?_ ?_ (by unfold maxLen; omega) (by omega) hbase (fun v' w' h1 h2 _ => fin v' w' h1 h2)
    · intro j u hu
      have hj : j < ys.length := by
        rcases Nat.lt_or_ge j ys.length with h | h
        · exact h
        · simp [h] at hu
      obtain ⟨b, off, e, hc⟩ := hr (by intro e; rw [e] at hj; simp at hj)
      cases e
      have := hc j hj
      simp [hj] at hu
      subst hu
      simpa [add_off, hj] using this
    · intro u hu
      simp at hu
      obtain ⟨y, _, rfl⟩ := hu
      rfl
end Go.Proofs.YtpjocddeiehckaaDoor
namespace Go.Proofs.YtpjocddeiehckaaDoor
open Go.RowKit
theorem scaleR_part {xs : List Nat} {n : Nat} (h : xs.length = n) (q : Nat) : part (fun j => gmul (xs.getD j 0) q) n n = scaleR xs q := by
  apply List.ext_getElem
  · rw [part_len, scaleR_len, h]
  · intro i h1 h2
    rw [scaleR_len] at h2
    simp only [part, scaleR, List.getElem_map, List.getElem_range]
    rw [if_pos (by omega)]
    simp [h2]
theorem addR_part {xs ys : List Nat} {n : Nat} (h : xs.length = n) : part (fun j => xs.getD j 0 ^^^ ys.getD j 0) n n = addR xs ys := by
  apply List.ext_getElem
  · rw [part_len, addR_len, h]
  · intro i h1 h2
    rw [addR_len] at h2
    simp only [part, addR, List.getElem_map, List.getElem_range]
    rw [if_pos (by omega)]
theorem Clear.none {n c i : Nat} {a : Mat} {W : ML} (h : Clear n c i a W) (hz : i = c ∨ en W i c = G.zero) : Clear n c (i + 1) a W := ⟨h.half, h.one, fun k hk hn hne => by
  rcases hz with e | e
  · exact h.none_ k (by omega) hn hne
  · by_cases q : k = i
    · rw [q]; exact e
    · exact h.none_ k (by omega) hn hne⟩
/-- Two rows are exchanged. -/
def swapL (W : ML) (p c : Nat) : ML := (W.set p (W.getD c [])).set c (W.getD p [])
theorem swap_shape {W : ML} {n m p c : Nat} (h : Shape W n m) (hp : p < n) (hc : c < n) : Shape (swapL W p c) n m := (h.set p (h.row hc).1 (h.row hc).2).set c (h.row hp).1 (h.row hp).2
theorem swap_row {W : ML} {n m p c : Nat} (h : Shape W n m) (hc : c < n) : (swapL W p c).getD c [] = W.getD p [] := by
  unfold swapL
  rw [set_row _ _ (by rw [List.length_set, h.high]; exact hc), if_pos rfl]
theorem swap_en {W : ML} {n m p c : Nat} (h : Shape W n m) (hc : c < n) : en (swapL W p c) c c = en W p c := by
  unfold en
  rw [swap_row h hc]
theorem Half.clear {n c p : Nat} {a : Mat} {W : ML} (h : Half n c a W) (hc : c ≤ p) (hp : p < n) (hne : en W p c ≠ G.zero) :
    Clear n c 0 a ((swapL W p c).set c (scaleR ((swapL W p c).getD c []) (ginv (en (swapL W p c) c c).n))) := by
  have hcn : c < n := by omega
  rw [swap_row h.shape hcn, swap_en h.shape hcn]
  unfold swapL
  rw [List.set_set]
  have := h.pivot hc hp hne
  exact ⟨this.1, this.2, fun k hk => absurd hk (Nat.not_lt_zero k)⟩
theorem OwnMt.rowAt {w : World} {B g n c m : Nat} {W : ML} (h : OwnMt w B (.slice (some ⟨g, 0, none⟩) n c) W) (hs : Shape W n m) (hm : 1 ≤ m) (k : Nat) (hk : k < n) :
    ∃ b c', w.cell? ⟨g, k, none⟩ = some (.slice (some ⟨b, 0, none⟩) m c') ∧ Own w B (.slice (some ⟨b, 0, none⟩) m c') (W.getD k []) ∧ w.frozen? ⟨g, k, none⟩ = false ∧ b ≠ g ∧ m ≤ c' ∧ c' ≤ 9223372036854775807 := by
  obtain ⟨A', c', h1, h2, h3⟩ := h.row k hk
  rw [hs.len_at k hk] at h1 h2
  obtain ⟨b, c2, e, _, hl, hm2, hcell, _⟩ := h2.at_ (n := m) (hs.len_at k hk) hm
  cases e
  refine ⟨b, c', h1, h2, h3, ?_, hl, hm2⟩
  rintro rfl
  obtain ⟨vs, o1, _⟩ := h
  rcases h2.2 with ⟨q, _⟩ | ⟨g1, _, cur1, q, _, hh, _⟩
  · cases q
  · cases q
    rcases o1.2 with ⟨q, _⟩ | ⟨g2, _, cur2, q, _, hh', _⟩
    · cases q
    · cases q
      rw [hh] at hh'
      simp only [Option.some.injEq, Obj.cells.injEq] at hh'
      exact absurd hh'.2.1 (by decide)
/-- A matrix and One side by side. -/
def besides (n : Nat) (f : Mat) : Mat := fun i j => if j < n then f i j else dl i (j - n)
theorem besides_half {A : ML} {n : Nat} : Half n 0 (en A) (laid n (n + n) (besides n (en A))) := by
  refine ⟨laid_shape _ _ _, steps_start n _ _ (fun i hi j hj => ?_) (fun i hi l hl => ?_), fun _ _ j hj => absurd hj (Nat.not_lt_zero j)⟩
  · rw [laid_at _ hi (by omega)]
    unfold besides
    rw [if_pos hj]
  · rw [laid_at _ hi (by omega)]
    unfold besides
    rw [if_neg (by omega), show n + l - n = l by omega]
theorem IsB.tailAt {w : World} {b off n c : Nat} {xs : List Nat} (h : IsB w (.slice (some ⟨b, off, none⟩) n c) xs) (k : Nat) (hk : k ≤ n) : Rd w (some ⟨b, off + k, none⟩) (xs.drop k) := by
  obtain ⟨A, c', e, r, _⟩ := h
  cases e
  intro hne
  obtain ⟨b2, off2, e, hc⟩ := r (by intro q; rw [q] at hne; simp at hne)
  cases e
  refine ⟨b, off + k, rfl, fun i hi => ?_⟩
  rw [List.length_drop] at hi
  have := hc (k + i) (by omega)
  rw [show off + k + i = off + (k + i) by omega, this]
  congr 2
  simp
/-- The second half of rows as a function. -/
def secondG (n : Nat) (W : ML) : Mat := fun i j => en W i (n + j)
theorem second_right {n m : Nat} {W : ML} (h : Shape W n m) (hm : m = n + n) : laid n n (secondG n W) = rightL n W := by
  have hs : Shape (rightL n W) n n := by
    refine ⟨by simp [rightL, h.high], fun r hr => ?_, fun r hr x hx => ?_⟩
    · simp only [rightL, List.mem_map] at hr
      obtain ⟨q, hq, rfl⟩ := hr
      rw [List.length_drop, h.wide q hq]
      omega
    · simp only [rightL, List.mem_map] at hr
      obtain ⟨q, hq, rfl⟩ := hr
      exact h.byte q hq x (List.mem_of_mem_drop hx)
  refine (laid_shape n n _).ext hs (fun i hi j hj => ?_)
  rw [laid_at _ hi hj]
  have hl : i < W.length := by rw [h.high]; exact hi
  unfold secondG en rightL
  congr 1
  simp [hl]
/-- What is answered: it is refused, there is none, or that. -/
def invAns (A : ML) (L : ML) (e : Int) : Prop :=
  (e = 1 ∧ L = [] ∧ ¬ (isMt A = true ∧ (A.getD 0 []).length = A.length)) ∨
  (isMt A = true ∧ (A.getD 0 []).length = A.length ∧ ((e = 18 ∧ L = [] ∧ ¬ Sharp A.length (en A)) ∨
    (e = 0 ∧ Shape L A.length A.length ∧ (∀ i, i < A.length → ∀ j, j < A.length → mm A.length (en L) (en A) i j = dl i j) ∧ (∀ i, i < A.length → ∀ j, j < A.length → mm A.length (en A) (en L) i j = dl i j))))
theorem inv_once {A L L' : ML} {e e' : Int} (h : invAns A L e) (k : invAns A L' e') : L = L' ∧ e = e' := by
  rcases h with ⟨rfl, rfl, h⟩ | ⟨h1, h2, h⟩
  · rcases k with ⟨rfl, rfl, _⟩ | ⟨k1, k2, _⟩
    · exact ⟨rfl, rfl⟩
    · exact absurd ⟨k1, k2⟩ h
  · rcases k with ⟨_, _, k⟩ | ⟨_, _, k⟩
    · exact absurd ⟨h1, h2⟩ k
    · rcases h with ⟨rfl, rfl, h⟩ | ⟨rfl, s1, h3, h4⟩
      · rcases k with ⟨rfl, rfl, _⟩ | ⟨_, _, k3, _⟩
        · exact ⟨rfl, rfl⟩
        · exact absurd (sharp_of_left k3) h
      · rcases k with ⟨_, _, k⟩ | ⟨rfl, s2, k3, k4⟩
        · exact absurd (sharp_of_left h3) k
        · exact ⟨one_inverse s1 s2 h3 k4, rfl⟩
theorem inv_zero {A L : ML} (h : invAns A L 0) : isMt A = true ∧ (A.getD 0 []).length = A.length ∧ Shape L A.length A.length ∧ (∀ i, i < A.length → ∀ j, j < A.length → mm A.length (en L) (en A) i j = dl i j) ∧ (∀ i, i < A.length → ∀ j, j < A.length → mm A.length (en A) (en L) i j = dl i j) := by
  rcases h with ⟨h, _⟩ | ⟨h1, h2, ⟨h, _⟩ | ⟨_, h3⟩⟩
  · cases h
  · cases h
  · exact ⟨h1, h2, h3⟩
theorem scaleR_get {xs : List Nat} (q k : Nat) (hk : k < xs.length) : (scaleR xs q).getD k 0 = gmul (xs.getD k 0) q := by
  simp [scaleR, hk]
theorem addR_get {xs : List Nat} (ys : List Nat) (k : Nat) (hk : k < xs.length) : (addR xs ys).getD k 0 = xs.getD k 0 ^^^ ys.getD k 0 := by
  simp [addR, hk]
theorem OwnMt.block {w : World} {B n : Nat} {v : Value} {W : ML} (h : OwnMt w B v W) (hn : W.length = n) (h1 : 1 ≤ n) : ∃ g c, v = .slice (some ⟨g, 0, none⟩) n c := by
  obtain ⟨vs, o1, o2⟩ := h
  rcases o1.2 with ⟨q, q2⟩ | ⟨g, cap, cur, q, _⟩
  · have := o2.1
    omega
  · rw [o2.1, hn] at q
    exact ⟨g, cap, q⟩
theorem step_append_mrow {w : World} {ops : Array Oper} {o : Oper} {a : Act} {K : Act → World → Prop} {Q : Exit → Act → World → Prop} {E : Prop} (hgd : o.guard = none) (s x : Operand)
    (ho : o.op = .call { callee := .builtin .append, args := #[s, x], argTypes := #[22, 22] })
    (B : Nat) (v : Value) (xss : ML) (hs : a.eval s = v) (hown : OwnMt w B v xss)
    (b : Nat) (u : Value) (xs : List Nat) (hx : a.eval x = .slice (some ⟨b, 0, none⟩) 1 1) (hu : w.cell? ⟨b, 0, none⟩ = some u) (hr : Own w B u xs)
    (hlen : xss.length + 1 ≤ 1099511627776) (hbase : B ≤ w.heap.size)
    (h : ∀ v' w', OwnMt w' B v' (xss ++ [xs]) → Below B w w' → K (a.put o.dst v') w') : if Region.wanted o (yielded ops a.tmps) = true then Oper.wp Tryd.prog o a w K Q else E := by
  have hw : Region.wanted o (yielded ops a.tmps) = true := by simp [Region.wanted, hgd]
  rw [if_pos hw]
  obtain ⟨i0, hi, hz0, hz1, hz2⟩ := info_parts Tryd.info_rows
  obtain ⟨vs, h1, h2⟩ := hown
  obtain ⟨A, c, e, _⟩ := hr.form
  have h1' := h1
  unfold OwnV at h1
  refine wp_append_own w s x _ ho B 34 i0 (.slice none 0 0) 1 24 Tryd.underlying22 hi hz0 hz1 hz2 rfl (by decide) v _ _ hs h1 ⟨b, 0, none⟩ 1 1 [u] hx rfl ?_ ?_ (by rw [h2.1]; unfold maxLen; omega) (by rw [h2.1]; omega) hbase ?_
  · intro j z hj
    match j, hj with
    | 0, hj => simp at hj; subst hj; simpa [Addr.add] using hu
  · intro z hz; simp at hz; subst hz; rw [e]; rfl
  · intro v' w' k1 k2 _
    exact h v' w' (OwnMt.snoc h1' h2 hr (by unfold OwnV; simpa using k1) k2) ((Below.refl _ _).grown k2 hbase fun k hk => (h1.lt k hk).1)
theorem own_empty7 {W : World} {B : Nat} (hB : B ≤ W.heap.size) (b : Nat) (hb : b = W.heap.size) : Own (W.alloc (.cells #[] 5)) B (.slice (some ⟨b, 0, none⟩) 0 0) [] := by
  subst hb
  exact (own_lit W #[] [] rfl (by decide)).more hB
theorem IsBs.snoc {w : World} {vs : List Value} {xss : ML} {v : Value} {xs : List Nat} (h : IsBs w vs xss) (hv : IsB w v xs) : IsBs w (vs ++ [v]) (xss ++ [xs]) := by
  refine ⟨by rw [List.length_append, List.length_append, h.1]; rfl, fun i hi => ?_⟩
  rw [List.length_append] at hi
  simp only [List.getD_eq_getElem?_getD]
  by_cases hlt : i < vs.length
  · rw [List.getElem?_append_left hlt, List.getElem?_append_left (by rw [← h.1]; exact hlt), ← List.getD_eq_getElem?_getD, ← List.getD_eq_getElem?_getD]
    exact h.2 i hlt
  · have e : i = vs.length := by simp at hi; omega
    subst e
    rw [List.getElem?_append_right (Nat.le_refl _), List.getElem?_append_right (by rw [h.1]; exact Nat.le_refl _), h.1, Nat.sub_self]
    exact hv
theorem IsB.tailIs {w : World} {b off n c : Nat} {xs : List Nat} (h : IsB w (.slice (some ⟨b, off, none⟩) n c) xs) (k : Nat) (hk : k ≤ n) : IsB w (.slice (some ⟨b, off + k, none⟩) (n - k) (c - k)) (xs.drop k) := by
  have ht := h.tailAt k hk
  obtain ⟨A, c', e, r, _, l1, l2⟩ := h
  cases e
  exact ⟨_, _, by rw [List.length_drop], ht, (fun q => by cases q), by rw [List.length_drop]; omega, by omega⟩
/-- Rows beside One's, row by row. -/
theorem besides_row {A : ML} {n k : Nat} (hA : Shape A n n) (hk : k < n) : (laid n (n + n) (besides n (en A))).getD k [] = A.getD k [] ++ (oneL n).getD k [] := by
  have hrow := hA.row hk
  have ho := (laid_shape n n dl).row hk
  unfold oneL
  rw [laid_row _ hk, laid_row _ hk]
  apply List.ext_getElem
  · rw [List.length_map, List.length_range, List.length_append, hrow.1, List.length_map, List.length_range]
  · intro j h1 h2
    simp only [List.getElem_map, List.getElem_range]
    unfold besides
    by_cases e : j < n
    · rw [if_pos e, List.getElem_append_left (by rw [hrow.1]; exact e), ← hA.num k j hk]
      have : j < (A.getD k []).length := by rw [hrow.1]; exact e
      simp only [List.getD_eq_getElem?_getD] at this ⊢
      simp [this]
    · rw [if_neg e, List.getElem_append_right (by rw [hrow.1]; omega)]
      simp only [List.getElem_map, List.getElem_range, hrow.1]
end Go.Proofs.YtpjocddeiehckaaDoor
namespace Go.Proofs.YtpjocddeiehckaaDoor
open Go.RowKit
set_option maxHeartbeats 800000 in
theorem ris_any (A : Option Addr) (n c : Nat) (xss : ML) (w : World) (hA : IsM w A xss) (hn : xss.length = n) (h63 : n ≤ 9223372036854775807) :
    Calls Tryd.prog 47 #[.slice A n c] w fun e w' => e = .returned (.bool (isMt xss)) ∧ ∃ d, w' = w.drewN d := by
  have HA := hide hA
  have HN := hide hn
  clear hA hn
  by_cases h0 : n < 1
  · rw [isMt_no (by rw [HN.out]; omega)]
    go_enter Tryd.func47, Tryd.ntmps47
    have h1 : (n : Int) < 1 := by omega
    go_wp2_with fail
    go_ret
    exact ⟨rfl, 0, rfl⟩
  · by_cases h64 : n > 64
    · rw [isMt_no (by rw [HN.out]; omega)]
      go_enter Tryd.func47, Tryd.ntmps47
      have h1 : ¬ (n : Int) < 1 := by omega
      have h2 : 64 < (n : Int) := by omega
      go_wp2_with fail
      go_ret
      exact ⟨rfl, 0, rfl⟩
    · obtain ⟨b, off, A', c', rfl, ck, -, l1, m1⟩ := HA.out.at_ 0 (by rw [HN.out]; omega)
      have ck0 : w.cell? ⟨b, off, none⟩ = some (.slice A' (xss.getD 0 []).length c') := ck
      obtain ⟨m, hm⟩ : ∃ m, m = (xss.getD 0 []).length := ⟨_, rfl⟩
      rw [← hm] at ck0 l1
      have HM := hide hm
      have h1 : ¬ (n : Int) < 1 := by omega
      have h2 : ¬ 64 < (n : Int) := by omega
      have h3 : 0 < (n : Int) := by omega
      clear hm ck
      by_cases g0 : m < 1
      · rw [isMt_no2 (by rw [← HM.out]; omega)]
        have g1 : (m : Int) < 1 := by omega
        go_enter Tryd.func47, Tryd.ntmps47
        go_wp2_with fail
        go_ret
        exact ⟨rfl, 0, rfl⟩
      · have g1 : ¬ (m : Int) < 1 := by omega
        by_cases g64 : m > 64
        · rw [isMt_no2 (by rw [← HM.out]; omega)]
          have g2 : 64 < (m : Int) := by omega
          go_enter Tryd.func47, Tryd.ntmps47
          go_wp2_with fail
          go_ret
          exact ⟨rfl, 0, rfl⟩
        · have g2 : ¬ 64 < (m : Int) := by omega
          rw [isMt_is (by rw [HN.out]; omega) (by rw [← HM.out]; omega), ← HM.out]
          obtain ⟨t, ht⟩ : ∃ t, t = decide (∀ i, i < xss.length → (xss.getD i []).length = m) := ⟨_, rfl⟩
          have HT := hide ht
          rw [← ht]
          clear ht
          go_enter Tryd.func47, Tryd.ntmps47
          go_wp2_with fail
          go_loopw [3] (fun i wr => ∃ k d : Nat, 1 ≤ k ∧ k ≤ n ∧ i = .int .i64 (k : Int) ∧ Hid (∀ i, i < k → (xss.getD i []).length = m) ∧ wr = w.drewN d) (fun i _ => n - (intOf i).toNat)
          case atStart => exact ⟨1, 0, Nat.le_refl _, by omega, rfl, hide (fun i hi => by rw [show i = 0 by omega]; exact HM.out.symm), rfl⟩
          case round =>
            obtain ⟨k, d, hk1, hk, rfl, hno, rfl⟩ := hrel
            by_cases hlt : k < n
            · obtain ⟨b2, off2, A2, c2, e2, ck, -, l2, m2⟩ := HA.out.at_ k (by rw [HN.out]; exact hlt)
              cases e2
              obtain ⟨l, hl⟩ : ∃ l, l = (xss.getD k []).length := ⟨_, rfl⟩
              rw [← hl] at ck l2
              have HL := hide hl
              clear hl
              by_cases e : l = m
              · have HE := hide e
                have e1 : ((l : Int) != (m : Int)) = false := by simp [e]
                clear e
                go_wp2_with fail
                go_quiet (fail)
                go_wp2_with fail
                go_roundw
                case rel =>
                  refine ⟨k + 1, _, by omega, by omega, by go_num, hide (fun i h => ?_), rfl⟩
                  by_cases e : i = k
                  · subst e; rw [← HL.out]; exact HE.out
                  · exact hno.out i (by omega)
                case measure => simp [intOf]; omega
              · have HE := hide e
                have e1 : ((l : Int) != (m : Int)) = true := by simp; omega
                clear e
                go_wp2_with fail
                go_quiet (fail)
                go_wp2_with fail
                go_ret
                refine ⟨ret_bool ?_, _, World.drewN_drewN _ _ _⟩
                rw [HT.out]
                symm
                rw [decide_eq_false_iff_not]
                intro h
                exact HE.out (by rw [HL.out]; exact h k (by rw [HN.out]; exact hlt))
            · obtain rfl : k = n := by omega
              go_wp2_with fail
              go_ret
              refine ⟨ret_bool ?_, _, rfl⟩
              rw [HT.out]
              symm
              rw [decide_eq_true_eq]
              exact fun i hi => hno.out i (by rw [← HN.out]; exact hi)
end Go.Proofs.YtpjocddeiehckaaDoor
namespace Go.Proofs.YtpjocddeiehckaaDoor
open Go.RowKit
set_option maxHeartbeats 400000 in
theorem rsame_any (A B : Option Addr) (n m ca cb : Nat) (xs ys : List Nat) (w : World) (hA : Rd w A xs) (hB : Rd w B ys) (hn : n = xs.length) (hm : m = ys.length)
    (ln : n ≤ 9223372036854775807) (lm : m ≤ 9223372036854775807) :
    Calls Tryd.prog 53 #[.slice A n ca, .slice B m cb] w fun e w' => e = .returned (.bool (decide (xs = ys))) ∧ ∃ d, w' = w.drewN d := by
  by_cases hl : n = m
  · subst hl
    have hne0 : ((n : Int) != (n : Int)) = false := by simp
    have HN := hide hn
    have HM := hide hm
    clear hn hm
    go_enter Tryd.func53, Tryd.ntmps53
    go_wp2
    go_loopw [5] (fun i wr => ∃ k d : Nat, k ≤ n ∧ i = .int .i64 (k : Int) ∧ Hid (xs.take k = ys.take k) ∧ wr = w.drewN d) (fun i _ => n - (intOf i).toNat)
    case atStart => exact ⟨0, 0, Nat.zero_le _, rfl, rfl, rfl⟩
    case round =>
      obtain ⟨k, d, hk, rfl, hs, rfl⟩ := hrel
      by_cases hlt : k < n
      · obtain ⟨b1, o1, rfl, c1⟩ := hA (by intro e; rw [HN.out, e] at hlt; simp at hlt)
        obtain ⟨b2, o2, rfl, c2⟩ := hB (by intro e; rw [HM.out, e] at hlt; simp at hlt)
        have k1 := c1 k (by rw [← HN.out]; exact hlt)
        have k2 := c2 k (by rw [← HM.out]; exact hlt)
        obtain ⟨x, hx⟩ : ∃ x, x = xs.getD k 0 := ⟨_, rfl⟩
        obtain ⟨y, hy⟩ : ∃ y, y = ys.getD k 0 := ⟨_, rfl⟩
        rw [← hx] at k1
        rw [← hy] at k2
        have HX := hide hx
        have HY := hide hy
        clear hx hy c1 c2 hA hB
        by_cases hxy : x = y
        · subst hxy
          have hne1 : ((x : Int) != (x : Int)) = false := by simp
          go_wp2
          go_quiet (fail)
          go_wp2
          go_roundw
          case rel => exact ⟨k + 1, _, by omega, by go_num, take_ext (by rw [← HN.out]; exact hlt) (by rw [← HM.out]; exact hlt) hs.out (by rw [← HX.out, ← HY.out]), rfl⟩
          case measure => simp [intOf]; omega
        · have hne1 : ((x : Int) != (y : Int)) = true := by simp; omega
          go_wp2
          go_quiet (fail)
          go_wp2
          go_ret
          refine ⟨ret_bool ?_, _, World.drewN_drewN _ _ _⟩
          symm
          rw [decide_eq_false_iff_not]
          intro e
          exact hxy (by rw [HX.out, HY.out, e])
      · go_wp2
        go_ret
        refine ⟨ret_bool ?_, _, rfl⟩
        symm
        rw [decide_eq_true_eq]
        have e := hs.out
        rw [List.take_of_length_le (by rw [← HN.out]; omega), List.take_of_length_le (by rw [← HM.out]; omega)] at e
        exact e
  · have hne0 : ((n : Int) != (m : Int)) = true := by simp; omega
    have hd : decide (xs = ys) = false := by
      rw [decide_eq_false_iff_not]
      intro e
      exact hl (by rw [hn, hm, e])
    rw [hd]
    clear hd
    have HN := hide hn
    have HM := hide hm
    clear hn hm
    go_enter Tryd.func53, Tryd.ntmps53
    go_wp2
    go_ret
    exact ⟨rfl, 0, rfl⟩
end Go.Proofs.YtpjocddeiehckaaDoor
namespace Go.Proofs.YtpjocddeiehckaaDoor
open Go.RowKit
/-- The slice at A reads as these numbers. -/
def RdI (w : World) (A : Option Addr) (zs : List Int) : Prop :=
  zs ≠ [] → ∃ b off, A = some ⟨b, off, none⟩ ∧ ∀ i, i < zs.length → w.cell? ⟨b, off + i, none⟩ = some (.int .i64 (zs.getD i 0))
def IsI (w : World) (v : Value) (zs : List Int) : Prop := ∃ A c, v = .slice A zs.length c ∧ RdI w A zs ∧ zs.length ≤ c ∧ c ≤ 9223372036854775807
theorem RdI.below {w w' : World} {A : Option Addr} {zs : List Int} (h : RdI w A zs) (hb : Below w.heap.size w w') : RdI w' A zs := by
  intro hne
  obtain ⟨b, off, e, hc⟩ := h hne
  exact ⟨b, off, e, fun i hi => (hb.cell (cell_lt (hc i hi))).trans (hc i hi)⟩
theorem IsI.keep {w w' : World} {v : Value} {zs : List Int} (h : IsI w v zs) (hb : Below w.heap.size w w') : IsI w' v zs := by
  obtain ⟨A, c, e, hr, hn⟩ := h
  exact ⟨A, c, e, hr.below hb, hn⟩
theorem IsI.drewN {w : World} {v : Value} {zs : List Int} (h : IsI w v zs) (d : Nat) : IsI (w.drewN d) v zs := h
theorem IsI.rd {w : World} {A : Option Addr} {n c : Nat} {zs : List Int} (h : IsI w (.slice A n c) zs) : RdI w A zs := by
  obtain ⟨A', c', e, r, _⟩ := h
  cases e
  exact r
theorem IsI.len {w : World} {A : Option Addr} {n c : Nat} {zs : List Int} (h : IsI w (.slice A n c) zs) : zs.length = n := by
  obtain ⟨A', c', e, r, _⟩ := h
  cases e
  rfl
theorem IsI.caps {w : World} {A : Option Addr} {n c : Nat} {zs : List Int} (h : IsI w (.slice A n c) zs) : n ≤ c ∧ c ≤ 9223372036854775807 := by
  obtain ⟨_, _, e, _, h2⟩ := h
  cases e
  exact h2
theorem IsI.form {w : World} {v : Value} {zs : List Int} {n : Nat} (h : IsI w v zs) (hn : zs.length = n) : ∃ A c, v = .slice A n c ∧ IsI w (.slice A n c) zs ∧ n ≤ c ∧ c ≤ 9223372036854775807 := by
  subst hn
  obtain ⟨A, c, e, r, h2, h3⟩ := h
  exact ⟨A, c, e, ⟨A, c, rfl, r, h2, h3⟩, h2, h3⟩
theorem isI_nil (w : World) : IsI w (.slice none 0 0) [] := ⟨none, 0, rfl, fun h => absurd rfl h, Nat.zero_le _, by decide⟩
theorem isI_new (w : World) (cs : Array Value) (e : TypeId) (fr : Nat × Nat) (zs : List Int) (b n : Nat) (hb : b = w.heap.size) (hn : n = zs.length) (hl : cs.toList = zs.map fun z => Value.int .i64 z) (h : n ≤ 9223372036854775807) : IsI (w.alloc (.cells cs e fr)) (.slice (some ⟨b, 0, none⟩) n n) zs := by
  subst hb; subst hn
  refine ⟨_, _, rfl, fun _ => ⟨_, 0, rfl, fun i hi => ?_⟩, Nat.le_refl _, h⟩
  have hc : cs[i]? = some (Value.int .i64 (zs.getD i 0)) := by
    rw [← Array.getElem?_toList, hl]
    simp [hi]
  rw [Nat.zero_add, ← hc]
  exact cell_of_row _ _ _ _ _ fr (heap_alloc_new w _)
/-- Numbers that came in read as numbers. -/
theorem IsRow.isI {w : World} {a : Option Addr} {len cap : Nat} {zs : List Int} (h : IsRow .i64 w a len cap zs) :
    ∃ xs : List Int, xs.length = len ∧ (∀ x ∈ xs, -9223372036854775808 ≤ x ∧ x < 9223372036854775808) ∧ IsI w (.slice a len cap) xs ∧ len ≤ 9223372036854775807 := by
  rcases h with ⟨rfl, rfl, rfl, rfl⟩ | ⟨x, rfl, h1, h2, h3, hc, hw⟩
  · exact ⟨[], rfl, by simp, isI_nil w, by decide⟩
  · have hb : ∀ z ∈ zs, -9223372036854775808 ≤ z ∧ z ≤ 9223372036854775807 := fun z hz => bounds_i64 (hw z hz)
    refine ⟨zs.take len, by simp; omega, ?_, ⟨some x, cap, by congr 1; simp; omega, ?_, by simp; omega, by unfold maxLen at h2; omega⟩, by unfold maxLen at h2; omega⟩
    · intro y hy
      have := hb y (List.mem_of_mem_take hy)
      omega
    · intro hne
      have hl : 0 < zs.length := by
        rcases zs with _ | ⟨z, zs⟩
        · simp at hne
        · simp
      obtain ⟨b, off, sp⟩ := x
      have hs0 := hc 0 hl
      have hsp : sp = none := by simpa [Addr.add] using World.cell?_spot hs0
      subst hsp
      refine ⟨b, off, rfl, fun i hi => ?_⟩
      have hi2 : i < len ∧ i < zs.length := by simp at hi; omega
      have := hc i hi2.2
      rw [add_off] at this
      rw [this]
      simp [hi2.1, hi2.2]
end Go.Proofs.YtpjocddeiehckaaDoor
namespace Go.Proofs.YtpjocddeiehckaaDoor
open Go.RowKit
/-- Row i is there. -/
def isThere (W : ML) (i : Nat) : Bool := !(W.getD i []).isEmpty
theorem isThere_yes {W : ML} {i : Nat} (h : (W.getD i []).length ≠ 0) : isThere W i = true := by
  unfold isThere
  cases q : W.getD i [] with
  | nil => rw [q] at h; exact absurd rfl h
  | cons a b => rfl
theorem isThere_no {W : ML} {i : Nat} (h : (W.getD i []).length = 0) : isThere W i = false := by
  unfold isThere
  rw [List.eq_nil_of_length_eq_zero h]
  rfl
/-- The rows that are there are of one length. -/
def even (W : ML) : Prop := ∃ n, ∀ r ∈ W, r ≠ [] → r.length = n
/-- What present tells. -/
def presAns (W : ML) (v : Value) : Prop := (∃ x : Nat, v = .tuple #[.int .u64 (x : Int), .bool true] ∧ isSet (isThere W) W.length x ∧ even W) ∨ (v = .tuple #[.int .u64 0, .bool false] ∧ ¬ even W)
theorem present_digs {W : ML} {x : Nat} (h : isSet (isThere W) W.length x) (h14 : W.length ≤ 14) : digs x = present W := by
  rw [isSet_digs h h14]
  rfl
theorem isSet_none {p : Nat → Bool} {i x : Nat} (h : isSet p i x) (h0 : x = 0) : ∀ j, j < i → p j = false := by
  subst h0
  intro j hj
  have := h.2 j
  simp [hj] at this
  exact this
theorem isSet_some {p : Nat → Bool} {i x : Nat} (h : isSet p i x) (h0 : x ≠ 0) : ∃ j, j < i ∧ p j = true := by
  apply Decidable.byContradiction
  intro q
  apply h0
  apply Nat.eq_of_testBit_eq
  intro j
  rw [h.2, Nat.zero_testBit]
  by_cases hj : j < i
  · have : p j = false := by
      cases hp : p j with
      | false => rfl
      | true => exact absurd ⟨j, hj, hp⟩ q
    rw [this, Bool.and_false]
  · rw [decide_eq_false hj, Bool.false_and]
theorem two_pow_lt (j : Nat) (h : j < 64) : 2 ^ j < 18446744073709551616 := Nat.pow_lt_pow_right (m := j) (n := 64) (by decide) h
set_option maxHeartbeats 1600000 in
theorem present_any (A : Option Addr) (n c : Nat) (W : ML) (w : World) (hA : IsM w A W) (hn : W.length = n) (h14 : n ≤ 14) :
    Calls Tryd.prog 33 #[.slice A n c] w fun e w' => ∃ v, e = .returned v ∧ presAns W v ∧ w = w' := by
  have HA := hide hA
  have HN := hide hn
  clear hA hn
  go_enter Tryd.func33, Tryd.ntmps33
  go_wp2_with fail
  go_loop [4, 5, 10] (fun s l i => ∃ k x z : Nat, k ≤ n ∧ i = .int .i64 (k : Int) ∧ s = .int .u64 (x : Int) ∧ l = .int .i64 (z : Int) ∧ z ≤ 9223372036854775807 ∧ isSet (isThere W) k x ∧ (∀ j, j < k → (W.getD j []).length ≠ 0 → (W.getD j []).length = z)) (fun _ _ i => n - (intOf i).toNat)
  case atStart => exact ⟨0, 0, 0, Nat.zero_le _, rfl, rfl, rfl, by decide, isSet_zero _, fun j h => absurd h (Nat.not_lt_zero j)⟩
  case round =>
    obtain ⟨k, x, z, hk, rfl, rfl, rfl, hz, hset, hall⟩ := hrel
    by_cases hlt : k < n
    · obtain ⟨b, off, A', c', rfl, ck, ib, l1, m1⟩ := HA.out.at_ k (by rw [HN.out]; exact hlt)
      obtain ⟨q, hq⟩ : ∃ q, q = (W.getD k []).length := ⟨_, rfl⟩
      rw [← hq] at ck ib l1
      have hx := hset.1
      by_cases e0 : q = 0
      · subst e0
        have HS := hide (isSet_no hset (isThere_no hq.symm))
        have HL := hide (show ∀ j, j < k + 1 → (W.getD j []).length ≠ 0 → (W.getD j []).length = z from fun j hj hne => by
          rcases Nat.lt_or_ge j k with h | h
          · exact hall j h hne
          · obtain rfl : j = k := by omega
            exact absurd hq.symm hne)
        clear hset hall hq ib
        go_wp2_with fail
        go_round
        case rel => exact ⟨k + 1, x, z, by omega, by go_num, rfl, rfl, hz, HS.out, HL.out⟩
        case measure => simp [intOf]; omega
      · have HQ := hide hq
        have HS := hide (isSet_yes hset (by omega) (isThere_yes (by rw [← hq]; exact e0)))
        have f1 : ((q : Int) == 0) = false := by simp; omega
        have hp := two_pow_lt k (by omega)
        have sh : IntKind.u64.wrap (2 ^ k) = ((2 ^ k : Nat) : Int) := by
          rw [show (2 : Int) ^ k = ((2 ^ k : Nat) : Int) by simp, IntKind.wrap_u64]
          exact Int.emod_eq_of_lt (Int.natCast_nonneg _) (Int.ofNat_lt.2 hp)
        have or1 : bits .or .u64 (x : Int) ((2 ^ k : Nat) : Int) = ((x ||| 2 ^ k : Nat) : Int) := u64_or_nat _ _ (by omega) hp
        obtain ⟨p2, hp2⟩ : ∃ p, p = 2 ^ k := ⟨_, rfl⟩
        rw [← hp2] at sh or1
        obtain ⟨y, hy⟩ : ∃ y, y = x ||| p2 := ⟨_, rfl⟩
        rw [← hy] at or1
        rw [← hp2, ← hy] at HS
        have fin : (x = 0 ∨ q = z) → ∀ j, j < k + 1 → (W.getD j []).length ≠ 0 → (W.getD j []).length = q := fun hd j hj hne => by
          rcases Nat.lt_or_ge j k with h | h
          · rcases hd with h0 | h0
            · have := isSet_none hset h0 j h
              rw [isThere_yes hne] at this
              cases this
            · rw [hall j h hne, h0]
          · obtain rfl : j = k := by omega
            exact HQ.out.symm
        by_cases x0 : x = 0
        · have FN := hide (fin (.inl x0))
          have f2 : ((x : Int) != 0) = false := by simp; omega
          clear hset hall hq ib fin hy hp2 hp x0
          go_wp2_with fail
          go_round
          case rel => exact ⟨k + 1, y, q, by omega, by go_num, rfl, rfl, by omega, HS.out, FN.out⟩
          case measure => simp [intOf]; omega
        · have f2 : ((x : Int) != 0) = true := by simp; omega
          by_cases e1 : q = z
          · have FN := hide (fin (.inr e1))
            have f3 : ((q : Int) != (z : Int)) = false := by simp; omega
            clear hset hall hq ib fin hy hp2 hp e1
            go_wp2_with fail
            go_round
            case rel => exact ⟨k + 1, y, q, by omega, by go_num, rfl, rfl, by omega, HS.out, FN.out⟩
            case measure => simp [intOf]; omega
          · have f3 : ((q : Int) != (z : Int)) = true := by simp; omega
            have ANS : Hid (¬ even W) := hide (fun ⟨N, hN⟩ => by
              obtain ⟨j, hj, hp⟩ := isSet_some hset x0
              have hjl : (W.getD j []).length ≠ 0 := fun h0 => by rw [isThere_no h0] at hp; cases hp
              have h1 := hN _ (mem_getD (xss := W) (k := j) (by rw [HN.out]; omega)) (fun h => hjl (by rw [h]; rfl))
              have h2 := hN _ (mem_getD (xss := W) (k := k) (by rw [HN.out]; omega)) (fun h => by rw [h] at hq; exact e0 (by simpa using hq))
              have h3 := hall j hj hjl
              omega)
            clear hset hall hq ib fin hy hp2 hp e1
            go_wp2_with fail
            go_ret2
            exact ⟨_, rfl, .inr ⟨rfl, ANS.out⟩, rfl⟩
    · obtain rfl : k = n := by omega
      have EV : Hid (even W) := hide ⟨z, fun r hr hne => by
        obtain ⟨j, hj, rfl⟩ := List.getElem_of_mem hr
        have e : W.getD j [] = W[j] := by simp [hj]
        have := hall j (by rw [← HN.out]; exact hj) (by rw [e]; exact fun h => hne (List.eq_nil_of_length_eq_zero h))
        rwa [e] at this⟩
      have HS := hide hset
      clear hall hset
      go_wp2_with fail
      go_ret2
      exact ⟨_, rfl, .inl ⟨x, rfl, by rw [HN.out]; exact HS.out, EV.out⟩, rfl⟩
end Go.Proofs.YtpjocddeiehckaaDoor
namespace Go.Proofs.YtpjocddeiehckaaDoor
open Go.RowKit
set_option maxHeartbeats 1600000 in
theorem dot_any (A B : Option Addr) (n c d : Nat) (xs ys : List Nat) (w : World) (hA : Rd w A xs) (hB : Rd w B ys) (hn : xs.length = n) (hm : ys.length = n) (hb : ∀ x ∈ xs, x < 256) (hc : ∀ y ∈ ys, y < 256) (h3 : n ≤ 1000000) :
    Calls Tryd.prog 59 #[.slice A n c, .slice B n d] w fun e w' => e = .returned (.tuple #[.int .u8 (dotS xs ys n : Nat), .int .i64 0]) ∧ w = w' := by
  have HA := hide hA
  have HN := hide hn
  have HB := hide hb
  have HA2 := hide hB
  have HN2 := hide hm
  have HB2 := hide hc
  have hne0 : ((n : Int) != (n : Int)) = false := by simp
  clear hA hn hb hB hm hc
  go_enter Tryd.func59, Tryd.ntmps59
  go_wp2_with fail
  go_loop [6, 16] (fun s i => ∃ k : Nat, k ≤ n ∧ i = .int .i64 (k : Int) ∧ s = .int .u8 (dotS xs ys k : Nat)) (fun _ i => n - (intOf i).toNat)
  case atStart => exact ⟨0, Nat.zero_le _, rfl, rfl⟩
  case round =>
    obtain ⟨k, hk, rfl, rfl⟩ := hrel
    by_cases hlt : k < n
    · obtain ⟨b', off', rfl, ck, hx⟩ := at_place HA.out HN.out HB.out k hlt
      obtain ⟨b2', off2', rfl, ck2, hy⟩ := at_place HA2.out HN2.out HB2.out k hlt
      have hs := dotS_lt (ys := ys) HB.out k
      have hds : dotS xs ys (k + 1) = dotS xs ys k ^^^ gmul (xs.getD k 0) (ys.getD k 0) := rfl
      obtain ⟨x, hxe⟩ : ∃ x, x = xs.getD k 0 := ⟨_, rfl⟩
      obtain ⟨y, hye⟩ : ∃ y, y = ys.getD k 0 := ⟨_, rfl⟩
      obtain ⟨s, hse⟩ : ∃ s, s = dotS xs ys k := ⟨_, rfl⟩
      rw [← hxe] at ck hx hds
      rw [← hye] at ck2 hy hds
      rw [← hse] at hs hds ⊢
      have hxo := u8_xor_nat s (gmul x y) hs (gmul_lt y hx)
      rw [← hds] at hxo
      clear hds hxe hye hse
      go_wp2_with fail
      refine (mul_any x y _ hx hy).mono ?_
      rintro e w1 ⟨rfl, rfl⟩
      go_wp2_with fail
      go_round
      case rel => exact ⟨k + 1, by omega, by go_num, rfl⟩
      case measure => simp [intOf]; omega
    · obtain rfl : k = n := by omega
      go_wp2_with fail
      go_ret2
      exact ⟨rfl, rfl⟩
theorem dot_unlike (A B : Option Addr) (n m c d : Nat) (w : World) (h : n ≠ m) :
    Calls Tryd.prog 59 #[.slice A n c, .slice B m d] w fun e w' => e = .returned (.tuple #[.int .u8 0, .int .i64 1]) ∧ w = w' := by
  have hne0 : ((n : Int) != (m : Int)) = true := by simp; omega
  go_enter Tryd.func59, Tryd.ntmps59
  go_wp2_with fail
  go_ret2
  exact ⟨rfl, rfl⟩
end Go.Proofs.YtpjocddeiehckaaDoor
namespace Go.Proofs.YtpjocddeiehckaaDoor
open Go.RowKit
set_option maxHeartbeats 1600000 in
theorem noughts_any (n m : Nat) (w : World) (h1 : n ≤ 128) (h2 : m ≤ 128) :
    Calls Tryd.prog 62 #[.int .i64 (n : Int), .int .i64 (m : Int)] w fun e w' => ∃ g R, e = .returned (.slice (some ⟨g, 0, none⟩) n n) ∧ Grid w' w.heap.size g n m R (fun _ _ => G.zero) ∧ Below w.heap.size w w' := by
  obtain ⟨i0, hi, hz0, hz1, hz2⟩ := info_parts Tryd.info_rows
  obtain ⟨i1, hj, hy0, hy1, hy2⟩ := info_parts Tryd.info_u8'
  have HJ := hide (And.intro hj (And.intro hy0 (And.intro hy1 hy2)))
  clear hj hy0 hy1 hy2
  go_enter Tryd.func62, Tryd.ntmps62
  go_wp2_with (at_make; refine halt ?_)
  refine ⟨?_⟩
  refine wpList_make_full _ rfl (.tmp 7) (.tmp 7) 22 rfl w.heap.size 34 i0 (.slice none 0 0) 1 Tryd.underlying22 hi hz0 hz1 .i64 .i64 n n n rfl rfl rfl rfl (by rw [hz2]; omega) (by unfold maxLen; omega) (Nat.le_refl _) ?_
  intro w2 h2' g2
  have o2 := made_nils h2'
  have b2 : Below w.heap.size w w2 := (Below.refl _ _).grown g2 (Nat.le_refl _) (by simp)
  clear h2' g2 hi hz0 hz1 hz2 i0
  obtain ⟨g, hg⟩ : ∃ g, g = w.heap.size := ⟨_, rfl⟩
  rw [← hg] at o2 b2 ⊢
  have HG := hide hg
  have O2 := hide o2
  have B2 := hide b2
  clear hg o2 b2
  go_wp2_with fail
  go_loopw [11] (fun i wr => ∃ k : Nat, k ≤ n ∧ i = .int .i64 (k : Int) ∧ Hid (∃ R, Begun wr g g n m k R) ∧ Hid (Below g w wr)) (fun i _ => n - (intOf i).toNat)
  case atStart =>
    refine ⟨0, Nat.zero_le _, rfl, hide ⟨fun _ => 0, ⟨?_, fun i hi => absurd hi (Nat.not_lt_zero i), fun i j hi => absurd hi (Nat.not_lt_zero i)⟩⟩, hide B2.out⟩
    have e : ((List.range n).map fun i => if i < 0 then rowV 0 m else .slice none 0 0) = List.replicate n (.slice none 0 0) := by
      apply List.ext_getElem
      · simp
      · intro i h1 h2
        simp
    rw [e]
    exact O2.out
  case round =>
    obtain ⟨k, hk, rfl, hbeg, hbel⟩ := hrel
    by_cases hlt : k < n
    · obtain ⟨hj, hy0, hy1, hy2⟩ := HJ.out
      go_wp2_with (at_make; refine halt ?_)
      refine ⟨?_⟩
      refine wpList_make_full _ rfl (.tmp 16) (.tmp 16) 34 rfl wr.heap.size 5 i1 (.int .u8 0) 1 Tryd.underlying34 hj hy0 hy1 .i64 .i64 m m m rfl rfl rfl rfl (by rw [hy2]; omega) (by unfold maxLen; omega) (Nat.le_refl _) ?_
      intro w3 h3 g3
      clear hj hy0 hy1 hy2
      obtain ⟨R, hR⟩ := hbeg.out
      have hgs : g ≤ wr.heap.size := by rw [HG.out]; exact hbel.out.size
      have z3 := made_zeros h3 k
      have k3 : Below wr.heap.size wr w3 := (Below.refl _ _).grown g3 (Nat.le_refl _) (by simp)
      have nx := hR.next hlt (z3.more hgs) k3 (Nat.le_refl _)
      have f3 := (hR.outer.keep k3).frozen k
      have c3 : w3.cell? ⟨g, k, none⟩ = some (.slice none 0 0) := by
        rw [(hR.outer.keep k3).cell]
        simp [hlt]
      have NX := hide (show ∃ R, Begun (w3.setCell ⟨g, k, none⟩ (.slice (some ⟨wr.heap.size, 0, none⟩) m m)) g g n m (k + 1) R from ⟨_, nx⟩)
      have BL := hide (show Below g w (w3.setCell ⟨g, k, none⟩ (.slice (some ⟨wr.heap.size, 0, none⟩) m m)) from (hbel.out.trans (k3.mono hgs)).setCell (Nat.le_refl _) _)
      clear hgs h3 g3 z3 k3 nx hR hbeg hbel
      go_wp2_with fail
      go_roundw
      case rel => exact ⟨k + 1, by omega, by go_num, NX, BL⟩
      case measure => simp [intOf]; omega
    · obtain rfl : k = n := by omega
      go_wp2_with fail
      go_ret
      obtain ⟨R, hR⟩ := hbeg.out
      exact ⟨g, R, rfl, by rw [← HG.out]; exact hR.done, by rw [← HG.out]; exact hbel.out⟩
end Go.Proofs.YtpjocddeiehckaaDoor
namespace Go.Proofs.YtpjocddeiehckaaDoor
open Go.RowKit
theorem one_bad (n : Int) (w : World) (h : n < 1 ∨ 64 < n) : Calls Tryd.prog 51 #[.int .i64 n] w fun e w' => e = .returned (.tuple #[.slice none 0 0, .int .i64 1]) ∧ w = w' := by
  by_cases h1 : n < 1
  · clear h
    go_enter Tryd.func51, Tryd.ntmps51
    go_wp2_with fail
    go_ret2
    exact ⟨rfl, rfl⟩
  · have h2 : 64 < n := by omega
    clear h
    go_enter Tryd.func51, Tryd.ntmps51
    go_wp2_with fail
    go_ret2
    exact ⟨rfl, rfl⟩
set_option maxHeartbeats 800000 in
theorem one_any (n : Nat) (w : World) (h1 : 1 ≤ n) (h2 : n ≤ 64) :
    Calls Tryd.prog 51 #[.int .i64 (n : Int)] w fun e w' => ∃ g, e = .returned (.tuple #[.slice (some ⟨g, 0, none⟩) n n, .int .i64 0]) ∧ OwnMt w' w.heap.size (.slice (some ⟨g, 0, none⟩) n n) (oneL n) ∧ Below w.heap.size w w' := by
  have g1 : ¬ (n : Int) < 1 := by omega
  have g2 : ¬ 64 < (n : Int) := by omega
  have HNO := hide (noughts_any n n w (by omega) (by omega))
  obtain ⟨B, hB⟩ : ∃ B, B = w.heap.size := ⟨_, rfl⟩
  rw [← hB] at HNO ⊢
  clear hB
  go_enter Tryd.func51, Tryd.ntmps51
  go_wp2_with fail
  refine HNO.out.mono ?_
  rintro e w1 ⟨g, R, rfl, gr, kb⟩
  have GR := hide gr
  have KB := hide kb
  clear gr kb HNO
  go_wp2_with fail
  go_loopw [17] (fun i wr => ∃ k : Nat, k ≤ n ∧ i = .int .i64 (k : Int) ∧ Hid (∃ f, Grid wr B g n n R f ∧ ∀ a b, f a b = if a < k then dl a b else G.zero) ∧ Hid (Below B w wr)) (fun i _ => n - (intOf i).toNat)
  case atStart => exact ⟨0, Nat.zero_le _, rfl, hide ⟨_, GR.out, fun a b => (if_neg (Nat.not_lt_zero a)).symm⟩, KB⟩
  case round =>
    obtain ⟨k, hk, rfl, hf, hbel⟩ := hrel
    by_cases hlt : k < n
    · obtain ⟨f, gf, ef⟩ := hf.out
      have c1 := gf.cell k hlt
      have c2 := gf.num k k hlt hlt
      have c3 := gf.frozen k k hlt
      have st := gf.set k k hlt G.one
      have BL := hide (gf.below k k hlt (.int .u8 (G.one.n : Int)) hbel.out)
      have NX : Hid (∃ f, Grid (wr.setCell ⟨R k, k, none⟩ (.int .u8 (G.one.n : Int))) B g n n R f ∧ ∀ a b, f a b = if a < k + 1 then dl a b else G.zero) := by
        refine ⟨_, st, fun a b => ?_⟩
        by_cases e1 : a = k
        · subst e1
          rw [if_pos (by omega)]
          by_cases e2 : b = a
          · subst e2; rw [upd_at, dl_eq]
          · rw [upd_col e2, ef, if_neg (by omega), dl_ne (fun q => e2 q.symm)]
        · rw [upd_row e1, ef]
          by_cases e2 : a < k
          · rw [if_pos e2, if_pos (by omega)]
          · rw [if_neg e2, if_neg (by omega)]
      have e1 : ((G.one.n : Nat) : Int) = 1 := rfl
      rw [e1] at NX BL
      clear st gf ef hf hbel e1
      go_wp2_with fail
      go_roundw
      case rel => exact ⟨k + 1, by omega, by go_num, NX, BL⟩
      case measure => simp [intOf]; omega
    · obtain rfl : k = n := by omega
      go_wp2_with fail
      go_ret2
      obtain ⟨f, gf, ef⟩ := hf.out
      refine ⟨g, rfl, ?_, hbel.out⟩
      have := gf.own (by omega) (by omega)
      rwa [show laid k k f = oneL k from laid_congr (fun i hi j _ => by rw [ef, if_pos hi])] at this
end Go.Proofs.YtpjocddeiehckaaDoor
namespace Go.Proofs.YtpjocddeiehckaaDoor
open Go.RowKit
set_option maxHeartbeats 800000 in
theorem sums_any (k x : Nat) (w : World) (h1 : k ≤ x) (h2 : x ≤ 14) :
    Calls Tryd.prog 52 #[.int .i64 (k : Int), .int .i64 (x : Int)] w fun e w' => ∃ g, e = .returned (.slice (some ⟨g, 0, none⟩) k k) ∧ Own w' w.heap.size (.slice (some ⟨g, 0, none⟩) k k) ((List.range k).map fun j => (kx x j).n) ∧ Below w.heap.size w w' := by
  obtain ⟨i0, hi, hz0, hz1, hz2⟩ := info_parts Tryd.info_u8'
  obtain ⟨f, hf⟩ : ∃ f : Nat → Nat, f = fun j => (kx x j).n := ⟨_, rfl⟩
  have HF : Hid (∀ j, j < x → f j = ginv (x ^^^ j)) := by
    intro j hj
    rw [hf]
    exact (kx_walk h2 hj).2.2.2.2
  rw [show ((List.range k).map fun j => (kx x j).n) = part f k k by
    unfold part
    refine List.map_congr_left (fun j hj => ?_)
    rw [if_pos (List.mem_range.1 hj), hf]]
  clear hf
  go_enter Tryd.func52, Tryd.ntmps52
  go_wp2_with (at_make; refine halt ?_)
  refine ⟨?_⟩
  refine wpList_make_full _ rfl (.tmp 7) (.tmp 7) 34 rfl w.heap.size 5 i0 (.int .u8 0) 1 Tryd.underlying34 hi hz0 hz1 .i64 .i64 k k k rfl rfl rfl rfl (by rw [hz2]; omega) (by unfold maxLen; omega) (Nat.le_refl _) ?_
  intro w2 h2' g2
  have o2 := made_bytes h2'
  have b2 : Below w.heap.size w w2 := (Below.refl _ _).grown g2 (Nat.le_refl _) (by simp)
  clear h2' g2 hi hz0 hz1 hz2 i0
  obtain ⟨g, hg⟩ : ∃ g, g = w.heap.size := ⟨_, rfl⟩
  rw [← hg] at o2 ⊢
  have HG := hide hg
  clear hg
  go_wp2_with fail
  go_loopw [11] (fun i wr => ∃ j : Nat, j ≤ k ∧ i = .int .i64 (j : Int) ∧ Hid (Own wr g (.slice (some ⟨g, 0, none⟩) k k) (part f k j)) ∧ Hid (Below g w wr)) (fun i _ => k - (intOf i).toNat)
  case atStart => exact ⟨0, Nat.zero_le _, rfl, hide (by rw [part_zero]; exact o2), hide (by rw [HG.out]; exact b2)⟩
  case round =>
    obtain ⟨j, hj, rfl, hown, hbel⟩ := hrel
    by_cases hlt : j < k
    · obtain ⟨e1, e2, e3, e4, _⟩ := kx_walk h2 (show j < x by omega)
      have hfj := HF.out j (by omega)
      obtain ⟨y, hy⟩ : ∃ y, y = x ^^^ j := ⟨_, rfl⟩
      rw [← hy] at e1 e2 e3 e4 hfj
      have cs := hown.out.cells_ (part_len f k j) j
      have c1 := cs.1 hlt
      have c2 := cs.2
      have st := hown.out.stored' (part_len f k j) j (f j)
      rw [part_set, hfj] at st
      have ST := hide st
      have BL := hide (show Below g w (wr.setCell ⟨g, j, none⟩ (.int .u8 ((ginv y : Nat) : Int))) from hbel.out.setCell (Nat.le_refl _) _)
      have HI := hide (inv_some y wr e3 e4)
      clear cs st hfj hy hown hbel e4
      go_wp2_with fail
      refine HI.out.mono ?_
      rintro e w1 ⟨rfl, rfl⟩
      go_wp2_with fail
      go_roundw
      case rel => exact ⟨j + 1, by omega, by go_num, ST, BL⟩
      case measure => simp [intOf]; omega
    · obtain rfl : j = k := by omega
      go_wp2_with fail
      go_ret
      exact ⟨_, rfl, hown.out.more (Nat.le_of_eq HG.out.symm), by rw [← HG.out]; exact hbel.out⟩
theorem code_bad (k m : Int) (w : World) (_k1 : -9223372036854775808 ≤ k) (_k2 : k ≤ 9223372036854775807) (_m1 : -9223372036854775808 ≤ m) (_m2 : m ≤ 9223372036854775807) (h : k < 1 ∨ m < 0 ∨ 14 < k + m) :
    Calls Tryd.prog 32 #[.int .i64 k, .int .i64 m] w fun e w' => e = .returned (.tuple #[.slice none 0 0, .int .i64 1]) ∧ w = w' := by
  by_cases h1 : k < 1
  · clear h
    go_enter Tryd.func32, Tryd.ntmps32
    go_wp2_with fail
    go_ret2
    exact ⟨rfl, rfl⟩
  · by_cases h2 : m < 0
    · clear h
      go_enter Tryd.func32, Tryd.ntmps32
      go_wp2_with fail
      go_ret2
      exact ⟨rfl, rfl⟩
    · have h3 : 14 - k < m := by omega
      clear h
      go_enter Tryd.func32, Tryd.ntmps32
      go_wp2_with fail
      go_ret2
      exact ⟨rfl, rfl⟩
set_option maxHeartbeats 800000 in
theorem code_any (k m : Nat) (w : World) (h1 : 1 ≤ k) (h2 : k + m ≤ 14) :
    Calls Tryd.prog 32 #[.int .i64 (k : Int), .int .i64 (m : Int)] w fun e w' => ∃ v, e = .returned (.tuple #[v, .int .i64 0]) ∧ OwnMt w' w.heap.size v (codeL k m) ∧ Below w.heap.size w w' := by
  have HO := hide (one_any k w h1 (by omega))
  obtain ⟨B, hB⟩ : ∃ B, B = w.heap.size := ⟨_, rfl⟩
  rw [← hB] at HO ⊢
  have HB := hide hB
  have HL : Hid ((codeL k m).length = k + m) := by unfold Hid codeL; rw [laid_len]
  have HR : Hid (∀ i, i < m → (codeL k m).getD (k + i) [] = (List.range k).map fun j => (kx (k + i) j).n) := fun i hi => code_row hi
  have H0 : Hid ((codeL k m).take (k + 0) = oneL k) := code_one
  obtain ⟨L, hL⟩ : ∃ L, L = codeL k m := ⟨_, rfl⟩
  rw [← hL] at HL HR H0 ⊢
  have g1 : ¬ (k : Int) < 1 := by omega
  have g2 : ¬ (m : Int) < 0 := by omega
  have g3 : ¬ (14 - (k : Int) < (m : Int)) := by omega
  clear hB hL
  go_enter Tryd.func32, Tryd.ntmps32
  go_wp2_with fail
  refine HO.out.mono ?_
  rintro e w1 ⟨g, rfl, o1, k1⟩
  have O1 := hide o1
  have K1 := hide k1
  clear o1 k1 HO
  go_wp2_with fail
  go_loopw [6, 27] (fun s i wr => ∃ j : Nat, j ≤ m ∧ i = .int .i64 (j : Int) ∧ Hid (OwnMt wr B s (L.take (k + j))) ∧ Hid (Below B w wr)) (fun _ i _ => m - (intOf i).toNat)
  case atStart => exact ⟨0, Nat.zero_le _, rfl, hide (by rw [H0.out]; exact O1.out), K1⟩
  case round =>
    obtain ⟨j, hj, rfl, hown, hbel⟩ := hrel
    by_cases hlt : j < m
    · have HS := hide (sums_any k (k + j) wr (by omega) (by omega))
      rw [← HR.out j hlt] at HS
      have hc : ((k + j : Nat) : Int) = (k : Int) + (j : Int) := by omega
      rw [hc] at HS
      have HGS : Hid (B ≤ wr.heap.size) := by rw [HB.out]; exact hbel.out.size
      clear hc
      go_wp2_with fail
      refine HS.out.mono ?_
      rintro e w2 ⟨b, rfl, o2, k2⟩
      have OM := hide (hown.out.keep k2)
      have OR := hide (o2.more HGS.out)
      have K2 := hide (hbel.out.trans (k2.mono HGS.out))
      have HG2 := hide (Nat.le_trans HGS.out k2.size)
      clear o2 k2 HS hown hbel HGS
      go_wp2_with (at_builtin; refine halt ?_)
      refine ⟨?_⟩
      have ka := below_alloc w2 (.cells #[.slice (some ⟨b, 0, none⟩) k k] 34)
      refine wpList_append_mrow rfl (.tmp 30) (.tmp 36) rfl B _ _ rfl (OM.out.keep ka) _ _ _ rfl (cell_newAt _ _ _ rfl) (OR.out.keep ka) (by rw [List.length_take]; omega) (Nat.le_trans HG2.out ka.size) ?_
      intro v' w7 o7 k7
      rw [← take_snoc _ _ (by rw [HL.out]; omega)] at o7
      have O7 := hide o7
      have K7 := hide ((K2.out.trans (ka.mono HG2.out)).trans k7)
      clear o7 k7 ka HG2 OM OR K2
      go_wp2_with fail
      go_roundw
      case rel => exact ⟨j + 1, by omega, by go_num, O7, K7⟩
      case measure => simp [intOf]; omega
    · obtain rfl : j = m := by omega
      go_wp2_with fail
      go_ret2
      refine ⟨_, rfl, ?_, hbel.out⟩
      have := hown.out
      rwa [List.take_of_length_le (by rw [HL.out]; exact Nat.le_refl _)] at this
end Go.Proofs.YtpjocddeiehckaaDoor
namespace Go.Proofs.YtpjocddeiehckaaDoor
open Go.RowKit
theorem one_all (n : Int) (w : World) : Calls Tryd.prog 51 #[.int .i64 n] w fun e w' => ∃ v, e = .returned (.tuple #[v, .int .i64 (oneE n)]) ∧ OwnMt w' w.heap.size v (oneR n) ∧ Below w.heap.size w w' := by
  unfold oneE oneR
  by_cases h : 1 ≤ n ∧ n ≤ 64
  · rw [if_pos h, if_pos h]
    obtain ⟨k, rfl⟩ : ∃ k : Nat, n = (k : Int) := ⟨n.toNat, by omega⟩
    rw [Int.toNat_natCast]
    exact (one_any k w (by omega) (by omega)).mono fun e w' ⟨g, h1, h2, h3⟩ => ⟨_, h1, h2, h3⟩
  · rw [if_neg h, if_neg h]
    refine (one_bad n w (by omega)).mono ?_
    rintro e w' ⟨rfl, rfl⟩
    exact ⟨_, rfl, OwnMt.nil _ _, Below.refl _ _⟩
theorem code_all (k m : Int) (w : World) (k1 : -9223372036854775808 ≤ k) (k2 : k ≤ 9223372036854775807) (m1 : -9223372036854775808 ≤ m) (m2 : m ≤ 9223372036854775807) :
    Calls Tryd.prog 32 #[.int .i64 k, .int .i64 m] w fun e w' => ∃ v, e = .returned (.tuple #[v, .int .i64 (codeE k m)]) ∧ OwnMt w' w.heap.size v (codeR k m) ∧ Below w.heap.size w w' := by
  unfold codeE codeR
  by_cases h : k < 1 ∨ m < 0 ∨ 14 < k + m
  · rw [if_pos h, if_pos h]
    refine (code_bad k m w k1 k2 m1 m2 h).mono ?_
    rintro e w' ⟨rfl, rfl⟩
    exact ⟨_, rfl, OwnMt.nil _ _, Below.refl _ _⟩
  · rw [if_neg h, if_neg h]
    obtain ⟨a, rfl⟩ : ∃ a : Nat, k = (a : Int) := ⟨k.toNat, by omega⟩
    obtain ⟨b, rfl⟩ : ∃ b : Nat, m = (b : Int) := ⟨m.toNat, by omega⟩
    rw [Int.toNat_natCast, Int.toNat_natCast]
    exact code_any a b w (by omega) (by omega)
end Go.Proofs.YtpjocddeiehckaaDoor
namespace Go.Proofs.YtpjocddeiehckaaDoor
open Go.RowKit
/-- The rows from j to n - 1, as digits. -/
def setS (n j : Nat) : Nat := 2 ^ n - 2 ^ j
theorem setS_first : ∀ n < 65, 1 ≤ n → (18446744073709551615 : Nat) / 2 ^ (64 - n) = setS n 0 := by decide +kernel
theorem setS_has : ∀ n < 65, ∀ j < n + 1, ∀ i < n, setS n j / 2 ^ i % 2 = if j ≤ i then 1 else 0 := by decide +kernel
theorem setS_less : ∀ n < 65, ∀ j < n, setS n j &&& (18446744073709551615 - 2 ^ j) = setS n (j + 1) := by decide +kernel
theorem setS_lt : ∀ n < 65, ∀ j < n + 1, setS n j < 18446744073709551616 := by decide +kernel
theorem div_cast (a k : Nat) : (a : Int) / 2 ^ k = ((a / 2 ^ k : Nat) : Int) := by simp
theorem first_any (n : Nat) (w : World) (h1 : 1 ≤ n) (h2 : n ≤ 64) :
    Calls Tryd.prog 70 #[.int .i64 (n : Int)] w fun e w' => e = .returned (.int .u64 (setS n 0 : Nat)) ∧ w = w' := by
  go_enter Tryd.func70, Tryd.ntmps70
  go_wp2
  go_ret
  refine ⟨ret_int ?_, rfl⟩
  rw [← setS_first n (by omega) h1, ← div_cast]
  rfl
theorem has_any (n j i : Nat) (w : World) (h1 : i < n) (h2 : n ≤ 64) (h3 : j ≤ n) :
    Calls Tryd.prog 77 #[.int .u64 (setS n j : Nat), .int .i64 (i : Int)] w fun e w' => e = .returned (.bool (decide (j ≤ i))) ∧ w = w' := by
  obtain ⟨s, hs⟩ : ∃ s, s = setS n j := ⟨_, rfl⟩
  rw [← hs]
  go_enter Tryd.func77, Tryd.ntmps77
  go_wp2
  go_ret
  refine ⟨ret_bool ?_, rfl⟩
  have h := setS_has n (by omega) j (by omega) i h1
  have hl := setS_lt n (by omega) j (by omega)
  rw [div_cast, and_one64 _ (Nat.lt_of_le_of_lt (Nat.div_le_self _ _) hl), h]
  split
  · rename_i e; simp [e]
  · rename_i e; simp [e]
theorem without_any (n j : Nat) (w : World) (h1 : j < n) (h2 : n ≤ 64) :
    Calls Tryd.prog 72 #[.int .u64 (setS n j : Nat), .int .i64 (j : Int)] w fun e w' => e = .returned (.int .u64 (setS n (j + 1) : Nat)) ∧ w = w' := by
  obtain ⟨s, hs⟩ : ∃ s, s = setS n j := ⟨_, rfl⟩
  rw [← hs]
  go_enter Tryd.func72, Tryd.ntmps72
  go_wp2
  go_ret
  refine ⟨ret_int ?_, rfl⟩
  have h := setS_less n (by omega) j h1
  have hl := setS_lt n (by omega) j (by omega)
  have hp : ∀ j < 64, 2 ^ j < 18446744073709551616 := by decide +kernel
  have hp := hp j (by omega)
  have hw : IntKind.u64.wrap (2 ^ j) = ((2 ^ j : Nat) : Int) := by
    rw [show (2 : Int) ^ j = ((2 ^ j : Nat) : Int) by simp, IntKind.wrap_u64]
    exact Int.emod_eq_of_lt (Int.natCast_nonneg _) (Int.ofNat_lt.2 hp)
  rw [hw, u64_andNot_nat _ _ hl hp, h]
/-- The first row from j on that has something at the place j, if there is one. -/
def leadS (n j : Nat) (W : ML) (v : Value) : Prop := (∃ i : Nat, v = .tuple #[.int .i64 (i : Int), .bool true] ∧ j ≤ i ∧ i < n ∧ en W i j ≠ G.zero) ∨ (v = .tuple #[.int .i64 0, .bool false] ∧ ∀ i, j ≤ i → i < n → en W i j = G.zero)
set_option maxHeartbeats 1600000 in
theorem lead_any (A : Option Addr) (n m c j : Nat) (W : ML) (w : World) (hA : IsM w A W) (hs : Shape W n m) (h1 : j < n) (h2 : n ≤ 64) (h3 : n ≤ m) (h4 : m ≤ 128) :
    Calls Tryd.prog 71 #[.int .u64 (setS n j : Nat), .slice A n c, .int .i64 (j : Int)] w fun e w' => ∃ v, e = .returned v ∧ leadS n j W v ∧ w' = w := by
  have HA := hide hA
  have HS := hide hs
  have HH := hide (fun i (hi : i < n) => has_any n j i w hi h2 (by omega))
  obtain ⟨s, hsv⟩ : ∃ s, s = setS n j := ⟨_, rfl⟩
  rw [← hsv] at HH ⊢
  clear hA hs hsv
  go_enter Tryd.func71, Tryd.ntmps71
  go_wp2_with fail
  go_loop [12] (fun i => ∃ k : Nat, k ≤ n ∧ i = .int .i64 (k : Int) ∧ Hid (∀ i, j ≤ i → i < k → en W i j = G.zero)) (fun i => n - (intOf i).toNat)
  case atStart => exact ⟨0, Nat.zero_le _, rfl, hide (fun i _ h => absurd h (Nat.not_lt_zero _))⟩
  case round =>
    obtain ⟨k, hk, rfl, hno⟩ := hrel
    by_cases hlt : k < n
    · obtain ⟨b, off, A', c', rfl, ck, ib, l1, m1⟩ := HA.out.at_ k (by rw [HS.out.high]; exact hlt)
      have hrow := HS.out.row hlt
      rw [hrow.1] at ck ib l1
      obtain ⟨b3, off3, rfl, cx, hx⟩ := at_place ib.rd hrow.1 hrow.2 j (by omega)
      rw [HS.out.num k j hlt] at cx hx
      have HK := hide (HH.out k hlt)
      have hjm : (j : Int) < (m : Int) := by omega
      clear hrow ib
      by_cases hjk : j ≤ k
      · rw [decide_eq_true hjk] at HK
        by_cases hz : en W k j = G.zero
        · have hz0 : ((en W k j).n : Int) = 0 := by rw [hz]; rfl
          rw [hz0] at cx
          have HZ := hide hz
          clear hz0 hz hx
          go_wp2_with fail
          refine HK.out.mono ?_
          rintro e w1 ⟨rfl, rfl⟩
          go_wp2_with fail
          go_round
          case rel =>
            refine ⟨k + 1, by omega, by go_num, hide (fun i h0 h => ?_)⟩
            by_cases e : i = k
            · subst e; exact HZ.out
            · exact hno.out i h0 (by omega)
          case measure => simp [intOf]; omega
        · have HZ := hide hz
          obtain ⟨x, hxe⟩ : ∃ x, x = (en W k j).n := ⟨_, rfl⟩
          have hx0 : x ≠ 0 := fun e => hz (G.ext (by rw [← hxe, e]; rfl))
          rw [← hxe] at cx
          have hne : ((x : Int) != 0) = true := by simp; omega
          clear hz hxe hx
          go_wp2_with fail
          refine HK.out.mono ?_
          rintro e w1 ⟨rfl, rfl⟩
          go_wp2_with fail
          go_ret2
          exact ⟨_, rfl, .inl ⟨k, rfl, hjk, hlt, HZ.out⟩, rfl⟩
      · rw [decide_eq_false hjk] at HK
        clear cx hx
        go_wp2_with fail
        refine HK.out.mono ?_
        rintro e w1 ⟨rfl, rfl⟩
        go_wp2_with fail
        go_round
        case rel =>
          refine ⟨k + 1, by omega, by go_num, hide (fun i h0 h => ?_)⟩
          exact hno.out i h0 (by omega)
        case measure => simp [intOf]; omega
    · obtain rfl : k = n := by omega
      go_wp2_with fail
      go_ret2
      exact ⟨_, rfl, .inr ⟨rfl, hno.out⟩, rfl⟩
end Go.Proofs.YtpjocddeiehckaaDoor
namespace Go.Proofs.YtpjocddeiehckaaDoor
open Go.RowKit
set_option maxHeartbeats 1600000 in
theorem scale_any (A : Option Addr) (n c q : Nat) (xs : List Nat) (w : World) (hA : Rd w A xs) (hn : xs.length = n) (hb : ∀ x ∈ xs, x < 256) (hq : q < 256) (h3 : n ≤ 1000000) :
    Calls Tryd.prog 78 #[.slice A n c, .int .u8 (q : Int)] w fun e w' => ∃ g, e = .returned (.slice (some ⟨g, 0, none⟩) n n) ∧ Own w' w.heap.size (.slice (some ⟨g, 0, none⟩) n n) (part (fun j => gmul (xs.getD j 0) q) n n) ∧ Below w.heap.size w w' := by
  obtain ⟨i0, hi, hz0, hz1, hz2⟩ := info_parts Tryd.info_u8'
  have HA := hide hA
  have HN := hide hn
  have HB := hide hb
  obtain ⟨f, hf⟩ : ∃ f : Nat → Nat, f = fun j => gmul (xs.getD j 0) q := ⟨_, rfl⟩
  rw [← hf]
  have HF := hide hf
  clear hA hn hb hf
  go_enter Tryd.func78, Tryd.ntmps78
  go_wp2_with (at_make; refine halt ?_)
  refine ⟨?_⟩
  refine wpList_make_full _ rfl (.tmp 9) (.tmp 9) 34 rfl w.heap.size 5 i0 (.int .u8 0) 1 Tryd.underlying34 hi hz0 hz1 .i64 .i64 n n n rfl rfl rfl rfl (by rw [hz2]; omega) (by unfold maxLen; omega) (Nat.le_refl _) ?_
  intro w2 h2 g2
  have o2 := made_bytes h2
  have b2 : Below w.heap.size w w2 := (Below.refl _ _).grown g2 (Nat.le_refl _) (by simp)
  clear h2 g2 hi hz0 hz1 hz2 i0
  obtain ⟨g, hg⟩ : ∃ g, g = w.heap.size := ⟨_, rfl⟩
  rw [← hg] at o2 ⊢
  have HG := hide hg
  clear hg
  go_wp2_with fail
  go_loopw [13] (fun i wr => ∃ k : Nat, k ≤ n ∧ i = .int .i64 (k : Int) ∧ Hid (Own wr g (.slice (some ⟨g, 0, none⟩) n n) (part f n k)) ∧ Hid (Below g w wr)) (fun i _ => n - (intOf i).toNat)
  case atStart => exact ⟨0, Nat.zero_le _, rfl, hide (by rw [part_zero]; exact o2), hide (by rw [HG.out]; exact b2)⟩
  case round =>
    obtain ⟨k, hk, rfl, hown, hbel⟩ := hrel
    by_cases hlt : k < n
    · obtain ⟨b', off', rfl, ck, hx⟩ := at_place (HA.out.below (w' := wr) (by rw [← HG.out]; exact hbel.out)) HN.out HB.out k hlt
      have hfk : f k = gmul (xs.getD k 0) q := by rw [HF.out]
      obtain ⟨x, hxe⟩ : ∃ x, x = xs.getD k 0 := ⟨_, rfl⟩
      rw [← hxe] at ck hx hfk
      have cs := hown.out.cells_ (part_len f n k) k
      have c1 := cs.1 hlt
      have c2 := cs.2
      have st := hown.out.stored' (part_len f n k) k (f k)
      rw [part_set, hfk] at st
      have ST := hide st
      have BL := hide (show Below g w (wr.setCell ⟨g, k, none⟩ (.int .u8 ((gmul x q : Nat) : Int))) from hbel.out.setCell (Nat.le_refl _) _)
      clear cs st hfk hxe hown hbel
      go_wp2_with fail
      refine (mul_any x q _ hx hq).mono ?_
      rintro e w1 ⟨rfl, rfl⟩
      go_wp2_with fail
      go_roundw
      case rel => exact ⟨k + 1, by omega, by go_num, ST, BL⟩
      case measure => simp [intOf]; omega
    · obtain rfl : k = n := by omega
      go_wp2_with fail
      go_ret
      exact ⟨_, rfl, hown.out.more (Nat.le_of_eq HG.out.symm), by rw [← HG.out]; exact hbel.out⟩
end Go.Proofs.YtpjocddeiehckaaDoor
namespace Go.Proofs.YtpjocddeiehckaaDoor
open Go.RowKit
set_option maxHeartbeats 1600000 in
theorem add_any (A B : Option Addr) (n c d : Nat) (xs ys : List Nat) (w : World) (hA : Rd w A xs) (hB : Rd w B ys) (hn : xs.length = n) (hm : ys.length = n) (hb : ∀ x ∈ xs, x < 256) (hc : ∀ y ∈ ys, y < 256) (h3 : n ≤ 1000000) :
    Calls Tryd.prog 79 #[.slice A n c, .slice B n d] w fun e w' => ∃ g, e = .returned (.tuple #[.slice (some ⟨g, 0, none⟩) n n, .int .i64 0]) ∧ Own w' w.heap.size (.slice (some ⟨g, 0, none⟩) n n) (part (fun j => xs.getD j 0 ^^^ ys.getD j 0) n n) ∧ Below w.heap.size w w' := by
  obtain ⟨i0, hi, hz0, hz1, hz2⟩ := info_parts Tryd.info_u8'
  have HA := hide hA
  have HN := hide hn
  have HB := hide hb
  have HA2 := hide hB
  have HN2 := hide hm
  have HB2 := hide hc
  have hne0 : ((n : Int) != (n : Int)) = false := by simp
  obtain ⟨f, hf⟩ : ∃ f : Nat → Nat, f = fun j => xs.getD j 0 ^^^ ys.getD j 0 := ⟨_, rfl⟩
  rw [← hf]
  have HF := hide hf
  clear hA hn hb hf hB hm hc
  go_enter Tryd.func79, Tryd.ntmps79
  go_wp2_with (at_make; refine halt ?_)
  refine ⟨?_⟩
  refine wpList_make_full _ rfl (.tmp 15) (.tmp 15) 34 rfl w.heap.size 5 i0 (.int .u8 0) 1 Tryd.underlying34 hi hz0 hz1 .i64 .i64 n n n rfl rfl rfl rfl (by rw [hz2]; omega) (by unfold maxLen; omega) (Nat.le_refl _) ?_
  intro w2 h2 g2
  have o2 := made_bytes h2
  have b2 : Below w.heap.size w w2 := (Below.refl _ _).grown g2 (Nat.le_refl _) (by simp)
  clear h2 g2 hi hz0 hz1 hz2 i0
  obtain ⟨g, hg⟩ : ∃ g, g = w.heap.size := ⟨_, rfl⟩
  rw [← hg] at o2 ⊢
  have HG := hide hg
  clear hg
  go_wp2_with fail
  go_loopw [19] (fun i wr => ∃ k : Nat, k ≤ n ∧ i = .int .i64 (k : Int) ∧ Hid (Own wr g (.slice (some ⟨g, 0, none⟩) n n) (part f n k)) ∧ Hid (Below g w wr)) (fun i _ => n - (intOf i).toNat)
  case atStart => exact ⟨0, Nat.zero_le _, rfl, hide (by rw [part_zero]; exact o2), hide (by rw [HG.out]; exact b2)⟩
  case round =>
    obtain ⟨k, hk, rfl, hown, hbel⟩ := hrel
    by_cases hlt : k < n
    · obtain ⟨b', off', rfl, ck, hx⟩ := at_place (HA.out.below (w' := wr) (by rw [← HG.out]; exact hbel.out)) HN.out HB.out k hlt
      obtain ⟨b2', off2', rfl, ck2, hy⟩ := at_place (HA2.out.below (w' := wr) (by rw [← HG.out]; exact hbel.out)) HN2.out HB2.out k hlt
      have hfk : f k = xs.getD k 0 ^^^ ys.getD k 0 := by rw [HF.out]
      obtain ⟨x, hxe⟩ : ∃ x, x = xs.getD k 0 := ⟨_, rfl⟩
      obtain ⟨y, hye⟩ : ∃ y, y = ys.getD k 0 := ⟨_, rfl⟩
      rw [← hxe] at ck hx hfk
      rw [← hye] at ck2 hy hfk
      have hxy := u8_xor_nat x y hx hy
      obtain ⟨z, hze⟩ : ∃ z, z = x ^^^ y := ⟨_, rfl⟩
      rw [← hze] at hxy hfk
      have cs := hown.out.cells_ (part_len f n k) k
      have c1 := cs.1 hlt
      have c2 := cs.2
      have st := hown.out.stored' (part_len f n k) k (f k)
      rw [part_set, hfk] at st
      have ST := hide st
      have BL := hide (show Below g w (wr.setCell ⟨g, k, none⟩ (.int .u8 ((z : Nat) : Int))) from hbel.out.setCell (Nat.le_refl _) _)
      clear cs st hfk hxe hye hze hown hbel
      go_wp2_with fail
      go_roundw
      case rel => exact ⟨k + 1, by omega, by go_num, ST, BL⟩
      case measure => simp [intOf]; omega
    · obtain rfl : k = n := by omega
      go_wp2_with fail
      go_ret2
      exact ⟨_, rfl, hown.out.more (Nat.le_of_eq HG.out.symm), by rw [← HG.out]; exact hbel.out⟩
theorem add_unlike (A B : Option Addr) (n m c d : Nat) (w : World) (h : n ≠ m) :
    Calls Tryd.prog 79 #[.slice A n c, .slice B m d] w fun e w' => e = .returned (.tuple #[.slice none 0 0, .int .i64 1]) ∧ w = w' := by
  have hne0 : ((n : Int) != (m : Int)) = true := by simp; omega
  go_enter Tryd.func79, Tryd.ntmps79
  go_wp2_with fail
  go_ret2
  exact ⟨rfl, rfl⟩
end Go.Proofs.YtpjocddeiehckaaDoor
namespace Go.Proofs.YtpjocddeiehckaaDoor
open Go.RowKit
theorem unlike_any (A : Option Addr) (l c m p : Nat) (w : World) (hc : w.cell? ⟨p, 0, none⟩ = some (.int .i64 (m : Int))) :
    Calls Tryd.prog 68 #[.slice A l c, .pointer (some ⟨p, 0, none⟩)] w fun e w' => e = .returned (.bool (decide (l ≠ m))) ∧ w' = w := by
  by_cases h1 : l = m
  · have e1 : ((l : Int) != (m : Int)) = false := by simp [h1]
    rw [decide_eq_false (fun h => h h1)]
    clear h1
    go_enter Tryd.func68, Tryd.ntmps68
    go_wp2_with fail
    go_ret
    exact ⟨rfl, rfl⟩
  · have e1 : ((l : Int) != (m : Int)) = true := by simp; omega
    rw [decide_eq_true h1]
    clear h1
    go_enter Tryd.func68, Tryd.ntmps68
    go_wp2_with fail
    go_ret
    exact ⟨rfl, rfl⟩
abbrev unlikeF (p : Nat) : Value := .func (.func 68) #[] #[.pointer (some ⟨p, 0, none⟩)]
/-- Where the first row stands that is not as long. -/
def oddAt (xss : ML) (m : Nat) (r : Int) : Prop := (r = -1 ∧ ∀ i, i < xss.length → (xss.getD i []).length = m) ∨ ∃ j : Nat, r = (j : Int) ∧ j < xss.length ∧ (xss.getD j []).length ≠ m
set_option maxHeartbeats 800000 in
theorem odd_any (A : Option Addr) (n c m p : Nat) (xss : ML) (w : World) (hA : IsM w A xss) (hn : xss.length = n) (h3 : n ≤ 64) (hp : w.cell? ⟨p, 0, none⟩ = some (.int .i64 (m : Int))) :
    Calls Tryd.prog 76 #[.slice A n c, unlikeF p] w fun e w' => ∃ r, e = .returned (.int .i64 r) ∧ oddAt xss m r ∧ w' = w := by
  have HA := hide hA
  have HN := hide hn
  have HP := hide hp
  clear hA hn hp
  go_enter Tryd.func76, Tryd.ntmps76
  go_wp2_with fail
  go_loop [8] (fun i => ∃ j : Nat, j ≤ n ∧ i = .int .i64 (j : Int) ∧ Hid (∀ i, i < j → (xss.getD i []).length = m)) (fun i => n - (intOf i).toNat)
  case atStart => exact ⟨0, Nat.zero_le _, rfl, hide (fun i h => absurd h (Nat.not_lt_zero _))⟩
  case round =>
    obtain ⟨j, hj, rfl, hno⟩ := hrel
    by_cases hlt : j < n
    · obtain ⟨b, off, A', c', rfl, ck, -, l1, m1⟩ := HA.out.at_ j (by rw [HN.out]; exact hlt)
      obtain ⟨l, hl⟩ : ∃ l, l = (xss.getD j []).length := ⟨_, rfl⟩
      rw [← hl] at ck l1
      have HL := hide hl
      have hlt2 : (j : Int) < (n : Int) := by omega
      clear hl
      have HD := hide (unlike_any A' l c' m p w HP.out)
      by_cases e : l = m
      · rw [decide_eq_false (fun h => h e)] at HD
        have HE := hide e
        clear e
        go_wp2_with fail
        refine HD.out.mono ?_
        rintro e w2 ⟨rfl, rfl⟩
        go_wp2_with fail
        go_round
        case rel =>
          refine ⟨j + 1, by omega, by go_num, hide (fun i h => ?_)⟩
          by_cases e : i = j
          · subst e; rw [← HL.out]; exact HE.out
          · exact hno.out i (by omega)
        case measure => simp [intOf]; omega
      · rw [decide_eq_true e] at HD
        have HE := hide e
        clear e
        go_wp2_with fail
        refine HD.out.mono ?_
        rintro e w2 ⟨rfl, rfl⟩
        go_wp2_with fail
        go_ret
        exact ⟨_, rfl, .inr ⟨j, rfl, by rw [HN.out]; exact hlt, by rw [← HL.out]; exact HE.out⟩, rfl⟩
    · obtain rfl : j = n := by omega
      go_wp2_with fail
      go_ret
      exact ⟨_, rfl, .inl ⟨rfl, fun i hi => hno.out i (by rw [← HN.out]; exact hi)⟩, rfl⟩
theorem contains_any (A : Option Addr) (n c m p : Nat) (xss : ML) (w : World) (hA : IsM w A xss) (hn : xss.length = n) (h3 : n ≤ 64) (hp : w.cell? ⟨p, 0, none⟩ = some (.int .i64 (m : Int))) :
    Calls Tryd.prog 67 #[.slice A n c, unlikeF p] w fun e w' => e = .returned (.bool (decide (¬ ∀ i, i < xss.length → (xss.getD i []).length = m))) ∧ w' = w := by
  obtain ⟨t, ht⟩ : ∃ t, t = decide (¬ ∀ i, i < xss.length → (xss.getD i []).length = m) := ⟨_, rfl⟩
  rw [← ht]
  have HT := hide ht
  clear ht
  go_enter Tryd.func67, Tryd.ntmps67
  have HA := hide hA
  have HN := hide hn
  have HP := hide hp
  clear hA hn hp
  go_wp2_with fail
  refine (odd_any A n c m p xss w HA.out HN.out h3 HP.out).mono ?_
  rintro e w2 ⟨r, rfl, hr, rfl⟩
  rcases hr with ⟨rfl, hall⟩ | ⟨j, rfl, hj, hne⟩
  · obtain rfl : t = false := by rw [HT.out]; exact decide_eq_false (fun h => h hall)
    clear hall
    go_wp2_with fail
    go_ret
    exact ⟨rfl, rfl⟩
  · obtain rfl : t = true := by rw [HT.out]; exact decide_eq_true (fun h => hne (h j hj))
    have hjj : (0 : Int) ≤ (j : Int) := by omega
    clear hne
    go_wp2_with fail
    go_ret
    exact ⟨rfl, rfl⟩
set_option maxHeartbeats 800000 in
theorem isMatrix_any (A : Option Addr) (n c : Nat) (xss : ML) (w : World) (hA : IsM w A xss) (hn : xss.length = n) (h63 : n ≤ 9223372036854775807) :
    Calls Tryd.prog 60 #[.slice A n c] w fun e w' => e = .returned (.bool (isMt xss)) ∧ Below w.heap.size w w' := by
  have HA := hide hA
  have HN := hide hn
  clear hA hn
  by_cases h0 : n < 1
  · rw [isMt_no (by rw [HN.out]; omega)]
    go_enter Tryd.func60, Tryd.ntmps60
    have h1 : (n : Int) < 1 := by omega
    go_wp2_with fail
    go_ret
    exact ⟨rfl, Below.refl _ _⟩
  · by_cases h64 : n > 64
    · rw [isMt_no (by rw [HN.out]; omega)]
      go_enter Tryd.func60, Tryd.ntmps60
      have h1 : ¬ (n : Int) < 1 := by omega
      have h2 : 64 < (n : Int) := by omega
      go_wp2_with fail
      go_ret
      exact ⟨rfl, Below.refl _ _⟩
    · obtain ⟨b, off, A', c', rfl, ck, -, l1, m1⟩ := HA.out.at_ 0 (by rw [HN.out]; omega)
      have ck0 : w.cell? ⟨b, off, none⟩ = some (.slice A' (xss.getD 0 []).length c') := ck
      obtain ⟨m, hm⟩ : ∃ m, m = (xss.getD 0 []).length := ⟨_, rfl⟩
      rw [← hm] at ck0 l1
      have HM := hide hm
      have h1 : ¬ (n : Int) < 1 := by omega
      have h2 : ¬ 64 < (n : Int) := by omega
      have h3 : 0 < (n : Int) := by omega
      have kb := below_alloc w (.cells #[.int .i64 (m : Int)] 3)
      have KB := hide kb
      clear hm ck kb
      by_cases g0 : m < 1
      · rw [isMt_no2 (by rw [← HM.out]; omega)]
        have g1 : (m : Int) < 1 := by omega
        go_enter Tryd.func60, Tryd.ntmps60
        go_wp2_with fail
        go_ret
        exact ⟨rfl, KB.out⟩
      · have g1 : ¬ (m : Int) < 1 := by omega
        by_cases g64 : m > 64
        · rw [isMt_no2 (by rw [← HM.out]; omega)]
          have g2 : 64 < (m : Int) := by omega
          go_enter Tryd.func60, Tryd.ntmps60
          go_wp2_with fail
          go_ret
          exact ⟨rfl, KB.out⟩
        · have g2 : ¬ 64 < (m : Int) := by omega
          rw [isMt_is (by rw [HN.out]; omega) (by rw [← HM.out]; omega), ← HM.out]
          have hcell : (w.alloc (.cells #[.int .i64 (m : Int)] 3)).cell? ⟨w.heap.size, 0, none⟩ = some (.int .i64 (m : Int)) := cell_new w _ _
          have HC := hide (contains_any (some ⟨b, off, none⟩) n c m w.heap.size xss _ (HA.out.below KB.out) HN.out (by omega) hcell)
          clear hcell
          obtain ⟨t, ht⟩ : ∃ t, t = decide (∀ i, i < xss.length → (xss.getD i []).length = m) := ⟨_, rfl⟩
          have hnt : decide (¬ ∀ i, i < xss.length → (xss.getD i []).length = m) = !t := by rw [ht, decide_not]
          rw [hnt] at HC
          rw [← ht]
          clear ht hnt
          go_enter Tryd.func60, Tryd.ntmps60
          go_wp2_with fail
          refine HC.out.mono ?_
          rintro e w2 ⟨rfl, rfl⟩
          go_wp2_with fail
          go_ret
          exact ⟨by simp, KB.out⟩
end Go.Proofs.YtpjocddeiehckaaDoor
namespace Go.Proofs.YtpjocddeiehckaaDoor
open Go.RowKit
open Classical in
noncomputable def mulR (A B : ML) : ML := if mulBad A B then [] else mulL A B A.length B.length (B.getD 0 []).length
open Classical in
noncomputable def mulE (A B : ML) : Int := if mulBad A B then 1 else 0
theorem mul_fit {A B : ML} (h : ¬ mulBad A B) (hA : ∀ r ∈ A, ∀ x ∈ r, x < 256) (hB : ∀ r ∈ B, ∀ x ∈ r, x < 256) :
    1 ≤ A.length ∧ A.length ≤ 64 ∧ 1 ≤ B.length ∧ B.length ≤ 64 ∧ 1 ≤ (B.getD 0 []).length ∧ (B.getD 0 []).length ≤ 64 ∧ Shape A A.length B.length ∧ Shape B B.length (B.getD 0 []).length := by
  have h1 : isMt A = true := by
    rcases e : isMt A with _ | _
    · exact absurd (.inl e) h
    · rfl
  have h2 : isMt B = true := by
    rcases e : isMt B with _ | _
    · exact absurd (.inr (.inl e)) h
    · rfl
  have h3 : (A.getD 0 []).length = B.length := by
    rcases Decidable.em ((A.getD 0 []).length = B.length) with e | e
    · exact e
    · exact absurd (.inr (.inr e)) h
  have d1 := of_decide_eq_true h1
  have d2 := of_decide_eq_true h2
  refine ⟨d1.1, d1.2.1, d2.1, d2.2.1, d2.2.2.1, d2.2.2.2.1, ⟨rfl, ?_, hA⟩, ⟨rfl, d2.2.2.2.2, hB⟩⟩
  rw [← h3]
  exact d1.2.2.2.2
end Go.Proofs.YtpjocddeiehckaaDoor
namespace Go.Proofs.YtpjocddeiehckaaDoor
open Go.RowKit
set_option maxHeartbeats 1600000 in
theorem turned_any (A : Option Addr) (n m c : Nat) (xss : ML) (w : World) (hA : IsM w A xss) (hs : Shape xss n m) (h1 : 1 ≤ n) (h2 : n ≤ 64) (h4 : m ≤ 64) :
    Calls Tryd.prog 61 #[.slice A n c] w fun e w' => ∃ g R, e = .returned (.slice (some ⟨g, 0, none⟩) m m) ∧ Grid w' w.heap.size g m n R (turn (en xss)) ∧ Below w.heap.size w w' := by
  have HA := hide hA
  have HS := hide hs
  have HN := hide (noughts_any m n w (by omega) (by omega))
  obtain ⟨b, off, A', c', rfl, ck, -, l1, m1⟩ := hA.at_ 0 (by rw [hs.high]; omega)
  rw [hs.len_at 0 (by omega)] at ck l1
  have ck0 : w.cell? ⟨b, off, none⟩ = some (.slice A' m c') := ck
  obtain ⟨B, hB⟩ : ∃ B, B = w.heap.size := ⟨_, rfl⟩
  rw [← hB] at HN ⊢
  have HB := hide hB
  have g1 : 0 < (n : Int) := by omega
  clear hA hs hB ck
  go_enter Tryd.func61, Tryd.ntmps61
  go_wp2_with fail
  refine HN.out.mono ?_
  rintro e w1 ⟨g, R, rfl, gr, kb⟩
  have GR := hide gr
  have KB := hide kb
  clear gr kb HN
  go_wp2_with fail
  go_loopw [17] (fun i wr => ∃ k : Nat, k ≤ n ∧ i = .int .i64 (k : Int) ∧ Hid (∃ f, Grid wr B g m n R f ∧ ∀ x y, x < m → y < k → f x y = en xss y x) ∧ Hid (Below B w wr)) (fun i _ => n - (intOf i).toNat)
  case atStart => exact ⟨0, Nat.zero_le _, rfl, hide ⟨_, GR.out, fun x y _ hy => absurd hy (Nat.not_lt_zero y)⟩, KB⟩
  case round =>
    obtain ⟨k, hk, rfl, hf, hbel⟩ := hrel
    by_cases hlt : k < n
    · obtain ⟨b2, off2, A2, c2, e2, cr0, ir, l2, m2⟩ := HA.out.at_ k (by rw [HS.out.high]; exact hlt)
      cases e2
      rw [HS.out.len_at k hlt] at cr0 l2 ir
      have cr := (hbel.out.cell (p := ⟨b, off + k, none⟩) (by rw [HB.out]; exact cell_lt cr0)).trans cr0
      have IR := hide ir
      clear ir cr0
      go_wp2_with fail
      go_loopw [24] (fun i w2 => ∃ j : Nat, j ≤ m ∧ i = .int .i64 (j : Int) ∧ Hid (∃ f, Grid w2 B g m n R f ∧ ∀ x y, x < m → (y < k ∨ (y = k ∧ x < j)) → f x y = en xss y x) ∧ Hid (Below B w w2)) (fun i _ => m - (intOf i).toNat)
      case atStart =>
        refine ⟨0, Nat.zero_le _, rfl, ?_, hbel⟩
        obtain ⟨f, gf, ef⟩ := hf.out
        exact hide ⟨f, gf, fun x y hx hy => ef x y hx (by omega)⟩
      case round =>
        obtain ⟨j, hj, rfl, hf2, hbel2⟩ := hrel
        by_cases hlt2 : j < m
        · have hrow := HS.out.row hlt
          obtain ⟨b3, off3, rfl, cx, hx⟩ := at_place (IR.out.keep (by rw [← HB.out]; exact hbel2.out)).rd hrow.1 hrow.2 j hlt2
          rw [HS.out.num k j hlt] at cx hx
          obtain ⟨f, gf, ef⟩ := hf2.out
          have cc := gf.cell j hlt2
          have c2' := gf.num j k hlt2 hlt
          have c3 := gf.frozen j k hlt2
          have st := gf.set j k hlt2 (en xss k j)
          have BL := hide (gf.below j k hlt2 (.int .u8 ((en xss k j).n : Int)) hbel2.out)
          obtain ⟨z, hz⟩ : ∃ z, z = en xss k j := ⟨_, rfl⟩
          rw [← hz] at cx hx st BL
          have NX : Hid (∃ f, Grid (wr.setCell ⟨R j, k, none⟩ (.int .u8 (z.n : Int))) B g m n R f ∧ ∀ x y, x < m → (y < k ∨ (y = k ∧ x < j + 1)) → f x y = en xss y x) := by
            refine ⟨_, st, fun x y hx hy => ?_⟩
            by_cases e1 : x = j
            · subst e1
              by_cases e2 : y = k
              · subst e2; rw [upd_at, hz]
              · rw [upd_col e2]; exact ef x y hx (by omega)
            · rw [upd_row e1]; exact ef x y hx (by omega)
          clear st gf ef hf2 hbel2 hrow hz hx hf hbel cr
          go_wp2_with fail
          go_roundw
          case rel => exact ⟨j + 1, by omega, by go_num, NX, BL⟩
          case measure => simp [intOf]; omega
        · obtain rfl : j = m := by omega
          go_wp2_with fail
          go_roundw
          case rel =>
            refine ⟨k + 1, by omega, by go_num, ?_, hbel2⟩
            obtain ⟨f, gf, ef⟩ := hf2.out
            exact hide ⟨f, gf, fun x y hx hy => ef x y hx (by omega)⟩
          case measure => simp [intOf]; omega
    · obtain rfl : k = n := by omega
      go_wp2_with fail
      go_ret
      obtain ⟨f, gf, ef⟩ := hf.out
      refine ⟨g, R, rfl, ⟨gf.outer, fun i hi => ?_, gf.apart⟩, hbel.out⟩
      have := gf.row i hi
      rwa [show cellsG f i k = cellsG (turn (en xss)) i k from List.map_congr_left (fun y hy => by rw [ef i y hi (List.mem_range.1 hy)]; rfl)] at this
theorem mul_bad (A B : Option Addr) (n n2 c c2 : Nat) (xss yss : ML) (w : World) (hA : IsM w A xss) (hB : IsM w B yss) (hn : xss.length = n) (hn2 : yss.length = n2) (h63 : n ≤ 9223372036854775807) (h632 : n2 ≤ 9223372036854775807) (h : mulBad xss yss) :
    Calls Tryd.prog 43 #[.slice A n c, .slice B n2 c2] w fun e w' => e = .returned (.tuple #[.slice none 0 0, .int .i64 1]) ∧ Below w.heap.size w w' := by
  have HA := hide hA
  have H1 := hide (isMatrix_any A n c xss w hA hn h63)
  have H2 := hide (fun w' (k : Below w.heap.size w w') => isMatrix_any B n2 c2 yss w' (hB.below k) hn2 h632)
  have HN := hide hn
  have HN2 := hide hn2
  clear hA hB hn hn2
  rcases h1 : isMt xss with _ | _
  · rw [h1] at H1
    clear h h1
    go_enter Tryd.func43, Tryd.ntmps43
    go_wp2_with fail
    refine H1.out.mono ?_
    rintro e w1 ⟨rfl, k1⟩
    have K1 := hide k1
    clear k1
    go_wp2_with fail
    go_ret2
    exact ⟨rfl, K1.out⟩
  · rw [h1] at H1
    rcases h2 : isMt yss with _ | _
    · rw [h2] at H2
      clear h
      go_enter Tryd.func43, Tryd.ntmps43
      go_wp2_with fail
      refine H1.out.mono ?_
      rintro e w1 ⟨rfl, k1⟩
      have K1 := hide k1
      clear k1
      go_wp2_with fail
      refine (H2.out _ K1.out).mono ?_
      rintro e w2 ⟨rfl, k2⟩
      have K2 := hide (below_step K1.out k2)
      clear k2
      go_wp2_with fail
      go_ret2
      exact ⟨rfl, K2.out⟩
    · rw [h2] at H2
      have hne : (xss.getD 0 []).length ≠ n2 := by
        rcases h with h | h | h
        · rw [h1] at h; cases h
        · rw [h2] at h; cases h
        · rw [← HN2.out]; exact h
      have hd := of_decide_eq_true h1
      obtain ⟨b, off, A', c', rfl, ck, -, l1, m1⟩ := HA.out.at_ 0 (by omega)
      have ck0 : w.cell? ⟨b, off, none⟩ = some (.slice A' (xss.getD 0 []).length c') := ck
      obtain ⟨m, hm⟩ : ∃ m, m = (xss.getD 0 []).length := ⟨_, rfl⟩
      rw [← hm] at ck0 l1 hne
      have CK := hide ck0
      have g1 : 0 < (n : Int) := by rw [← HN.out]; omega
      have hne0 : ((m : Int) != (n2 : Int)) = true := by simp; omega
      clear h h1 h2 hd ck ck0 hne hm
      go_enter Tryd.func43, Tryd.ntmps43
      go_wp2_with fail
      refine H1.out.mono ?_
      rintro e w1 ⟨rfl, k1⟩
      have K1 := hide k1
      clear k1
      go_wp2_with fail
      refine (H2.out _ K1.out).mono ?_
      rintro e w2 ⟨rfl, k2⟩
      have K2 := hide (below_step K1.out k2)
      have ck2 := (K2.out.cell (cell_lt CK.out)).trans CK.out
      clear k2
      go_wp2_with fail
      go_ret2
      exact ⟨rfl, K2.out⟩
set_option maxHeartbeats 3200000 in
theorem mul_mat (A B : Option Addr) (n p m c c2 : Nat) (xss yss : ML) (w : World) (hA : IsM w A xss) (hB : IsM w B yss) (sA : Shape xss n p) (sB : Shape yss p m)
    (h1 : 1 ≤ n) (h2 : n ≤ 64) (h3 : 1 ≤ p) (h4 : p ≤ 64) (h5 : 1 ≤ m) (h6 : m ≤ 64) :
    Calls Tryd.prog 43 #[.slice A n c, .slice B p c2] w fun e w' => ∃ g, e = .returned (.tuple #[.slice (some ⟨g, 0, none⟩) n n, .int .i64 0]) ∧ OwnMt w' w.heap.size (.slice (some ⟨g, 0, none⟩) n n) (mulL xss yss n p m) ∧ Below w.heap.size w w' := by
  have H1 := isMatrix_any A n c xss w hA sA.high (by omega)
  rw [sA.isMt h1 h2 h3 h4] at H1
  have H1 := hide H1
  have H2 := hide (fun w' (k : Below w.heap.size w w') => by
    have := isMatrix_any B p c2 yss w' (hB.below k) sB.high (by omega)
    rw [sB.isMt h3 h4 h5 h6] at this
    exact this)
  have H3 := hide (fun w' (k : Below w.heap.size w w') => turned_any B p m c2 yss w' (hB.below k) sB h3 h4 h6)
  have HA := hide hA
  have SA := hide sA
  have SB := hide sB
  obtain ⟨b, off, A', c', rfl, ck, -, l1, m1⟩ := hA.at_ 0 (by rw [sA.high]; omega)
  rw [sA.len_at 0 (by omega)] at ck l1
  have CK : Hid (w.cell? ⟨b, off, none⟩ = some (.slice A' p c')) := hide ck
  have g1 : 0 < (n : Int) := by omega
  have hne0 : ((p : Int) != (p : Int)) = false := by simp
  clear hA hB sA sB ck
  go_enter Tryd.func43, Tryd.ntmps43
  go_wp2_with fail
  refine H1.out.mono ?_
  rintro e w1 ⟨rfl, k1⟩
  have K1 := hide k1
  clear k1 H1
  go_wp2_with fail
  refine (H2.out _ K1.out).mono ?_
  rintro e w2 ⟨rfl, k2⟩
  have K2 := hide (below_step K1.out k2)
  have ck2 := (K2.out.cell (cell_lt CK.out)).trans CK.out
  clear k2 H2
  go_wp2_with fail
  refine (H3.out _ K2.out).mono ?_
  rintro e w3 ⟨g, R, rfl, gr, k3⟩
  have GR := hide gr
  have K3 := hide (below_step K2.out k3)
  clear gr k3 H3 ck2
  go_wp2_with fail
  refine (noughts_any n m w3 (by omega) (by omega)).mono ?_
  rintro e w4 ⟨g4, R4, rfl, gr4, k4⟩
  have GR4 := hide (gr4.more (Nat.le_refl _))
  have GRK := hide (fun W (k : Below w3.heap.size w3 W) => GR.out.keep k)
  have K4 := hide k4
  clear gr4 k4 GR
  obtain ⟨B3, hB3⟩ : ∃ B3, B3 = w3.heap.size := ⟨_, rfl⟩
  rw [← hB3] at GR4 K4 GRK
  have HB3 := hide (show w.heap.size ≤ B3 by rw [hB3]; exact K3.out.size)
  clear hB3
  go_wp2_with fail
  go_loopw [38] (fun i wr => ∃ k : Nat, k ≤ n ∧ i = .int .i64 (k : Int) ∧ Hid (∃ f, Grid wr B3 g4 n m R4 f ∧ ∀ x y, x < k → y < m → f x y = mm p (en xss) (en yss) x y) ∧ Hid (Below B3 w3 wr)) (fun i _ => n - (intOf i).toNat)
  case atStart => exact ⟨0, Nat.zero_le _, rfl, hide ⟨_, GR4.out, fun x y hx => absurd hx (Nat.not_lt_zero x)⟩, K4⟩
  case round =>
    obtain ⟨k, hk, rfl, hf, hbel⟩ := hrel
    by_cases hlt : k < n
    · have cr := (let ⟨f, gf, _⟩ := hf.out; gf.cell k hlt)
      go_wp2_with fail
      go_loopw [45] (fun i w2 => ∃ j : Nat, j ≤ m ∧ i = .int .i64 (j : Int) ∧ Hid (∃ f, Grid w2 B3 g4 n m R4 f ∧ ∀ x y, (x < k ∨ (x = k ∧ y < j)) → y < m → f x y = mm p (en xss) (en yss) x y) ∧ Hid (Below B3 w3 w2)) (fun i _ => m - (intOf i).toNat)
      case atStart =>
        refine ⟨0, Nat.zero_le _, rfl, ?_, hbel⟩
        obtain ⟨f, gf, ef⟩ := hf.out
        exact hide ⟨f, gf, fun x y hx hy => ef x y (by omega) hy⟩
      case round =>
        obtain ⟨j, hj, rfl, hf2, hbel2⟩ := hrel
        by_cases hlt2 : j < m
        · have G0 := GRK.out _ hbel2.out
          have cc := G0.cell j hlt2
          have kw := K3.out.trans (hbel2.out.mono HB3.out)
          obtain ⟨b3, off3, A3, c3, e3, ca0, ia, l3, m3⟩ := HA.out.at_ k (by rw [SA.out.high]; exact hlt)
          cases e3
          have hrowA := SA.out.row hlt
          rw [hrowA.1] at ca0 l3 ia
          have ca := (kw.cell (cell_lt ca0)).trans ca0
          have hcol := (G0.own (by omega) (by omega)).row j hlt2
          have hrowT := (laid_shape m p (turn (en yss))).row hlt2
          obtain ⟨A5, c5, cc5, ow5, -⟩ := hcol
          rw [cc] at cc5
          simp only [Option.some.injEq, Value.slice.injEq] at cc5
          obtain ⟨rfl, -, rfl⟩ := cc5
          rw [hrowT.1] at ow5
          have HD := dot_any A3 (some ⟨R j, 0, none⟩) p c3 p (xss.getD k []) ((laid m p (turn (en yss))).getD j []) wr (ia.keep kw).rd ow5.isB.rd hrowA.1 hrowT.1 hrowA.2 hrowT.2 (by omega)
          rw [dot_mm yss SA.out k j hlt hlt2] at HD
          have HD := hide HD
          obtain ⟨f, gf, ef⟩ := hf2.out
          have c2' := gf.num k j hlt hlt2
          have c3' := gf.frozen k j hlt
          have st := gf.set k j hlt (mm p (en xss) (en yss) k j)
          have BL := hide (gf.below k j hlt (.int .u8 ((mm p (en xss) (en yss) k j).n : Int)) hbel2.out)
          obtain ⟨z, hz⟩ : ∃ z, z = mm p (en xss) (en yss) k j := ⟨_, rfl⟩
          rw [← hz] at HD st BL
          have NX : Hid (∃ f, Grid (wr.setCell ⟨R4 k, j, none⟩ (.int .u8 (z.n : Int))) B3 g4 n m R4 f ∧ ∀ x y, (x < k ∨ (x = k ∧ y < j + 1)) → y < m → f x y = mm p (en xss) (en yss) x y) := by
            refine ⟨_, st, fun x y hx hy => ?_⟩
            by_cases e1 : x = k
            · subst e1
              by_cases e2 : y = j
              · subst e2; rw [upd_at, hz]
              · rw [upd_col e2]; exact ef x y (by omega) hy
            · rw [upd_row e1]; exact ef x y (by omega) hy
          clear st gf ef hf2 hbel2 hrowA hrowT hz hf hbel cr G0 kw ca0 ia ow5
          go_wp2_with fail
          refine HD.out.mono ?_
          rintro e w6 ⟨rfl, rfl⟩
          go_wp2_with fail
          go_roundw
          case rel => exact ⟨j + 1, by omega, by go_num, NX, BL⟩
          case measure => simp [intOf]; omega
        · obtain rfl : j = m := by omega
          go_wp2_with fail
          go_roundw
          case rel =>
            refine ⟨k + 1, by omega, by go_num, ?_, hbel2⟩
            obtain ⟨f, gf, ef⟩ := hf2.out
            exact hide ⟨f, gf, fun x y hx hy => ef x y (by omega) hy⟩
          case measure => simp [intOf]; omega
    · obtain rfl : k = n := by omega
      go_wp2_with fail
      go_ret2
      obtain ⟨f, gf, ef⟩ := hf.out
      refine ⟨g4, rfl, ?_, K3.out.trans (hbel.out.mono HB3.out)⟩
      have := (gf.own (by omega) (by omega)).more HB3.out
      rwa [show laid k m f = mulL xss yss k p m from laid_congr (fun i hi j hj => ef i j hi hj)] at this
end Go.Proofs.YtpjocddeiehckaaDoor
namespace Go.Proofs.YtpjocddeiehckaaDoor
open Go.RowKit
theorem mul_all (A B : Option Addr) (n n2 c c2 : Nat) (xss yss : ML) (w : World) (hA : IsM w A xss) (hB : IsM w B yss) (hn : xss.length = n) (hn2 : yss.length = n2) (h63 : n ≤ 9223372036854775807) (h632 : n2 ≤ 9223372036854775807)
    (bA : ∀ r ∈ xss, ∀ x ∈ r, x < 256) (bB : ∀ r ∈ yss, ∀ x ∈ r, x < 256) :
    Calls Tryd.prog 43 #[.slice A n c, .slice B n2 c2] w fun e w' => ∃ v, e = .returned (.tuple #[v, .int .i64 (mulE xss yss)]) ∧ OwnMt w' w.heap.size v (mulR xss yss) ∧ Below w.heap.size w w' := by
  unfold mulE mulR
  by_cases h : mulBad xss yss
  · rw [if_pos h, if_pos h]
    refine (mul_bad A B n n2 c c2 xss yss w hA hB hn hn2 h63 h632 h).mono ?_
    rintro e w' ⟨rfl, hb⟩
    exact ⟨_, rfl, OwnMt.nil _ _, hb⟩
  · rw [if_neg h, if_neg h]
    obtain ⟨h1, h2, h3, h4, h5, h6, sA, sB⟩ := mul_fit h bA bB
    rw [hn] at h1 h2 sA ⊢
    rw [hn2] at h3 h4 sA sB ⊢
    exact (mul_mat A B n n2 _ c c2 xss yss w hA hB sA sB h1 h2 h3 h4 h5 h6).mono fun e w' ⟨g, k1, k2, k3⟩ => ⟨_, k1, k2, k3⟩
end Go.Proofs.YtpjocddeiehckaaDoor
namespace Go.Proofs.YtpjocddeiehckaaDoor
open Go.RowKit
set_option maxHeartbeats 400000 in
theorem cloneS_any (A : Option Addr) (n c : Nat) (xs : List Nat) (w : World) (hA : IsB w (.slice A n c) xs) (hn : xs.length = n) (h3 : n ≤ 1099511627776) :
    Calls Tryd.prog 23 #[.slice A n c] w fun e w' => ∃ s, e = .returned s ∧ Own w' w.heap.size s xs ∧ Below w.heap.size w w' := by
  have HA := hide hA
  have HN := hide hn
  have q22 : ∀ (w : World) (a : Option Addr) (n c n' c' : Nat), (binOp .eql 34 (.slice a n c) (.slice none n' c')).run Tryd.prog w = .ok (.bool a.isNone) w := fun w a n c n' c' => Lib.run_eql_slice_nil w _ _ a n c n' c' Tryd.underlying34
  rcases A with _ | a
  · have e0 : xs = [] := by
      rcases xs with _ | ⟨y, ys⟩
      · rfl
      · obtain ⟨_, _, e, _⟩ := hA.rd (by simp)
        cases e
    subst e0
    have h0 : n = 0 := by simpa using hn.symm
    subst h0
    clear hA hn
    go_enter Tryd.func23, Tryd.ntmps23
    go_wp2_with fail
    go_ret
    exact ⟨_, rfl, World.ownsRow_nil _ _ _ _, Below.refl _ _⟩
  · clear hA hn
    have nb : Below w.heap.size w (w.alloc (.cells #[] 5)) := (Below.refl _ _).alloc (Nat.le_refl _) _
    go_enter Tryd.func23, Tryd.ntmps23
    go_wp2_with (at_builtin; refine halt ?_)
    refine ⟨?_⟩
    refine wpList_append_bytes rfl (.tmp 5) (.tmp 6) rfl w.heap.size _ [] rfl (own_lit w #[] [] rfl (by decide)) _ xs rfl (HA.out.keep nb) (by rw [HN.out, List.length_nil]; omega) nb.size ?_
    intro s1 w1 o1 k1
    rw [List.nil_append] at o1
    have O1 := hide o1
    have K1 := hide (nb.trans k1)
    clear nb o1 k1
    go_wp2_with fail
    go_ret
    exact ⟨_, rfl, O1.out, K1.out⟩
end Go.Proofs.YtpjocddeiehckaaDoor
