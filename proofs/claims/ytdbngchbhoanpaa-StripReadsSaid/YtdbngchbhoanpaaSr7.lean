/- Bytes as slice values, and the law of an append of bytes to a slice of the call's own, whatever the appended slice is (nil, empty or not). Conditions: the lengths together are below 2 to the 47. Rows that are laid place by place; rows that came in, at a place; the sum of products. It names nothing of the program. Matrices as lists of rows of bytes: product, One, the code, picks. It names nothing of the program. A matrix and One side by side, row by row brought to One and the inverse: what each step leaves. It names nothing of the program. Words of the code: what rows and their sums are, which rows bring all back, which one is wrong. It names nothing of the program. -/
import Derived.Test.YtdbngchbhoanpaaSr5
import Derived.Laws.AppendOwnNone
import Derived.OpenShut
import Derived.RegionTactic
import Derived.ChangeAlike
import Derived.Test.YtdbngchbhoanpaaSr3
namespace Go.Proofs.Ytdbngchbhoanpaa
open Go.RowKit
/-- A place at which the walk stops. -/
structure Halt (p : Prop) : Prop where
  out : p
theorem halt {p : Prop} (h : Halt p) : p := h.out
/-- The value is a slice that reads as these bytes. -/
def IsB (w : World) (v : Value) (xs : List Nat) : Prop := ∃ A c, v = .slice A xs.length c ∧ Rd w A xs ∧ (A = none → c = 0) ∧ xs.length ≤ c ∧ c ≤ 9223372036854775807
theorem Own.more {w : World} {B B' : Nat} {v : Value} {l : List Nat} (h : Own w B v l) (hb : B' ≤ B) : Own w B' v l := by
  unfold Own at h ⊢
  refine ⟨h.1, ?_⟩
  rcases h.2 with hn | ⟨g, cap, cur, hv, h1, r⟩
  · exact .inl hn
  · exact .inr ⟨g, cap, cur, hv, by omega, r⟩
theorem add_off (b off j : Nat) : (⟨b, off, none⟩ : Addr).add j = ⟨b, off + j, none⟩ := by
  unfold Addr.add; split <;> simp_all
theorem Own.isB {w : World} {B : Nat} {v : Value} {xs : List Nat} (h : Own w B v xs) : IsB w v xs := by
  unfold Own at h
  rcases h.2 with ⟨rfl, hn⟩ | ⟨g, cap, cur, rfl, _, _, c1, c2, _⟩
  · refine ⟨none, 0, by rw [hn], fun hne => ?_, fun _ => rfl, by omega, by decide⟩
    exact absurd (List.eq_nil_of_length_eq_zero hn) hne
  · refine ⟨_, _, rfl, fun _ => ⟨g, 0, rfl, fun i hi => ?_⟩, (fun h => by cases h), c1, by unfold maxLen at c2; omega⟩
    rw [Nat.zero_add, h.cellAt i (by omega)]
    simp [hi]
theorem IsB.keep {w w' : World} {v : Value} {xs : List Nat} (h : IsB w v xs) (hb : Below w.heap.size w w') : IsB w' v xs := by
  obtain ⟨A, c, e, hr, hn⟩ := h
  exact ⟨A, c, e, hr.below hb, hn⟩
theorem Try.info_u8' : (Try.prog.info? 5).map (fun i => (i.zero, i.size, i.bytes)) = some (some (.int .u8 0), 1, 1) := by kernel_rfl
theorem wpList_append_bytes {w : World} {ops : Array Oper} {rest : List Oper} {o : Oper} {a : Act} {Q : Exit → Act → World → Prop} (hgd : o.guard = none) (s x : Operand)
    (ho : o.op = .call { callee := .builtin .append, args := #[s, x], argTypes := #[24, 24] })
    (B : Nat) (v : Value) (xs : List Nat) (hs : a.eval s = v) (hown : Own w B v xs)
    (u : Value) (ys : List Nat) (hx : a.eval x = u) (hr : IsB w u ys)
    (hlen : xs.length + ys.length ≤ 140737488355328) (hbase : B ≤ w.heap.size)
    (h : ∀ v' w', Own w' B v' (xs ++ ys) → Below B w w' → wpList Try.prog ops Q rest (a.put o.dst v') w') : wpList Try.prog ops Q (o :: rest) a w := by
  obtain ⟨i0, hi, hz0, hz1, hz2⟩ := info_parts Try.info_u8'
  obtain ⟨A, c, rfl, hr, hn, _⟩ := hr
  have fin : ∀ v' w', w'.ownsRow B 5 1 v' (xs.length + ys.length) ((xs.map fun x : Nat => Value.int .u8 (x : Int)) ++ (ys.map fun x : Nat => Value.int .u8 (x : Int))) → w.grownBy w' v.ownBlock → wpList Try.prog ops Q rest (a.put o.dst v') w' := by
    intro v' w' hown' hg
    refine h v' w' (by unfold Own; simpa using hown') ((Below.refl _ _).grown hg hbase fun k hk => (hown.lt k hk).1)
  rcases A with _ | ad
  · have h0 := hn rfl
    subst h0
    have hys : ys = [] := by
      rcases ys with _ | ⟨y, ys⟩
      · rfl
      · obtain ⟨_, _, e, _⟩ := hr (by simp)
        cases e
    subst hys
    exact wpList_append_own_none hgd s x _ ho B 5 i0 1 Try.underlying24 hi v _ _ hs hown hx (fin v w (by simpa [Own] using hown) (World.grownBy.refl w _))
  · refine wpList_append_own w hgd s x _ ho B 5 i0 (.int .u8 0) 1 1 Try.underlying24 hi hz0 hz1 hz2 rfl (by decide) v _ _ hs hown ad ys.length c (ys.map fun x : Nat => Value.int .u8 (x : Int)) hx (by simp) ?_ ?_ (by unfold maxLen; omega) (by omega) hbase (fun v' w' h1 h2 _ => fin v' w' h1 h2)
    · intro j u hu
      have hj : j < ys.length := by
        rcases Nat.lt_or_ge j ys.length with h | h
        · exact h
        · simp [h] at hu
      obtain ⟨b, off, e, hc⟩ := hr (by intro e; rw [e] at hj; simp at hj)
      cases e
      have := hc j hj
      simp [hj] at hu
      subst hu
      simpa [add_off, hj] using this
    · intro u hu
      simp at hu
      obtain ⟨y, _, rfl⟩ := hu
      rfl
/-- What the walk is told of a slice of integers that came in. -/
def IsRow (k : IntKind) (w : World) (a : Option Addr) (len cap : Nat) (zs : List Int) : Prop :=
  (a = none ∧ len = 0 ∧ cap = 0 ∧ zs = []) ∨
  ∃ x, a = some x ∧ len ≤ cap ∧ cap ≤ maxLen ∧ zs.length = cap ∧ (∀ i, i < zs.length → w.cell? (x.add i) = some (.int k (zs.getD i 0))) ∧ ∀ n ∈ zs, (Lit.int k n).wf = true
/-- Bytes that came in read as bytes. -/
theorem IsRow.isB {w : World} {a : Option Addr} {len cap : Nat} {zs : List Int} (h : IsRow .u8 w a len cap zs) :
    ∃ xs : List Nat, xs.length = len ∧ (∀ x ∈ xs, x < 256) ∧ IsB w (.slice a len cap) xs ∧ len ≤ 9223372036854775807 := by
  rcases h with ⟨rfl, rfl, rfl, rfl⟩ | ⟨x, rfl, h1, h2, h3, hc, hw⟩
  · exact ⟨[], rfl, by simp, ⟨none, 0, rfl, fun h => absurd rfl h, fun _ => rfl, by decide, by decide⟩, by decide⟩
  · have hb : ∀ z ∈ zs, 0 ≤ z ∧ z ≤ 255 := fun z hz => bounds_u8 (hw z hz)
    refine ⟨(zs.take len).map Int.toNat, by simp; omega, ?_, ⟨some x, cap, by congr 1; simp; omega, ?_, (fun h => by cases h), by simp; omega, by unfold maxLen at h2; omega⟩, by unfold maxLen at h2; omega⟩
    · intro y hy
      simp only [List.mem_map] at hy
      obtain ⟨z, hz, rfl⟩ := hy
      have := hb z (List.mem_of_mem_take hz)
      omega
    · intro hne
      have hl : 0 < zs.length := by
        rcases zs with _ | ⟨z, zs⟩
        · simp at hne
        · simp
      obtain ⟨b, off, sp⟩ := x
      have hs0 := hc 0 hl
      have hsp : sp = none := by simpa [Addr.add] using World.cell?_spot hs0
      subst hsp
      refine ⟨b, off, rfl, fun i hi => ?_⟩
      have hi2 : i < len ∧ i < zs.length := by simp at hi; omega
      have := hc i hi2.2
      rw [add_off] at this
      rw [this]
      have hz := hb zs[i] (List.getElem_mem hi2.2)
      simp [hi2.1, hi2.2]
      omega
theorem IsB.drewN {w : World} {v : Value} {xs : List Nat} (h : IsB w v xs) (d : Nat) : IsB (w.drewN d) v xs := h
theorem IsB.rd {w : World} {A : Option Addr} {n c : Nat} {xs : List Nat} (h : IsB w (.slice A n c) xs) : Rd w A xs := by
  obtain ⟨A', c', e, r, _⟩ := h
  cases e
  exact r
theorem IsB.form {w : World} {v : Value} {xs : List Nat} {n : Nat} (h : IsB w v xs) (hn : xs.length = n) : ∃ A c, v = .slice A n c ∧ IsB w (.slice A n c) xs ∧ n ≤ c ∧ c ≤ 9223372036854775807 := by
  subst hn
  obtain ⟨A, c, e, r, h1, h2, h3⟩ := h
  exact ⟨A, c, e, ⟨A, c, rfl, r, h1, h2, h3⟩, h2, h3⟩
theorem byte_app {xs ys : List Nat} (h1 : ∀ x ∈ xs, x < 256) (h2 : ∀ x ∈ ys, x < 256) : ∀ x ∈ xs ++ ys, x < 256 := by
  intro x hx
  rcases List.mem_append.1 hx with h | h
  · exact h1 x h
  · exact h2 x h
theorem below_step {w a b : World} (h : Below w.heap.size w a) (k : Below a.heap.size a b) : Below w.heap.size w b := h.trans (k.mono h.size)
theorem below_draw {w a : World} (h : Below w.heap.size w a) (d : Nat) : Below w.heap.size w (a.drewN d) := below_drewN h d
theorem own_lit (w : World) (cs : Array Value) (xs : List Nat) (h : cs.toList = xs.map fun x : Nat => Value.int .u8 (x : Int)) (hl : xs.length ≤ 140737488355328) :
    Own (w.alloc (.cells cs 5)) w.heap.size (.slice (some ⟨w.heap.size, 0, none⟩) xs.length xs.length) xs := by
  have hs : cs.size = xs.length := by rw [← Array.length_toList, h]; simp
  have := World.ownsRow_lit (base := w.heap.size) (e := 5) (size := 1) w cs xs.length (Nat.le_refl _) (by unfold maxLen; omega) (by omega)
  rw [h] at this
  exact this
/-- A beginning of bytes. -/
theorem IsB.take {w : World} {A : Option Addr} {n c : Nat} {xs : List Nat} (h : IsB w (.slice A n c) xs) (k : Nat) (hk : k ≤ n) : IsB w (.slice A k c) (xs.take k) := by
  obtain ⟨A', c', e, r, h1, h2, h3⟩ := h
  cases e
  have hl : (xs.take k).length = k := by rw [List.length_take]; omega
  refine ⟨A, c, by rw [hl], ?_, h1, by omega, h3⟩
  intro hne
  obtain ⟨b, off, e, hc⟩ := r (by intro e; rw [e] at hne; simp at hne)
  refine ⟨b, off, e, fun i hi => ?_⟩
  have hi2 : i < k := by omega
  rw [hc i (by omega)]
  congr 2
  simp [hi2]
/-- Bytes that were handed in read the same where only what is new has been written. -/
theorem isB_new (w : World) (cs : Array Value) (xs : List Nat) (hl : cs.toList = xs.map fun x : Nat => Value.int .u8 (x : Int)) (h : xs.length ≤ 140737488355328) (b n : Nat) (hb : b = w.heap.size) (hn : n = xs.length) :
    IsB (w.alloc (.cells cs 5)) (.slice (some ⟨b, 0, none⟩) n n) xs := by
  subst hb; subst hn
  exact ⟨_, _, rfl, rd_new _ _ _ _ _ _ rfl hl, (fun h => by cases h), Nat.le_refl _, by omega⟩
theorem rd_at {w : World} {b off : Nat} {xs : List Nat} (h : ∀ i, i < xs.length → w.cell? ⟨b, off + i, none⟩ = some (.int .u8 ((xs.getD i 0 : Nat) : Int))) (hb : ∀ x ∈ xs, x < 256) (i : Nat) (hi : i < xs.length) :
    ∃ x : Nat, w.cell? ⟨b, off + i, none⟩ = some (.int .u8 (x : Int)) ∧ x < 256 ∧ x = xs.getD i 0 := by
  refine ⟨_, h i hi, ?_, rfl⟩
  have e : xs.getD i 0 = xs[i] := by simp [hi]
  rw [e]
  exact hb _ (List.getElem_mem hi)
end Go.Proofs.Ytdbngchbhoanpaa
namespace Go.Proofs.Ytdbngchbhoanpaa
open Go.RowKit
/-- A row of which k places are laid, by f. -/
def part (f : Nat → Nat) (n k : Nat) : List Nat := (List.range n).map fun j => if j < k then f j else 0
theorem part_len (f : Nat → Nat) (n k : Nat) : (part f n k).length = n := by simp [part]
theorem part_zero (f : Nat → Nat) (n : Nat) : part f n 0 = List.replicate n 0 := by
  apply List.ext_getElem
  · simp [part]
  · intro i h1 h2
    simp [part]
theorem part_set (f : Nat → Nat) (n k : Nat) : (part f n k).set k (f k) = part f n (k + 1) := by
  apply List.ext_getElem
  · simp [part]
  · intro i h1 h2
    rw [List.getElem_set]
    simp only [part, List.getElem_map, List.getElem_range]
    by_cases e : k = i
    · subst e; simp
    · rw [if_neg e]
      by_cases h : i < k
      · rw [if_pos h, if_pos (by omega)]
      · rw [if_neg h, if_neg (by omega)]
theorem part_get (f : Nat → Nat) (n j : Nat) (h : j < n) : (part f n n).getD j 0 = f j := by simp [part, h]
theorem made_bytes {w : World} {B g n : Nat} (h : w.ownsRow B 5 1 (.slice (some ⟨g, 0, none⟩) n n) n (madeCells (Value.int .u8 0).cells (n * 1)).toList) : Own w B (.slice (some ⟨g, 0, none⟩) n n) (List.replicate n 0) := by
  have e : (madeCells (Value.int .u8 0).cells (n * 1)).toList = List.replicate n (Value.int .u8 0) := by
    rw [Nat.mul_one]; exact toList_madeCells_one (Value.int .u8 0) n
  rw [e] at h
  unfold Own
  simpa using h
theorem Own.cells_ {w : World} {B : Nat} {g n c : Nat} {xs : List Nat} (h : Own w B (.slice (some ⟨g, 0, none⟩) n c) xs) (hn : xs.length = n) (k : Nat) :
    (k < n → w.cell? ⟨g, k, none⟩ = some (.int .u8 ((xs.getD k 0 : Nat) : Int))) ∧ w.frozen? ⟨g, k, none⟩ = false := by
  subst hn
  unfold Own at h
  refine ⟨fun hk => ?_, World.ownsRow.frozenAt h k⟩
  rw [World.ownsRow.cellAt h k (by omega)]
  simp [hk]
theorem Own.stored' {w : World} {B : Nat} {g n c : Nat} {xs : List Nat} (h : Own w B (.slice (some ⟨g, 0, none⟩) n c) xs) (hn : xs.length = n) (k z : Nat) :
    Own (w.setCell ⟨g, k, none⟩ (.int .u8 (z : Int))) B (.slice (some ⟨g, 0, none⟩) n c) (xs.set k z) := by
  subst hn
  unfold Own at h ⊢
  have := (World.ownsRow.stored h k (.int .u8 (z : Int))).1
  simpa [List.map_set] using this
theorem at_place {w : World} {A : Option Addr} {xs : List Nat} {n : Nat} (h : Rd w A xs) (hn : xs.length = n) (hb : ∀ x ∈ xs, x < 256) (k : Nat) (hk : k < n) :
    ∃ b off, A = some ⟨b, off, none⟩ ∧ w.cell? ⟨b, off + k, none⟩ = some (.int .u8 ((xs.getD k 0 : Nat) : Int)) ∧ xs.getD k 0 < 256 := by
  subst hn
  obtain ⟨b, off, e, hc⟩ := h (by intro e; rw [e] at hk; simp at hk)
  refine ⟨b, off, e, hc k hk, ?_⟩
  have : xs.getD k 0 = xs[k] := by simp [hk]
  rw [this]; exact hb _ (List.getElem_mem hk)
/-- The sum of the first k products. -/
def dotS (xs ys : List Nat) : Nat → Nat
  | 0 => 0
  | k + 1 => dotS xs ys k ^^^ gmul (xs.getD k 0) (ys.getD k 0)
theorem getD_lt {xs : List Nat} (hb : ∀ x ∈ xs, x < 256) (k : Nat) : xs.getD k 0 < 256 := by
  by_cases h : k < xs.length
  · have : xs.getD k 0 = xs[k] := by simp [h]
    rw [this]; exact hb _ (List.getElem_mem h)
  · have : xs.getD k 0 = 0 := by simp [Nat.le_of_not_lt h]
    omega
theorem dotS_lt {xs ys : List Nat} (hb : ∀ x ∈ xs, x < 256) : ∀ k, dotS xs ys k < 256
  | 0 => by show 0 < 256; omega
  | k + 1 => xor_lt8 (dotS_lt hb k) (gmul_lt _ (getD_lt hb k))
end Go.Proofs.Ytdbngchbhoanpaa
namespace Go.Proofs.Ytdbngchbhoanpaa
abbrev ML := List (List Nat)
def en (A : ML) : Mat := fun i j => G.of ((A.getD i []).getD j 0)
structure Shape (A : ML) (n m : Nat) : Prop where
  high : A.length = n
  wide : ∀ r ∈ A, r.length = m
  byte : ∀ r ∈ A, ∀ x ∈ r, x < 256
theorem Shape.row {A : ML} {n m i : Nat} (h : Shape A n m) (hi : i < n) : (A.getD i []).length = m ∧ ∀ x ∈ A.getD i [], x < 256 := by
  have hl : i < A.length := by rw [h.high]; exact hi
  have e : A.getD i [] = A[i] := by simp [hl]
  rw [e]
  exact ⟨h.wide _ (List.getElem_mem hl), h.byte _ (List.getElem_mem hl)⟩
theorem Shape.at_ {A : ML} {n m i : Nat} (h : Shape A n m) (hi : i < n) (j : Nat) : (en A i j).n = (A.getD i []).getD j 0 := G.of_n (getD_lt (h.row hi).2 j)
/-- Two that agree at every place are the same. -/
theorem Shape.ext {A B : ML} {n m : Nat} (h : Shape A n m) (k : Shape B n m) (e : ∀ i, i < n → ∀ j, j < m → en A i j = en B i j) : A = B := by
  apply List.ext_getElem (by rw [h.high, k.high])
  intro i h1 h2
  have hi : i < n := by rw [← h.high]; exact h1
  obtain ⟨a1, a2⟩ := h.row hi
  obtain ⟨b1, b2⟩ := k.row hi
  have ea : A.getD i [] = A[i] := by simp [h1]
  have eb : B.getD i [] = B[i] := by simp [h2]
  rw [ea] at a1 a2
  rw [eb] at b1 b2
  apply List.ext_getElem (by rw [a1, b1])
  intro j g1 g2
  have hj : j < m := by rw [← a1]; exact g1
  have := congrArg G.n (e i hi j hj)
  rw [h.at_ hi, k.at_ hi, ea, eb] at this
  simpa [g1, g2] using this
/-- A matrix that is laid place by place. -/
def laid (n m : Nat) (f : Mat) : ML := (List.range n).map fun i => (List.range m).map fun j => (f i j).n
theorem laid_shape (n m : Nat) (f : Mat) : Shape (laid n m f) n m := by
  refine ⟨by simp [laid], fun r hr => ?_, fun r hr x hx => ?_⟩
  · simp only [laid, List.mem_map] at hr
    obtain ⟨i, _, rfl⟩ := hr
    simp
  · simp only [laid, List.mem_map] at hr
    obtain ⟨i, _, rfl⟩ := hr
    simp only [List.mem_map] at hx
    obtain ⟨j, _, rfl⟩ := hx
    exact (f i j).lt
theorem laid_row {n m i : Nat} (f : Mat) (hi : i < n) : (laid n m f).getD i [] = (List.range m).map fun j => (f i j).n := by simp [laid, hi]
theorem laid_at {n m i j : Nat} (f : Mat) (hi : i < n) (hj : j < m) : en (laid n m f) i j = f i j := by
  unfold en
  rw [laid_row f hi]
  simp [hj, G.of_self]
theorem laid_en {A : ML} {n m : Nat} (h : Shape A n m) : laid n m (en A) = A := (laid_shape n m _).ext h (fun _ hi _ hj => laid_at _ hi hj)
def mulL (A B : ML) (n p m : Nat) : ML := laid n m (mm p (en A) (en B))
theorem mul_joins (A B C : ML) (n p q m : Nat) : mulL (mulL A B n p q) C n q m = mulL A (mulL B C p q m) n p m := by
  refine (laid_shape n m _).ext (laid_shape n m _) (fun i hi j hj => ?_)
  unfold mulL
  rw [laid_at _ hi hj, laid_at _ hi hj]
  have h1 : mm q (en (laid n q (mm p (en A) (en B)))) (en C) i j = mm q (mm p (en A) (en B)) (en C) i j := gs_congr (fun l hl => by rw [laid_at _ hi hl])
  have h2 : mm p (en A) (en (laid p m (mm q (en B) (en C)))) i j = mm p (en A) (mm q (en B) (en C)) i j := gs_congr (fun l hl => by rw [laid_at _ hl hj])
  rw [h1, h2, mm_assoc]
def oneL (n : Nat) : ML := laid n n dl
theorem one_mulL {A : ML} {n m : Nat} (h : Shape A n m) : mulL (oneL n) A n n m = A := by
  refine (laid_shape n m _).ext h (fun i hi j hj => ?_)
  rw [laid_at _ hi hj]
  have : mm n (en (oneL n)) (en A) i j = mm n dl (en A) i j := gs_congr (fun l hl => by unfold oneL; rw [laid_at _ hi hl])
  rw [this, mm_one_left hi]
theorem mulL_one_of {A B : ML} {n : Nat} (h : ∀ i, i < n → ∀ j, j < n → mm n (en A) (en B) i j = dl i j) : mulL A B n n n = oneL n :=
  (laid_shape n n _).ext (laid_shape n n _) (fun i hi j hj => by unfold oneL; rw [laid_at _ hi hj, laid_at _ hi hj]; exact h i hi j hj)
/-- The sum of products of two rows, as it is reckoned. -/
theorem dot_gs {xs ys : List Nat} (hx : ∀ x ∈ xs, x < 256) (hy : ∀ y ∈ ys, y < 256) : ∀ k, dotS xs ys k = (gs k (fun l => G.of (xs.getD l 0) * G.of (ys.getD l 0))).n
  | 0 => rfl
  | k + 1 => by
    show dotS xs ys k ^^^ gmul (xs.getD k 0) (ys.getD k 0) = (gs k _ + _).n
    rw [dot_gs hx hy k, G.add_n, G.mul_n, G.of_n (getD_lt hx k), G.of_n (getD_lt hy k)]
def codeL (k m : Nat) : ML := laid (k + m) k (codeRow k)
theorem code_known : codeL 2 1 = [[1, 0], [0, 1], [142, 244]] := by decide +kernel
theorem kx_n {x y : Nat} (hx : x < 256) (hy : y < 256) : (kx x y).n = ginv (x ^^^ y) := by
  show ginv (G.of (x ^^^ y)).n = _
  rw [G.of_n (xor_lt8 hx hy)]
/-! ### picks: rows that are taken one by one out of those that are left -/
structure Picks (t : Nat) (left P : List Nat) : Prop where
  count : P.length + left.length = t
  nodupL : left.Nodup
  nodupP : P.Nodup
  apart : ∀ x ∈ P, x ∉ left
  low : ∀ x ∈ P, x < t
  lowL : ∀ x ∈ left, x < t
theorem picks_start (t : Nat) : Picks t (List.range t) [] :=
  ⟨by simp, List.nodup_range, List.nodup_nil, fun _ h => absurd h (by simp), fun _ h => absurd h (by simp), fun x hx => List.mem_range.1 hx⟩
theorem Picks.take {t j : Nat} {left P : List Nat} (h : Picks t left P) (hj : j < left.length) : Picks t (left.take j ++ left.drop (j + 1)) (P ++ [left.getD j 0]) := by
  have e : left = left.take j ++ left[j] :: left.drop (j + 1) := by rw [List.getElem_cons_drop, List.take_append_drop]
  have eg : left.getD j 0 = left[j] := by simp [hj]
  have hn := h.nodupL
  rw [e, List.nodup_append] at hn
  obtain ⟨n1, n2, n3⟩ := hn
  obtain ⟨m1, m2⟩ := List.nodup_cons.1 n2
  have sub : ∀ x ∈ left.take j ++ left.drop (j + 1), x ∈ left := fun x hx => by
    rcases List.mem_append.1 hx with hx | hx
    · exact List.mem_of_mem_take hx
    · exact List.mem_of_mem_drop hx
  have hnot : left[j] ∉ left.take j ++ left.drop (j + 1) := fun hx => by
    rcases List.mem_append.1 hx with hx | hx
    · exact n3 _ hx _ (List.mem_cons.2 (.inl rfl)) rfl
    · exact m1 hx
  have hmem : left[j] ∈ left := List.getElem_mem hj
  rw [eg]
  refine ⟨?_, ?_, ?_, fun x hx => ?_, fun x hx => ?_, fun x hx => h.lowL x (sub x hx)⟩
  · have := h.count
    simp only [List.length_append, List.length_take, List.length_drop, List.length_singleton]
    omega
  · exact List.nodup_append.2 ⟨n1, m2, fun a ha b hb => n3 a ha b (List.mem_cons.2 (.inr hb))⟩
  · refine List.nodup_append.2 ⟨h.nodupP, by simp, fun a ha b hb e => ?_⟩
    rw [List.mem_singleton] at hb
    exact h.apart a ha (by rw [e, hb]; exact hmem)
  · rcases List.mem_append.1 hx with hx | hx
    · exact fun hl => h.apart x hx (sub x hl)
    · rw [List.mem_singleton] at hx
      rw [hx]
      exact hnot
  · rcases List.mem_append.1 hx with hx | hx
    · exact h.low x hx
    · rw [List.mem_singleton] at hx
      rw [hx]
      exact h.lowL _ hmem
/-- The rows that were picked are a matrix that takes nothing but noughts to noughts. -/
theorem picked_sharp {k m : Nat} {left P : List Nat} (h : Picks (k + m) left P) (hk : P.length = k) (ht : k + m ≤ 256) : Sharp k (en (P.map fun l => (codeL k m).getD l [])) := by
  have hs := code_sharp k P hk h.nodupP (fun l hl => by have := h.low l hl; omega) (by omega)
  intro v hv
  refine hs v (fun i hi => ?_)
  rw [← hv i hi]
  refine gs_congr (fun j hj => ?_)
  congr 1
  have hiP : i < P.length := by omega
  have e1 : P.getD i 0 = P[i] := by simp [hiP]
  have hlow := h.low P[i] (List.getElem_mem hiP)
  have e2 : (P.map fun l => (codeL k m).getD l []).getD i [] = (codeL k m).getD P[i] [] := by simp [hiP]
  show codeRow k (P.getD i 0) j = G.of (((P.map fun l => (codeL k m).getD l []).getD i []).getD j 0)
  rw [e1, e2]
  exact (laid_at (n := k + m) (m := k) (codeRow k) hlow hj).symm
end Go.Proofs.Ytdbngchbhoanpaa
namespace Go.Proofs.Ytdbngchbhoanpaa
def scaleR (r : List Nat) (s : Nat) : List Nat := r.map fun x => gmul x s
def addR (r t : List Nat) : List Nat := (List.range r.length).map fun j => r.getD j 0 ^^^ t.getD j 0
theorem scaleR_len (r : List Nat) (s : Nat) : (scaleR r s).length = r.length := by simp [scaleR]
theorem addR_len (r t : List Nat) : (addR r t).length = r.length := by simp [addR]
theorem scaleR_byte {r : List Nat} {s : Nat} (h : ∀ x ∈ r, x < 256) : ∀ x ∈ scaleR r s, x < 256 := by
  intro x hx
  simp only [scaleR, List.mem_map] at hx
  obtain ⟨y, hy, rfl⟩ := hx
  exact gmul_lt _ (h y hy)
theorem addR_byte {r t : List Nat} (h : ∀ x ∈ r, x < 256) (k : ∀ x ∈ t, x < 256) : ∀ x ∈ addR r t, x < 256 := by
  intro x hx
  simp only [addR, List.mem_map] at hx
  obtain ⟨j, _, rfl⟩ := hx
  exact xor_lt8 (getD_lt h j) (getD_lt k j)
theorem scaleR_at (r : List Nat) (s j : Nat) (hr : ∀ x ∈ r, x < 256) (hs : s < 256) : G.of ((scaleR r s).getD j 0) = G.of (r.getD j 0) * G.of s := by
  have h1 : (scaleR r s).getD j 0 = gmul (r.getD j 0) s := by
    unfold scaleR
    by_cases hj : j < r.length
    · simp [hj]
    · simp [Nat.le_of_not_lt hj, zero_gmul]
  have h2 := getD_lt hr j
  rw [h1]
  exact G.ext (by rw [G.of_n (gmul_lt _ h2), G.mul_n, G.of_n h2, G.of_n hs])
theorem addR_at (r t : List Nat) (j : Nat) (hj : j < r.length) (hr : ∀ x ∈ r, x < 256) (ht : ∀ x ∈ t, x < 256) : G.of ((addR r t).getD j 0) = G.of (r.getD j 0) + G.of (t.getD j 0) := by
  have h1 : (addR r t).getD j 0 = r.getD j 0 ^^^ t.getD j 0 := by simp [addR, hj]
  rw [h1]
  exact of_xor (getD_lt hr j) (getD_lt ht j)
theorem Shape.set {W : ML} {n m : Nat} (h : Shape W n m) (i : Nat) {r : List Nat} (h1 : r.length = m) (h2 : ∀ x ∈ r, x < 256) : Shape (W.set i r) n m := by
  refine ⟨by rw [List.length_set, h.high], fun q hq => ?_, fun q hq => ?_⟩
  · rcases List.mem_or_eq_of_mem_set hq with hq | rfl
    · exact h.wide q hq
    · exact h1
  · rcases List.mem_or_eq_of_mem_set hq with hq | rfl
    · exact h.byte q hq
    · exact h2
theorem set_row {W : ML} {i : Nat} (r : List Nat) (k : Nat) (hi : i < W.length) : (W.set i r).getD k [] = if k = i then r else W.getD k [] := by
  rw [List.getD_eq_getElem?_getD, List.getD_eq_getElem?_getD, List.getElem?_set]
  by_cases h : i = k
  · subst h
    rw [if_pos rfl, if_pos rfl, if_pos hi]
    rfl
  · rw [if_neg h, if_neg (fun e => h e.symm)]
theorem en_set {W : ML} {i : Nat} (r : List Nat) (k j : Nat) (hi : i < W.length) : en (W.set i r) k j = if k = i then G.of (r.getD j 0) else en W k j := by
  unfold en
  rw [set_row r k hi]
  split <;> rfl
/-- The first c columns are One's. -/
structure Half (n c : Nat) (a : Mat) (W : ML) : Prop where
  shape : Shape W n (n + n)
  steps : Steps n a (en W)
  unit : ∀ i, i < n → ∀ j, j < c → en W i j = dl i j
theorem dl_ne {i j : Nat} (h : i ≠ j) : dl i j = G.zero := if_neg h
theorem dl_eq (i : Nat) : dl i i = G.one := if_pos rfl
theorem half_start {A W : ML} {n : Nat} (hA : Shape A n n) (hW : Shape W n (n + n)) (h : ∀ i, i < n → W.getD i [] = A.getD i [] ++ (oneL n).getD i []) : Half n 0 (en A) W := by
  refine ⟨hW, steps_start n _ _ (fun i hi j hj => ?_) (fun i hi l hl => ?_), fun _ _ j hj => absurd hj (Nat.not_lt_zero j)⟩
  · have hl := (hA.row hi).1
    unfold en
    rw [h i hi]
    congr 1
    simp only [List.getD_eq_getElem?_getD] at hl ⊢
    rw [List.getElem?_append_left (by omega)]
  · have hw := (hA.row hi).1
    have h1 : en W i (n + l) = en (oneL n) i l := by
      unfold en
      rw [h i hi]
      congr 1
      simp only [List.getD_eq_getElem?_getD] at hw ⊢
      rw [List.getElem?_append_right (by omega)]
      congr 2
      omega
    rw [h1]
    exact laid_at _ hi hl
/-- The row with something in column c comes to its place, and is scaled to 1 there. -/
theorem Half.pivot {n c p : Nat} {a : Mat} {W : ML} (h : Half n c a W) (hc : c ≤ p) (hp : p < n) (hne : en W p c ≠ G.zero) :
    Half n c a ((W.set p (W.getD c [])).set c (scaleR (W.getD p []) (ginv (en W p c).n))) ∧ en ((W.set p (W.getD c [])).set c (scaleR (W.getD p []) (ginv (en W p c).n))) c c = G.one := by
  have hcn : c < n := by omega
  have hl := h.shape.high
  have rp := h.shape.row hp
  have rc := h.shape.row hcn
  have hinv : ginv (en W p c).n < 256 := ginv_lt (en W p c).lt
  have einv : G.of (ginv (en W p c).n) = (en W p c).inv := G.of_self (en W p c).inv
  have hen : ∀ k j, en ((W.set p (W.getD c [])).set c (scaleR (W.getD p []) (ginv (en W p c).n))) k j = if k = c then en W p j * (en W p c).inv else if k = p then en W c j else en W k j := fun k j => by
    rw [en_set _ _ _ (by rw [List.length_set]; omega)]
    split
    · rw [scaleR_at _ _ _ rp.2 hinv, einv]
      rfl
    · rw [en_set _ _ _ (by omega)]
      rfl
  refine ⟨⟨(h.shape.set p rc.1 rc.2).set c (by rw [scaleR_len]; exact rp.1) (scaleR_byte rp.2), ?_, fun i hi j hj => ?_⟩, ?_⟩
  · refine ((h.steps.swap hp hcn).scale (c := c) (G.inv_ne hne)).congr (fun i hi j hj => ?_)
    rw [hen]
    rcases Decidable.em (i = c) with e | e
    · rw [if_pos e, if_pos e]
      rcases Decidable.em (c = p) with e2 | e2
      · simp only [if_pos e2]
        rw [← e2]
      · simp only [if_neg e2, if_true]
    · rw [if_neg e, if_neg e]
      rcases Decidable.em (i = p) with e2 | e2
      · simp only [if_pos e2]
      · simp only [if_neg e2, if_neg e]
  · rw [hen]
    have z1 : en W p j = G.zero := by rw [h.unit p hp j hj, dl_ne (by omega)]
    have z2 : en W c j = G.zero := by rw [h.unit c hcn j hj, dl_ne (by omega)]
    rcases Decidable.em (i = c) with e | e
    · rw [if_pos e, z1, G.zero_mul, e, dl_ne (by omega)]
    · rw [if_neg e]
      rcases Decidable.em (i = p) with e2 | e2
      · rw [if_pos e2, z2, e2, dl_ne (by omega)]
      · rw [if_neg e2]
        exact h.unit i hi j hj
  · rw [hen, if_pos rfl]
    exact G.mul_inv hne
/-- Of the rows ahead of i none but row c has anything in column c. -/
structure Clear (n c i : Nat) (a : Mat) (W : ML) : Prop where
  half : Half n c a W
  one : en W c c = G.one
  none_ : ∀ k, k < i → k < n → k ≠ c → en W k c = G.zero
theorem Clear.skip {n c : Nat} {a : Mat} {W : ML} (h : Clear n c c a W) : Clear n c (c + 1) a W := ⟨h.half, h.one, fun k hk hn hne => h.none_ k (by omega) hn hne⟩
theorem Clear.next {n c i : Nat} {a : Mat} {W : ML} (h : Clear n c i a W) (hc : c < n) (hi : i < n) (hne : i ≠ c) :
    Clear n c (i + 1) a (W.set i (addR (W.getD i []) (scaleR (W.getD c []) (en W i c).n))) := by
  have hl := h.half.shape.high
  have ri := h.half.shape.row hi
  have rc := h.half.shape.row hc
  have hx := (en W i c).lt
  have hen : ∀ k j, j < n + n → en (W.set i (addR (W.getD i []) (scaleR (W.getD c []) (en W i c).n))) k j = if k = i then en W i j + en W c j * en W i c else en W k j := fun k j hj => by
    rw [en_set _ _ _ (by omega)]
    split
    · rw [addR_at _ _ _ (by rw [ri.1]; exact hj) ri.2 (scaleR_byte rc.2), scaleR_at _ _ _ rc.2 hx, G.of_self]
      rfl
    · rfl
  refine ⟨⟨h.half.shape.set i (by rw [addR_len]; exact ri.1) (addR_byte ri.2 (scaleR_byte rc.2)), ?_, fun k hk j hj => ?_⟩, ?_, fun k hk hkn hkc => ?_⟩
  · refine (h.half.steps.add (t := en W i c) hc hne).congr (fun k hk j hj => ?_)
    rw [hen k j hj]
    rcases Decidable.em (k = i) with e | e
    · rw [if_pos e, if_pos e]
    · rw [if_neg e, if_neg e]
  · rw [hen k j (by omega)]
    split
    · rename_i e
      have z : en W c j = G.zero := by rw [h.half.unit c hc j hj, dl_ne (by omega)]
      rw [z, G.zero_mul, G.add_zero, e]
      exact h.half.unit i hi j hj
    · exact h.half.unit k hk j hj
  · rw [hen c c (by omega), if_neg (fun e => hne e.symm)]
    exact h.one
  · rw [hen k c (by omega)]
    split
    · rw [h.one, G.one_mul, G.add_self]
    · rename_i e
      exact h.none_ k (by omega) hkn hkc
theorem Clear.done {n c : Nat} {a : Mat} {W : ML} (h : Clear n c n a W) : Half n (c + 1) a W := by
  refine ⟨h.half.shape, h.half.steps, fun i hi j hj => ?_⟩
  rcases Nat.lt_or_ge j c with h1 | h1
  · exact h.half.unit i hi j h1
  · obtain rfl : j = c := by omega
    rcases Decidable.em (i = j) with e | e
    · rw [e, h.one, dl_eq]
    · rw [h.none_ i hi hi e, dl_ne e]
theorem Half.flat {n c : Nat} {a : Mat} {W : ML} (h : Half n c a W) (hc : c < n) (hz : ∀ i, c ≤ i → i < n → en W i c = G.zero) : ¬ Sharp n a := h.steps.flat hc h.unit hz
/-- The right half, when all columns are One's. -/
def rightL (n : Nat) (W : ML) : ML := W.map fun r => r.drop n
theorem Half.right {n : Nat} {a : Mat} {W : ML} (h : Half n n a W) : Shape (rightL n W) n n ∧ (∀ i, i < n → ∀ j, j < n → mm n (en (rightL n W)) a i j = dl i j) ∧ (∀ i, i < n → ∀ j, j < n → mm n a (en (rightL n W)) i j = dl i j) := by
  have hs : Shape (rightL n W) n n := by
    refine ⟨by simp [rightL, h.shape.high], fun r hr => ?_, fun r hr x hx => ?_⟩
    · simp only [rightL, List.mem_map] at hr
      obtain ⟨q, hq, rfl⟩ := hr
      rw [List.length_drop, h.shape.wide q hq]
      omega
    · simp only [rightL, List.mem_map] at hr
      obtain ⟨q, hq, rfl⟩ := hr
      exact h.shape.byte q hq x (List.mem_of_mem_drop hx)
  have he : ∀ i, i < n → ∀ j, en (rightL n W) i j = en W i (n + j) := fun i hi j => by
    have hl : i < W.length := by rw [h.shape.high]; exact hi
    unfold en rightL
    congr 1
    simp [hl]
  obtain ⟨h1, h2⟩ := h.steps.done h.unit
  refine ⟨hs, fun i hi j hj => ?_, fun i hi j hj => ?_⟩
  · rw [← h1 i hi j hj]
    exact gs_congr (fun l _ => by rw [he i hi l])
  · rw [← h2 i hi j hj]
    exact gs_congr (fun l hl => by rw [he l hl j])
/-- There is one inverse. -/
theorem one_inverse {A B C : ML} {n : Nat} (hB : Shape B n n) (hC : Shape C n n) (h1 : ∀ i, i < n → ∀ j, j < n → mm n (en B) (en A) i j = dl i j) (h2 : ∀ i, i < n → ∀ j, j < n → mm n (en A) (en C) i j = dl i j) : B = C :=
  hB.ext hC (inverse_one h1 h2)
end Go.Proofs.Ytdbngchbhoanpaa
namespace Go.Proofs.Ytdbngchbhoanpaa
theorem getD_at {xs : List Nat} {x : Nat} (h : x < xs.length) : xs.getD x 0 = xs[x] := by simp [h]
/-- All rows, by the data. -/
def word (k : Nat) (X : Mat) : Mat := mm k (codeRow k) X
theorem word_low {k l : Nat} (X : Mat) (h : l < k) (x : Nat) : word k X l x = X l x := by
  show gs k (fun j => codeRow k l j * X j x) = X l x
  rw [gs_congr (g := fun j => dl l j * X j x) (fun j _ => by unfold codeRow; rw [if_pos h])]
  exact gs_dl_left (f := fun j => X j x) h
theorem word_congr {k : Nat} {X Y : Mat} {x : Nat} (h : ∀ j, j < k → X j x = Y j x) (l : Nat) : word k X l x = word k Y l x := gs_congr (fun j hj => by rw [h j hj])
theorem word_add (k : Nat) (X Y : Mat) (l x : Nat) : word k (fun i j => X i j + Y i j) l x = word k X l x + word k Y l x := by
  show gs k (fun j => codeRow k l j * (X j x + Y j x)) = _
  rw [gs_congr (g := fun j => codeRow k l j * X j x + codeRow k l j * Y j x) (fun j _ => G.mul_add _ _ _), gs_add]
  rfl
/-- Two words that agree in k unlike rows are the same. -/
theorem word_agree {k : Nat} {P : List Nat} (hk : P.length = k) (hn : P.Nodup) (hb : ∀ l ∈ P, l < 256) (h256 : k ≤ 256) {X Y : Mat} {x : Nat} (h : ∀ l ∈ P, word k X l x = word k Y l x) : ∀ i, i < k → X i x = Y i x := by
  have hs := code_sharp k P hk hn hb h256
  intro i hi
  have hv : ∀ r, r < k → mv k (fun i j => codeRow k (P.getD i 0) j) (fun j => X j x + Y j x) r = G.zero := fun r hr => by
    have hr2 : r < P.length := by omega
    have e : P.getD r 0 = P[r] := by simp [hr2]
    show gs k (fun j => codeRow k (P.getD r 0) j * (X j x + Y j x)) = G.zero
    rw [gs_congr (g := fun j => codeRow k P[r] j * X j x + codeRow k P[r] j * Y j x) (fun j _ => by rw [e, G.mul_add]), gs_add]
    have := h P[r] (List.getElem_mem hr2)
    have e1 : gs k (fun j => codeRow k P[r] j * X j x) = word k X P[r] x := rfl
    have e2 : gs k (fun j => codeRow k P[r] j * Y j x) = word k Y P[r] x := rfl
    rw [e1, e2, this, G.add_self]
  exact G.eq_of (hs _ hv i hi)
def wordL (k m n : Nat) (X : Mat) : ML := laid (k + m) n (word k X)
theorem wordL_len (k m n : Nat) (X : Mat) : (wordL k m n X).length = k + m := by simp [wordL, laid]
theorem wordL_shape (k m n : Nat) (X : Mat) : Shape (wordL k m n X) (k + m) n := laid_shape _ _ _
theorem wordL_congr {k m n : Nat} {X Y : Mat} (h : ∀ j, j < k → ∀ x, x < n → X j x = Y j x) : wordL k m n X = wordL k m n Y :=
  (laid_shape _ _ _).ext (laid_shape _ _ _) (fun i hi x hx => by
    unfold wordL
    rw [laid_at _ hi hx, laid_at _ hi hx]
    exact word_congr (fun j hj => h j hj x hx) i)
theorem wordL_row {k m n l : Nat} {X Y : Mat} (hl : l < k + m) (h : (wordL k m n X).getD l [] = (wordL k m n Y).getD l []) {x : Nat} (hx : x < n) : word k X l x = word k Y l x := by
  have h1 : en (wordL k m n X) l x = word k X l x := laid_at _ hl hx
  have h2 : en (wordL k m n Y) l x = word k Y l x := laid_at _ hl hx
  rw [← h1, ← h2]
  unfold en
  rw [h]
/-- Words that agree in the rows of P are the same. -/
theorem wordL_agree {k m n : Nat} {P : List Nat} (hk : P.length = k) (hn : P.Nodup) (hb : ∀ l ∈ P, l < k + m) (h256 : k + m ≤ 256) {X Y : Mat} (h : ∀ l ∈ P, (wordL k m n X).getD l [] = (wordL k m n Y).getD l []) : wordL k m n X = wordL k m n Y :=
  wordL_congr (fun j hj x hx => word_agree hk hn (fun l hl => by have := hb l hl; omega) (by omega) (fun l hl => wordL_row (hb l hl) (h l hl) hx) j hj)
/-- The data's rows stand first. -/
theorem wordL_low {k m n : Nat} {D : ML} (h : Shape D k n) : (wordL k m n (en D)).take k = D := by
  have hs := wordL_shape k m n (en D)
  have hl : ((wordL k m n (en D)).take k).length = k := by rw [List.length_take, wordL_len]; omega
  refine (Shape.ext (n := k) (m := n) ⟨hl, fun r hr => hs.wide r (List.mem_of_mem_take hr), fun r hr => hs.byte r (List.mem_of_mem_take hr)⟩ h (fun i hi x hx => ?_))
  have e : en ((wordL k m n (en D)).take k) i x = en (wordL k m n (en D)) i x := by
    unfold en
    congr 1
    simp [hi]
  rw [e]
  unfold wordL
  rw [laid_at _ (by omega) hx, word_low _ hi]
/-! ### which rows are there -/
def present (W : ML) : List Nat := (List.range W.length).filter fun i => !(W.getD i []).isEmpty
theorem present_mem {W : ML} {i : Nat} : i ∈ present W ↔ i < W.length ∧ W.getD i [] ≠ [] := by
  unfold present
  rw [List.mem_filter, List.mem_range]
  simp
theorem present_nodup (W : ML) : (present W).Nodup := List.nodup_range.filter _
/-- The first k of them. -/
def firstP (W : ML) (k : Nat) : List Nat := (present W).take k
theorem firstP_mem {W : ML} {k i : Nat} (h : i ∈ firstP W k) : i < W.length ∧ W.getD i [] ≠ [] := present_mem.1 (List.mem_of_mem_take h)
theorem firstP_nodup (W : ML) (k : Nat) : (firstP W k).Nodup := (present_nodup W).sublist (List.take_sublist k _)
theorem firstP_len {W : ML} {k : Nat} (h : k ≤ (present W).length) : (firstP W k).length = k := by unfold firstP; rw [List.length_take]; omega
/-- Which of the first i rows are there. -/
def filt (W : ML) (i : Nat) : List Nat := (List.range i).filter fun t => !(W.getD t []).isEmpty
theorem filt_all (W : ML) : filt W W.length = present W := rfl
theorem filt_yes {W : ML} {i : Nat} (h : W.getD i [] ≠ []) : filt W (i + 1) = filt W i ++ [i] := by
  unfold filt
  rw [List.range_succ, List.filter_append]
  congr 1
  have e : (W.getD i []).isEmpty = false := by
    cases q : W.getD i [] with
    | nil => exact absurd q h
    | cons a b => rfl
  simp only [List.filter_cons, e, List.filter_nil]
  rfl
theorem filt_no {W : ML} {i : Nat} (h : W.getD i [] = []) : filt W (i + 1) = filt W i := by
  unfold filt
  rw [List.range_succ, List.filter_append]
  have e : (W.getD i []).isEmpty = true := by rw [h]; rfl
  simp only [List.filter_cons, e, List.filter_nil]
  simp
theorem filt_take {W : ML} {i : Nat} : ∀ N, i ≤ N → ∃ r, filt W N = filt W i ++ r
  | 0, h => by
    obtain rfl : i = 0 := by omega
    exact ⟨[], by simp⟩
  | N + 1, h => by
    rcases Nat.lt_or_ge N i with h1 | h1
    · obtain rfl : i = N + 1 := by omega
      exact ⟨[], by simp⟩
    · obtain ⟨r, hr⟩ := filt_take N h1
      rcases Decidable.em (W.getD N [] = []) with e | e
      · exact ⟨r, by rw [filt_no e, hr]⟩
      · exact ⟨r ++ [N], by rw [filt_yes e, hr, List.append_assoc]⟩
theorem filt_first {W : ML} {i k : Nat} (h : i ≤ W.length) (hk : (filt W i).length = k) : firstP W k = filt W i ∧ k ≤ (present W).length := by
  obtain ⟨r, hr⟩ := filt_take W.length h
  rw [filt_all] at hr
  unfold firstP
  rw [hr]
  refine ⟨List.take_left' hk, by rw [List.length_append]; omega⟩
theorem filt_mem {W : ML} {i t : Nat} (h : t ∈ filt W i) : t < i ∧ W.getD t [] ≠ [] := by
  unfold filt at h
  rw [List.mem_filter, List.mem_range] at h
  simpa using h
/-- What Mend answers, where it answers: the word that has the first k rows that are there. -/
def mended (W : ML) (k m n : Nat) (L : ML) : Prop := ∃ X, L = wordL k m n X ∧ ∀ l ∈ firstP W k, L.getD l [] = W.getD l []
theorem mended_once {W : ML} {k m n : Nat} {L L' : ML} (hW : W.length = k + m) (h256 : k + m ≤ 256) (hp : k ≤ (present W).length) (h : mended W k m n L) (h' : mended W k m n L') : L = L' := by
  obtain ⟨X, rfl, hx⟩ := h
  obtain ⟨Y, rfl, hy⟩ := h'
  refine wordL_agree (firstP_len hp) (firstP_nodup W k) (fun l hl => ?_) h256 (fun l hl => by rw [hx l hl, hy l hl])
  rw [← hW]
  exact (firstP_mem hl).1
/-- The word that is made by the inverse of the rows that are there. -/
theorem mended_by {W : ML} {k m n : Nat} {inv hav : Mat} (hW : W.length = k + m) (hs : ∀ r ∈ W, r ≠ [] → r.length = n) (hb : ∀ r ∈ W, ∀ x ∈ r, x < 256) (hp : k ≤ (present W).length)
    (hi : ∀ i, i < k → ∀ j, j < k → mm k (fun i j => codeRow k ((firstP W k).getD i 0) j) inv i j = dl i j) (hh : ∀ i, i < k → ∀ x, x < n → hav i x = en W ((firstP W k).getD i 0) x) :
    mended W k m n (wordL k m n (mm k inv hav)) := by
  refine ⟨_, rfl, fun l hl => ?_⟩
  obtain ⟨i, hi2, e⟩ := List.getElem_of_mem hl
  have hlen := firstP_len hp
  have hik : i < k := by omega
  have hlm := firstP_mem hl
  have hlW : l < k + m := by rw [← hW]; exact hlm.1
  have hmem : W.getD l [] ∈ W := by
    have : W.getD l [] = W[l]'hlm.1 := by simp [hlm.1]
    rw [this]; exact List.getElem_mem _
  have hg : (firstP W k).getD i 0 = l := by simp [hi2, e]
  have hrl := hs _ hmem hlm.2
  have hrow := (wordL_shape k m n (mm k inv hav)).row hlW
  apply List.ext_getElem (by rw [hrow.1, hrl])
  intro x h1 h2
  have hx : x < n := by rw [← hrow.1]; exact h1
  have e1 : en (wordL k m n (mm k inv hav)) l x = en W l x := by
    unfold wordL
    rw [laid_at _ hlW hx]
    have h3 : word k (mm k inv hav) l x = mm k (mm k (fun i j => codeRow k ((firstP W k).getD i 0) j) inv) hav i x := by
      rw [mm_assoc]
      show gs k (fun j => codeRow k l j * _) = gs k (fun j => codeRow k ((firstP W k).getD i 0) j * _)
      rw [hg]
    rw [h3]
    have h4 : mm k (mm k (fun i j => codeRow k ((firstP W k).getD i 0) j) inv) hav i x = mm k dl hav i x := gs_congr (fun j hj => by rw [hi i hik j hj])
    rw [h4, mm_one_left hik, hh i hik x hx, hg]
  have e2 := congrArg G.n e1
  have e3 : (en (wordL k m n (mm k inv hav)) l x).n = ((wordL k m n (mm k inv hav)).getD l []).getD x 0 := (wordL_shape k m n (mm k inv hav)).at_ hlW x
  have e4 : (en W l x).n = (W.getD l []).getD x 0 := G.of_n (getD_lt (hb _ hmem) x)
  rw [e3, e4, getD_at h1, getD_at h2] at e2
  exact e2
/-- Whether all rows fit. -/
def fitting (W : ML) (k m n : Nat) : Prop := ∃ X, W = wordL k m n X
/-- All but row i. -/
def fittingBut (W : ML) (k m n i : Nat) : Prop := ∃ X, ∀ l, l < k + m → l ≠ i → W.getD l [] = (wordL k m n X).getD l []
theorem fitting_mended {W : ML} {k m n : Nat} (h : fitting W k m n) (V : ML) (hV : ∀ l ∈ firstP V k, W.getD l [] = V.getD l []) : mended V k m n W := by
  obtain ⟨X, rfl⟩ := h
  exact ⟨X, rfl, hV⟩
/-- k unlike numbers below k + m, none of them among two. -/
theorem rest_len {k m i j : Nat} (_hm : 2 ≤ m) : k ≤ ((List.range (k + m)).filter fun l => decide (l ≠ i ∧ l ≠ j)).length := by
  have h1 : (List.range (k + m)).length ≤ (((List.range (k + m)).filter fun l => decide (l ≠ i ∧ l ≠ j)) ++ [i, j]).length := nodup_len List.nodup_range (fun x hx => by
    by_cases h : x ≠ i ∧ x ≠ j
    · exact List.mem_append.2 (.inl (List.mem_filter.2 ⟨hx, decide_eq_true h⟩))
    · refine List.mem_append.2 (.inr ?_)
      by_cases e : x = i
      · simp [e]
      · have : x = j := by
          by_cases e2 : x = j
          · exact e2
          · exact absurd ⟨e, e2⟩ h
        simp [this])
  rw [List.length_range, List.length_append] at h1
  have h2 : ([i, j] : List Nat).length = 2 := rfl
  omega
/-- Two words that differ in row j at most, or in rows i and j, are the same, where m is 2 or more. -/
theorem word_two {k m n i j : Nat} (hm : 2 ≤ m) (h256 : k + m ≤ 256) {X Y : Mat} (h : ∀ l, l < k + m → l ≠ i → l ≠ j → (wordL k m n X).getD l [] = (wordL k m n Y).getD l []) : wordL k m n X = wordL k m n Y := by
  have hr := rest_len (k := k) (m := m) (i := i) (j := j) hm
  refine wordL_agree (P := ((List.range (k + m)).filter fun l => decide (l ≠ i ∧ l ≠ j)).take k) (by rw [List.length_take]; omega) ((List.nodup_range.filter _).sublist (List.take_sublist _ _)) (fun l hl => ?_) h256 (fun l hl => ?_)
  · exact List.mem_range.1 (List.mem_filter.1 (List.mem_of_mem_take hl)).1
  · have h2 := List.mem_filter.1 (List.mem_of_mem_take hl)
    have h3 := of_decide_eq_true h2.2
    exact h l (List.mem_range.1 h2.1) h3.1 h3.2
/-- One row of a word is changed: it no longer fits, and no row but that one is wrong. -/
theorem one_wrong {k m n j : Nat} {X : Mat} {r : List Nat} (hm : 2 ≤ m) (h256 : k + m ≤ 256) (hj : j < k + m) (hr : r ≠ (wordL k m n X).getD j []) (i : Nat) :
    fittingBut ((wordL k m n X).set j r) k m n i ↔ i = j := by
  have hset : ∀ l, ((wordL k m n X).set j r).getD l [] = if l = j then r else (wordL k m n X).getD l [] := fun l => set_row r l (by rw [wordL_len]; exact hj)
  constructor
  · rintro ⟨Y, hY⟩
    rcases Decidable.em (i = j) with e | e
    · exact e
    · exfalso
      have hsame : wordL k m n X = wordL k m n Y := word_two (i := i) (j := j) hm h256 (fun l hl h1 h2 => by
        have := hY l hl h1
        rw [hset, if_neg h2] at this
        exact this)
      have := hY j hj (fun q => e q.symm)
      rw [hset, if_pos rfl, ← hsame] at this
      exact hr this
  · rintro rfl
    exact ⟨X, fun l hl hne => by rw [hset, if_neg hne]⟩
theorem one_not {k m n j : Nat} {X : Mat} {r : List Nat} (hm : 2 ≤ m) (h256 : k + m ≤ 256) (hj : j < k + m) (hr : r ≠ (wordL k m n X).getD j []) : ¬ fitting ((wordL k m n X).set j r) k m n := by
  rintro ⟨Y, hY⟩
  have h1 := (one_wrong hm h256 hj hr (j + 1)).1 ⟨Y, fun l hl _ => by rw [hY]⟩
  omega
end Go.Proofs.Ytdbngchbhoanpaa
