/- Matrices that the call makes row by row, each row in a block of its own. No condition. A row appended to a matrix of the call's own. No condition. Products of matrices as lists; what is refused. It names nothing of the program. The code's rows. It names nothing of the program. What One and Code answer, also where they refuse. It names nothing of the program. What Sums answers, in words; the rows that fit. It names nothing of the program. A strip's first shards by lists: how high they are, and how they come about block by block. No program. What may have been turned: footprints. No condition. -/
import Derived.Test.YtdbngchbhoanpaaSx7
import Derived.Test.YtdbngchbhoanpaaSx5
namespace Go.Proofs.Ytdbngchbhoanpaa
open Go.RowKit
def rowV (r m : Nat) : Value := .slice (some ⟨r, 0, none⟩) m m
def cellsG (f : Mat) (i m : Nat) : List Value := (List.range m).map fun j => .int .u8 ((f i j).n : Int)
structure Grid (w : World) (B g n m : Nat) (R : Nat → Nat) (f : Mat) : Prop where
  outer : Blk w B 24 g ((List.range n).map fun i => rowV (R i) m)
  row : ∀ i, i < n → Blk w B 5 (R i) (cellsG f i m)
  apart : ∀ i j, i < n → j < n → R i = R j → i = j
theorem Grid.keep {w w' : World} {B g n m : Nat} {R : Nat → Nat} {f : Mat} (h : Grid w B g n m R f) (hb : Below w.heap.size w w') : Grid w' B g n m R f := ⟨h.outer.keep hb, fun i hi => (h.row i hi).keep hb, h.apart⟩
theorem Grid.more {w : World} {B B' g n m : Nat} {R : Nat → Nat} {f : Mat} (h : Grid w B g n m R f) (hb : B' ≤ B) : Grid w B' g n m R f := ⟨h.outer.more hb, fun i hi => (h.row i hi).more hb, h.apart⟩
theorem Grid.drewN {w : World} {B g n m : Nat} {R : Nat → Nat} {f : Mat} (h : Grid w B g n m R f) (d : Nat) : Grid (w.drewN d) B g n m R f := ⟨h.outer.drewN d, fun i hi => (h.row i hi).drewN d, h.apart⟩
theorem Grid.cell {w : World} {B g n m : Nat} {R : Nat → Nat} {f : Mat} (h : Grid w B g n m R f) (i : Nat) (hi : i < n) : w.cell? ⟨g, i, none⟩ = some (.slice (some ⟨R i, 0, none⟩) m m) := by
  rw [h.outer.cell]
  simp [hi, rowV]
theorem Grid.num {w : World} {B g n m : Nat} {R : Nat → Nat} {f : Mat} (h : Grid w B g n m R f) (i j : Nat) (hi : i < n) (hj : j < m) : w.cell? ⟨R i, j, none⟩ = some (.int .u8 ((f i j).n : Int)) := by
  rw [(h.row i hi).cell]
  simp [hj, cellsG]
theorem Grid.frozen {w : World} {B g n m : Nat} {R : Nat → Nat} {f : Mat} (h : Grid w B g n m R f) (i j : Nat) (hi : i < n) : w.frozen? ⟨R i, j, none⟩ = false := (h.row i hi).frozen j
def upd (f : Mat) (i j : Nat) (x : G) : Mat := fun a b => if a = i ∧ b = j then x else f a b
theorem upd_at (f : Mat) (i j : Nat) (x : G) : upd f i j x i j = x := if_pos ⟨rfl, rfl⟩
theorem upd_row {f : Mat} {i j a b : Nat} {x : G} (h : a ≠ i) : upd f i j x a b = f a b := if_neg (fun e => h e.1)
theorem upd_col {f : Mat} {i j a b : Nat} {x : G} (h : b ≠ j) : upd f i j x a b = f a b := if_neg (fun e => h e.2)
theorem cellsG_set (f : Mat) (i j m : Nat) (x : G) : (cellsG f i m).set j (.int .u8 (x.n : Int)) = cellsG (upd f i j x) i m := by
  apply List.ext_getElem
  · simp [cellsG]
  · intro b h1 h2
    rw [List.getElem_set]
    simp only [cellsG, List.getElem_map, List.getElem_range]
    by_cases e : j = b
    · subst e; rw [if_pos rfl, upd_at]
    · rw [if_neg e, upd_col (fun q => e q.symm)]
theorem cellsG_other (f : Mat) {i a : Nat} (j m : Nat) (x : G) (h : a ≠ i) : cellsG (upd f i j x) a m = cellsG f a m := by
  unfold cellsG
  congr 1
  funext b
  rw [upd_row h]
theorem Grid.ne {w : World} {B g n m : Nat} {R : Nat → Nat} {f : Mat} (h : Grid w B g n m R f) (i : Nat) (hi : i < n) : R i ≠ g := (h.row i hi).ne h.outer (by decide)
theorem Grid.set {w : World} {B g n m : Nat} {R : Nat → Nat} {f : Mat} (h : Grid w B g n m R f) (i j : Nat) (hi : i < n) (x : G) : Grid (w.setCell ⟨R i, j, none⟩ (.int .u8 (x.n : Int))) B g n m R (upd f i j x) := by
  refine ⟨h.outer.kept (grown_set w (R i) j _) (fun e => h.ne i hi (by simpa using e)), fun a ha => ?_, h.apart⟩
  by_cases e : a = i
  · subst e
    rw [← cellsG_set]
    exact (h.row a hi).stored j _
  · rw [cellsG_other f j m x e]
    exact (h.row a ha).kept (grown_set w (R i) j _) (fun q => e (h.apart a i ha hi (by simpa using q.symm)))
theorem Grid.base {w : World} {B g n m : Nat} {R : Nat → Nat} {f : Mat} (h : Grid w B g n m R f) (i : Nat) (hi : i < n) : B ≤ R i := (h.row i hi).1
theorem Grid.below {w a : World} {B g n m : Nat} {R : Nat → Nat} {f : Mat} (h : Grid w B g n m R f) (i j : Nat) (hi : i < n) (u : Value) (hb : Below B a w) : Below B a (w.setCell ⟨R i, j, none⟩ u) := hb.setCell (h.base i hi) _
theorem blk_own {w : World} {B g n : Nat} {xs : List Nat} (h : Blk w B 5 g (xs.map fun x : Nat => Value.int .u8 (x : Int))) (hn : xs.length = n) (h3 : n ≤ 9223372036854775807) : Own w B (.slice (some ⟨g, 0, none⟩) n n) xs := by
  obtain ⟨hb, cur, hg, hc⟩ := h
  have hs : cur.size = n := by rw [← Array.length_toList, hc, List.length_map, hn]
  unfold Own
  refine ⟨by rw [List.length_map, Nat.mul_one], .inr ⟨g, n, cur, by rw [hn], hb, hg, by omega, by unfold maxLen; omega, by omega, ?_⟩⟩
  rw [hc, Nat.mul_one]
  exact List.take_of_length_le (by rw [List.length_map]; exact Nat.le_refl _)
theorem laid_len (n m : Nat) (f : Mat) : (laid n m f).length = n := by simp [laid]
theorem Grid.own {w : World} {B g n m : Nat} {R : Nat → Nat} {f : Mat} (h : Grid w B g n m R f) (h1 : n ≤ 1000000) (h2 : m ≤ 1000000) : OwnMt w B (.slice (some ⟨g, 0, none⟩) n n) (laid n m f) := by
  refine ⟨(List.range n).map fun i => rowV (R i) m, ?_, by rw [laid_len, List.length_map, List.length_range], fun i hi => ?_⟩
  · obtain ⟨hb, cur, hg, hc⟩ := h.outer
    have hs : cur.size = n := by rw [← Array.length_toList, hc, List.length_map, List.length_range]
    unfold OwnV
    rw [List.length_map, List.length_range]
    refine ⟨by rw [List.length_map, List.length_range, Nat.mul_one], .inr ⟨g, n, cur, rfl, hb, hg, by omega, by unfold maxLen; omega, by omega, ?_⟩⟩
    rw [hc, Nat.mul_one]
    exact List.take_of_length_le (by rw [List.length_map, List.length_range]; exact Nat.le_refl _)
  · have hi2 : i < n := by simpa using hi
    have e1 : ((List.range n).map fun i => rowV (R i) m).getD i (.slice none 0 0) = rowV (R i) m := by simp [hi2]
    rw [e1, laid_row f hi2]
    refine blk_own ?_ (by simp) (by omega)
    have := h.row i hi2
    unfold cellsG at this
    rw [List.map_map]
    exact this
theorem Grid.isM {w : World} {B g n m : Nat} {R : Nat → Nat} {f : Mat} (h : Grid w B g n m R f) (h1 : n ≤ 1000000) (h2 : m ≤ 1000000) : IsM w (some ⟨g, 0, none⟩) (laid n m f) := (h.own h1 h2).isM.1
theorem laid_congr {n m : Nat} {f g : Mat} (h : ∀ i, i < n → ∀ j, j < m → f i j = g i j) : laid n m f = laid n m g :=
  (laid_shape n m f).ext (laid_shape n m g) (fun i hi j hj => by rw [laid_at f hi hj, laid_at g hi hj]; exact h i hi j hj)
theorem made_nils {w : World} {B g n : Nat} (h : w.ownsRow B 24 1 (.slice (some ⟨g, 0, none⟩) n n) n (madeCells (Value.slice none 0 0).cells (n * 1)).toList) : Blk w B 24 g (List.replicate n (.slice none 0 0)) := by
  have e : (madeCells (Value.slice none 0 0).cells (n * 1)).toList = List.replicate n (Value.slice none 0 0) := by
    rw [Nat.mul_one]; exact toList_madeCells_one (Value.slice none 0 0) n
  rw [e] at h
  rcases h.2 with ⟨h', _⟩ | ⟨g', cap, cur, h', hb, hg, _, _, h4, h5⟩
  · cases h'
  · simp only [Value.slice.injEq, Option.some.injEq, Addr.mk.injEq, and_true, true_and] at h'
    obtain ⟨rfl, rfl⟩ := h'
    refine ⟨hb, cur, hg, ?_⟩
    rw [← h5, List.take_of_length_le]
    rw [Array.length_toList]
    omega
theorem made_zeros {w : World} {B g n : Nat} (h : w.ownsRow B 5 1 (.slice (some ⟨g, 0, none⟩) n n) n (madeCells (Value.int .u8 0).cells (n * 1)).toList) (i : Nat) : Blk w B 5 g (cellsG (fun _ _ => G.zero) i n) := by
  have e : (madeCells (Value.int .u8 0).cells (n * 1)).toList = List.replicate n (Value.int .u8 0) := by
    rw [Nat.mul_one]; exact toList_madeCells_one (Value.int .u8 0) n
  rw [e] at h
  have e2 : cellsG (fun _ _ => G.zero) i n = List.replicate n (Value.int .u8 0) := by
    apply List.ext_getElem
    · simp [cellsG]
    · intro b h1 h2
      simp [cellsG, G.zero]
  rw [e2]
  rcases h.2 with ⟨h', _⟩ | ⟨g', cap, cur, h', hb, hg, _, _, h4, h5⟩
  · cases h'
  · simp only [Value.slice.injEq, Option.some.injEq, Addr.mk.injEq, and_true, true_and] at h'
    obtain ⟨rfl, rfl⟩ := h'
    refine ⟨hb, cur, hg, ?_⟩
    rw [← h5, List.take_of_length_le]
    rw [Array.length_toList]
    omega
/-- The first k rows stand. -/
structure Begun (w : World) (B g n m k : Nat) (R : Nat → Nat) : Prop where
  outer : Blk w B 24 g ((List.range n).map fun i => if i < k then rowV (R i) m else .slice none 0 0)
  row : ∀ i, i < k → Blk w B 5 (R i) (cellsG (fun _ _ => G.zero) i m)
  apart : ∀ i j, i < k → j < k → R i = R j → i = j
theorem Begun.next {w w' : World} {B g n m k : Nat} {R : Nat → Nat} {b : Nat} (h : Begun w B g n m k R) (hk : k < n) (hb : Blk w' B 5 b (cellsG (fun _ _ => G.zero) k m)) (hw : Below w.heap.size w w') (hn : w.heap.size ≤ b) :
    Begun (w'.setCell ⟨g, k, none⟩ (.slice (some ⟨b, 0, none⟩) m m)) B g n m (k + 1) (fun i => if i = k then b else R i) := by
  have ho := h.outer.keep hw
  have hgb : b ≠ g := hb.ne ho (by decide)
  refine ⟨?_, fun i hi => ?_, fun i j hi hj e => ?_⟩
  · have := ho.stored k (rowV b m)
    have e : ((List.range n).map fun i => if i < k then rowV (R i) m else .slice none 0 0).set k (rowV b m) = (List.range n).map fun i => if i < k + 1 then rowV (if i = k then b else R i) m else .slice none 0 0 := by
      apply List.ext_getElem
      · simp
      · intro i h1 h2
        rw [List.getElem_set]
        simp only [List.getElem_map, List.getElem_range]
        by_cases e : k = i
        · subst e; simp
        · rw [if_neg e]
          by_cases hlt : i < k
          · have : i < k + 1 := by omega
            have ne : i ≠ k := by omega
            simp [hlt, this, ne]
          · have : ¬ i < k + 1 := by omega
            simp [hlt, this]
    rw [e] at this
    exact this
  · by_cases e : i = k
    · subst e
      rw [if_pos rfl]
      exact hb.kept (grown_set w' g i _) (fun q => hgb (by simpa using q.symm))
    · rw [if_neg e]
      have hr := (h.row i (by omega)).keep hw
      exact hr.kept (grown_set w' g k _) (fun q => hr.ne ho (by decide) (by simpa using q.symm))
  · by_cases e1 : i = k
    · by_cases e2 : j = k
      · omega
      · rw [if_pos e1, if_neg e2] at e
        have := (h.row j (by omega)).lt
        omega
    · by_cases e2 : j = k
      · rw [if_neg e1, if_pos e2] at e
        have := (h.row i (by omega)).lt
        omega
      · rw [if_neg e1, if_neg e2] at e
        exact h.apart i j (by omega) (by omega) e
theorem Begun.done {w : World} {B g n m : Nat} {R : Nat → Nat} (h : Begun w B g n m n R) : Grid w B g n m R (fun _ _ => G.zero) := by
  refine ⟨?_, h.row, h.apart⟩
  have := h.outer
  rwa [show ((List.range n).map fun i => if i < n then rowV (R i) m else .slice none 0 0) = (List.range n).map fun i => rowV (R i) m from List.map_congr_left (fun i hi => if_pos (List.mem_range.1 hi))] at this
end Go.Proofs.Ytdbngchbhoanpaa
namespace Go.Proofs.Ytdbngchbhoanpaa
open Go.RowKit
theorem wpList_append_mrow {w : World} {ops : Array Oper} {rest : List Oper} {o : Oper} {a : Act} {Q : Exit → Act → World → Prop} (hgd : o.guard = none) (s x : Operand)
    (ho : o.op = .call { callee := .builtin .append, args := #[s, x], argTypes := #[50, 50] })
    (B : Nat) (v : Value) (xss : ML) (hs : a.eval s = v) (hown : OwnMt w B v xss)
    (b : Nat) (u : Value) (xs : List Nat) (hx : a.eval x = .slice (some ⟨b, 0, none⟩) 1 1) (hu : w.cell? ⟨b, 0, none⟩ = some u) (hr : Own w B u xs)
    (hlen : xss.length + 1 ≤ 1099511627776) (hbase : B ≤ w.heap.size)
    (h : ∀ v' w', OwnMt w' B v' (xss ++ [xs]) → Below B w w' → wpList Try.prog ops Q rest (a.put o.dst v') w') : wpList Try.prog ops Q (o :: rest) a w := by
  obtain ⟨vs, h1, h2⟩ := hown
  obtain ⟨A, c, e, _⟩ := hr.form
  exact wpList_append_row hgd s x ho B v vs hs h1 b u hx hu (by rw [e]; rfl) (by rw [h2.1]; exact hlen) hbase (fun v' w' k1 k2 k3 => h v' w' (OwnMt.snoc h1 h2 hr k1 k3) k2)
theorem cell_newAt (w : World) (u : Value) (e : TypeId) {b : Nat} (h : b = w.heap.size) : (w.alloc (.cells #[u] e)).cell? ⟨b, 0, none⟩ = some u := by
  subst h
  exact cell_new w u e
theorem take_snoc (xss : ML) (k : Nat) (h : k < xss.length) : xss.take (k + 1) = xss.take k ++ [xss.getD k []] := by
  rw [List.take_succ_eq_append_getElem h]
  simp [h]
theorem one_row {n k : Nat} (hk : k < n) : (List.replicate n 0).set k 1 = (oneL n).getD k [] := by
  unfold oneL
  rw [laid_row dl hk]
  apply List.ext_getElem
  · simp
  · intro i h1 h2
    rw [List.getElem_set]
    simp only [List.getElem_replicate, List.getElem_map, List.getElem_range]
    by_cases e : k = i
    · subst e; rw [if_pos rfl, dl_eq]; rfl
    · rw [if_neg e, dl_ne e]; rfl
end Go.Proofs.Ytdbngchbhoanpaa
namespace Go.Proofs.Ytdbngchbhoanpaa
open Go.RowKit
/-- The matrix whose rows are another's columns. -/
def turn (f : Mat) : Mat := fun a b => f b a
theorem dot_mm {A : ML} (B : ML) {n p m : Nat} (hA : Shape A n p) (i j : Nat) (hi : i < n) (hj : j < m) :
    dotS (A.getD i []) ((laid m p (turn (en B))).getD j []) p = (mm p (en A) (en B) i j).n := by
  have h2 := (laid_shape m p (turn (en B))).row hj
  rw [dot_gs (hA.row hi).2 h2.2]
  congr 1
  refine gs_congr (fun l hl => ?_)
  show en A i l * en (laid m p (turn (en B))) j l = en A i l * en B l j
  rw [laid_at _ hj hl]
  rfl
theorem Shape.num {xss : ML} {n m : Nat} (h : Shape xss n m) (i j : Nat) (hi : i < n) : (xss.getD i []).getD j 0 = (en xss i j).n := (h.at_ hi j).symm
/-- What is refused. -/
def mulBad (A B : ML) : Prop := isMt A = false ∨ isMt B = false ∨ (A.getD 0 []).length ≠ B.length
theorem take_snocN (xs : List Nat) (k : Nat) (h : k < xs.length) : xs.take (k + 1) = xs.take k ++ [xs.getD k 0] := by
  rw [List.take_succ_eq_append_getElem h]
  simp [h]
theorem isB_one (w : World) (z : Nat) {b : Nat} (h : b = w.heap.size) : IsB (w.alloc (.cells #[.int .u8 (z : Int)] 5)) (.slice (some ⟨b, 0, none⟩) 1 1) [z] := by
  subst h
  exact isB_new w _ [z] rfl (by simp) _ 1 rfl rfl
end Go.Proofs.Ytdbngchbhoanpaa
namespace Go.Proofs.Ytdbngchbhoanpaa
open Go.RowKit
theorem xor_i64_c (a b : Nat) (ha : a < 32768) (hb : b < 32768) : bits .xor .i64 (a : Int) (b : Int) = ((a ^^^ b : Nat) : Int) := by
  have hx : a ^^^ b < 32768 := xor_lt15 ha hb
  show IntKind.i64.wrap ((BitVec.ofInt 64 (a : Int) ^^^ BitVec.ofInt 64 (b : Int)).toNat : Int) = _
  rw [BitVec.toNat_xor, ofInt_u64 a (by omega), ofInt_u64 b (by omega), IntKind.wrap_i64]
  omega
theorem code_row {k m i : Nat} (hi : i < m) : (codeL k m).getD (k + i) [] = (List.range k).map fun j => (kx (k + i) j).n := by
  unfold codeL
  rw [laid_row _ (by omega)]
  refine List.map_congr_left (fun j _ => ?_)
  unfold codeRow
  rw [if_neg (by omega)]
theorem code_one {k m : Nat} : (codeL k m).take k = oneL k := by
  apply List.ext_getElem
  · unfold codeL oneL
    rw [List.length_take, laid_len, laid_len]
    omega
  · intro i h1 h2
    rw [List.getElem_take]
    have hi : i < k := by
      rw [List.length_take] at h1
      omega
    have e1 : (codeL k m).getD i [] = (oneL k).getD i [] := by
      unfold codeL oneL
      rw [laid_row _ (by omega), laid_row _ hi]
      refine List.map_congr_left (fun j _ => ?_)
      unfold codeRow
      rw [if_pos hi]
    have g1 : i < (codeL k m).length := by unfold codeL; rw [laid_len]; omega
    simpa [g1, h2] using e1
theorem kx_walk {x j : Nat} (hx : x ≤ 14) (hj : j < x) : bits .xor .i64 (x : Int) (j : Int) = ((x ^^^ j : Nat) : Int) ∧ IntKind.u8.wrap ((x ^^^ j : Nat) : Int) = ((x ^^^ j : Nat) : Int) ∧ x ^^^ j < 256 ∧ x ^^^ j ≠ 0 ∧ (kx x j).n = ginv (x ^^^ j) := by
  have h16 : x ^^^ j < 16 := Nat.xor_lt_two_pow (n := 4) (by omega) (by omega)
  refine ⟨xor_i64_c x j (by omega) (by omega), by rw [IntKind.wrap_u8]; omega, by omega, ?_, kx_n (by omega) (by omega)⟩
  intro e
  have : (x ^^^ j) ^^^ j = 0 ^^^ j := by rw [e]
  rw [Nat.xor_assoc, Nat.xor_self, Nat.xor_zero, Nat.zero_xor] at this
  omega
end Go.Proofs.Ytdbngchbhoanpaa
namespace Go.Proofs.Ytdbngchbhoanpaa
open Go.RowKit
def oneR (n : Int) : ML := if 1 ≤ n ∧ n ≤ 64 then oneL n.toNat else []
def oneE (n : Int) : Int := if 1 ≤ n ∧ n ≤ 64 then 0 else 1
def codeR (k m : Int) : ML := if k < 1 ∨ m < 0 ∨ 14 < k + m then [] else codeL k.toNat m.toNat
def codeE (k m : Int) : Int := if k < 1 ∨ m < 0 ∨ 14 < k + m then 1 else 0
end Go.Proofs.Ytdbngchbhoanpaa
namespace Go.Proofs.Ytdbngchbhoanpaa
open Go.RowKit
/-- What Sums refuses. -/
def sumsBad (D : ML) (m : Int) : Prop := D.length < 1 ∨ m < 0 ∨ 14 < (D.length : Int) + m ∨ ∃ r ∈ D, r = [] ∨ r.length ≠ (D.getD 0 []).length
/-- What Sums answers. -/
def sumsAns (D : ML) (m : Int) (L : ML) (e : Int) : Prop :=
  (e = 1 ∧ L = [] ∧ sumsBad D m) ∨ (e = 0 ∧ ¬ sumsBad D m ∧ L = (wordL D.length m.toNat (D.getD 0 []).length (en D)).drop D.length)
theorem sums_once {D : ML} {m : Int} {L L' : ML} {e e' : Int} (h : sumsAns D m L e) (k : sumsAns D m L' e') : L = L' ∧ e = e' := by
  rcases h with ⟨rfl, rfl, h⟩ | ⟨rfl, h, rfl⟩
  · rcases k with ⟨rfl, rfl, _⟩ | ⟨_, k, _⟩
    · exact ⟨rfl, rfl⟩
    · exact absurd h k
  · rcases k with ⟨_, _, k⟩ | ⟨rfl, _, rfl⟩
    · exact absurd k h
    · exact ⟨rfl, rfl⟩
theorem sums_fit {D : ML} {m : Int} (h : ¬ sumsBad D m) (hb : ∀ r ∈ D, ∀ x ∈ r, x < 256) : ∃ b : Nat, m = (b : Int) ∧ 1 ≤ D.length ∧ D.length + b ≤ 14 ∧ 1 ≤ (D.getD 0 []).length ∧ Shape D D.length (D.getD 0 []).length := by
  have h1 : ¬ D.length < 1 := fun q => h (.inl q)
  have h2 : ¬ m < 0 := fun q => h (.inr (.inl q))
  have h3 : ¬ 14 < (D.length : Int) + m := fun q => h (.inr (.inr (.inl q)))
  have h4 : ∀ r ∈ D, r ≠ [] ∧ r.length = (D.getD 0 []).length := fun r hr => by
    refine ⟨fun q => h (.inr (.inr (.inr ⟨r, hr, .inl q⟩))), ?_⟩
    rcases Decidable.em (r.length = (D.getD 0 []).length) with e | e
    · exact e
    · exact absurd (.inr (.inr (.inr ⟨r, hr, .inr e⟩))) h
  refine ⟨m.toNat, by omega, by omega, by omega, ?_, rfl, fun r hr => (h4 r hr).2, hb⟩
  have := (h4 _ (mem_getD (xss := D) (k := 0) (by omega))).1
  have := List.length_pos_iff.2 this
  omega
/-- What Sums answers, with the data before it. -/
theorem sums_all {D L : ML} {m : Int} (h : sumsAns D m L 0) (hb : ∀ r ∈ D, ∀ x ∈ r, x < 256) : ∃ b n : Nat, m = (b : Int) ∧ 1 ≤ D.length ∧ D.length + b ≤ 14 ∧ 1 ≤ n ∧ n = (D.getD 0 []).length ∧ L.length = b ∧ D ++ L = wordL D.length b n (en D) := by
  rcases h with ⟨h, _⟩ | ⟨_, h, rfl⟩
  · cases h
  · obtain ⟨b, rfl, h1, h2, h3, h4⟩ := sums_fit h hb
    refine ⟨b, _, rfl, h1, h2, h3, rfl, ?_, ?_⟩
    · rw [List.length_drop, wordL_len, Int.toNat_natCast]; omega
    · rw [Int.toNat_natCast]
      have e := wordL_low (m := b) h4
      conv => lhs; lhs; rw [← e]
      rw [List.take_append_drop]
end Go.Proofs.Ytdbngchbhoanpaa
namespace Go.Proofs.Ytdbngchbhoanpaa
/-- How many blocks so many bytes take. -/
def blks (n : Nat) : Nat := (n + 15) / 16
/-- How many rows each shard has. -/
def hgt (n k : Nat) : Nat := (blks n + k - 1) / k
theorem hgt_ref {n k : Nat} (hk : 1 ≤ k) : (n + k * 16 - 1) / (k * 16) = hgt n k := by
  unfold hgt blks
  have e : (n + 15) / 16 + k - 1 = (n + k * 16 - 1) / 16 := by omega
  rw [e, Nat.div_div_eq_div_mul, Nat.mul_comm 16 k]
theorem hgt_up {n k : Nat} (hk : 1 ≤ k) : blks n ≤ hgt n k * k := by
  unfold hgt
  have h := Nat.div_add_mod (blks n + k - 1) k
  have h2 := Nat.mod_lt (blks n + k - 1) (show k > 0 by omega)
  rw [Nat.mul_comm] at h
  omega
theorem hgt_le {n k : Nat} (hk : 1 ≤ k) : hgt n k ≤ blks n := by
  unfold hgt
  rcases Nat.eq_zero_or_pos (blks n) with h | h
  · rw [h]
    have : (0 + k - 1) / k = 0 := Nat.div_eq_of_lt (by omega)
    omega
  · have h1 : (blks n + k - 1) / k ≤ (blks n * k) / k := Nat.div_le_div_right (by
      have : blks n + k - 1 ≤ blks n * k := by
        obtain ⟨a, ha⟩ : ∃ a, blks n = a + 1 := ⟨blks n - 1, by omega⟩
        obtain ⟨c, hc⟩ : ∃ c, k = c + 1 := ⟨k - 1, by omega⟩
        rw [ha, hc, Nat.add_mul, Nat.mul_add]
        have := Nat.zero_le (a * c)
        omega
      exact this)
    rwa [Nat.mul_div_cancel _ (by omega)] at h1
theorem hgt_pos {n k : Nat} (hk : 1 ≤ k) (hn : 1 ≤ n) : 1 ≤ hgt n k := by
  have h := hgt_up (n := n) hk
  have hb : 1 ≤ blks n := by unfold blks; omega
  rcases Nat.eq_zero_or_pos (hgt n k) with h0 | h0
  · rw [h0] at h; omega
  · exact h0
/-- The place of a byte of a shard in the whole. -/
def srcAt (k i y : Nat) : Nat := (y / 16 * k + i) * 16 + y % 16
def srcS (b : List Nat) (k : Nat) : Mat := fun i y => G.of (b.getD (srcAt k i y) 0)
/-- The first k shards. -/
def dataS (b : List Nat) (k : Nat) : ML := laid k (hgt b.length k * 16) (srcS b k)
theorem dataS_len (b : List Nat) (k : Nat) : (dataS b k).length = k := by simp [dataS, laid]
theorem dataS_shape (b : List Nat) (k : Nat) : Shape (dataS b k) k (hgt b.length k * 16) := laid_shape _ _ _
/-- They behind so many blocks. -/
def partS (b : List Nat) (k j : Nat) : Mat := fun i y => if y / 16 * k + i < j then srcS b k i y else G.zero
theorem getD_past {b : List Nat} {i : Nat} (h : b.length ≤ i) : b.getD i 0 = 0 := by simp [h]
theorem G_zero : G.of 0 = G.zero := by decide
theorem partS_all {b : List Nat} {k j : Nat} (hj : b.length ≤ j * 16) : partS b k j = srcS b k := by
  funext i y
  unfold partS
  split
  · rfl
  · rename_i h
    unfold srcS srcAt
    rw [getD_past (by omega), G_zero]
theorem partS_none (b : List Nat) (k : Nat) : partS b k 0 = fun _ _ => G.zero := by
  funext i y
  unfold partS
  rw [if_neg (by omega)]
/-- A block more is laid. -/
theorem partS_step {b : List Nat} {k j n : Nat} (hk : 1 ≤ k) (hn : n = min 16 (b.length - j * 16)) (i y : Nat) (hi : i < k) :
    (if i = j % k ∧ j / k * 16 ≤ y ∧ y < j / k * 16 + n then G.of (b.getD (j * 16 + (y - j / k * 16)) 0) else partS b k j i y) = partS b k (j + 1) i y := by
  have hd := Nat.div_add_mod j k
  have hm := Nat.mod_lt j (show k > 0 by omega)
  rw [Nat.mul_comm] at hd
  by_cases hb : y / 16 * k + i = j
  · -- just this block
    have e1 : (y / 16 * k + i) % k = i := by rw [Nat.mul_comm, Nat.mul_add_mod, Nat.mod_eq_of_lt hi]
    have e2 : (y / 16 * k + i) / k = y / 16 := by rw [Nat.mul_comm, Nat.mul_add_div (by omega), Nat.div_eq_of_lt hi]; rfl
    rw [hb] at e1 e2
    have hs : srcAt k i y = j * 16 + (y - j / k * 16) := by unfold srcAt; rw [hb, e2]; omega
    have hr : partS b k (j + 1) i y = G.of (b.getD (j * 16 + (y - j / k * 16)) 0) := by unfold partS srcS; rw [if_pos (by omega), hs]
    rw [hr]
    split
    · rfl
    · rename_i hno
      unfold partS
      rw [if_neg (by omega), getD_past (by
        rw [e1, e2] at hno
        have h1 : ¬ y < y / 16 * 16 + n := fun h => hno ⟨rfl, by omega, h⟩
        rw [e2]
        omega), G_zero]
  · rw [if_neg]
    · unfold partS
      by_cases h : y / 16 * k + i < j
      · rw [if_pos h, if_pos (by omega)]
      · rw [if_neg h, if_neg (by omega)]
    · rintro ⟨e1, h1, h2⟩
      have : y / 16 = j / k := by omega
      rw [this, e1] at hb
      omega
/-! ### row by row, as the document has it -/
/-- How many of the first j blocks stand in the shard i. -/
def cntS (k j i : Nat) : Nat := (j + k - 1 - i) / k
def rowsS (b : List Nat) (k j : Nat) : ML := (List.range k).map fun i => (List.range (cntS k j i * 16)).map fun y => b.getD (srcAt k i y) 0
theorem cntS_step {k j i : Nat} (hk : 1 ≤ k) (hi : i < k) : cntS k (j + 1) i = if i = j % k then j / k + 1 else cntS k j i := by
  have hd := Nat.div_add_mod j k
  have hm := Nat.mod_lt j (show k > 0 by omega)
  obtain ⟨q, hq⟩ : ∃ q, q = j / k := ⟨_, rfl⟩
  obtain ⟨r, hr⟩ : ∃ r, r = j % k := ⟨_, rfl⟩
  rw [← hq, ← hr] at hd
  rw [← hr] at hm
  rw [← hq, ← hr]
  unfold cntS
  split
  · rename_i e
    subst e
    have e : j + 1 + k - 1 - i = k * (q + 1) := by rw [Nat.mul_add]; omega
    rw [e, Nat.mul_div_cancel_left _ (by omega)]
  · rename_i e
    by_cases hlt : i < r
    · have e1 : j + 1 + k - 1 - i = k * (q + 1) + (r - i) := by rw [Nat.mul_add]; omega
      have e2 : j + k - 1 - i = k * (q + 1) + (r - i - 1) := by rw [Nat.mul_add]; omega
      rw [e1, e2, Nat.mul_add_div (by omega), Nat.mul_add_div (by omega), Nat.div_eq_of_lt (by omega), Nat.div_eq_of_lt (by omega)]
    · have e1 : j + 1 + k - 1 - i = k * q + (r + k - i) := by omega
      have e2 : j + k - 1 - i = k * q + (r + k - i - 1) := by omega
      rw [e1, e2, Nat.mul_add_div (by omega), Nat.mul_add_div (by omega), Nat.div_eq_of_lt (by omega), Nat.div_eq_of_lt (by omega)]
theorem cntS_at {k j : Nat} (hk : 1 ≤ k) : cntS k j (j % k) = j / k := by
  have hd := Nat.div_add_mod j k
  have hm := Nat.mod_lt j (show k > 0 by omega)
  unfold cntS
  obtain ⟨q, hq⟩ : ∃ q, q = j / k := ⟨_, rfl⟩
  obtain ⟨r, hr⟩ : ∃ r, r = j % k := ⟨_, rfl⟩
  rw [← hq, ← hr] at hd
  rw [← hr] at hm
  rw [← hq, ← hr]
  have e : j + k - 1 - r = k * q + (k - 1) := by omega
  rw [e, Nat.mul_add_div (by omega), Nat.div_eq_of_lt (by omega)]
  rfl
theorem cntS_all {k h i : Nat} (hi : i < k) : cntS k (h * k) i = h := by
  unfold cntS
  have e : h * k + k - 1 - i = k * h + (k - 1 - i) := by rw [Nat.mul_comm]; omega
  rw [e, Nat.mul_add_div (by omega), Nat.div_eq_of_lt (by omega)]
  rfl
theorem cntS_none {k i : Nat} (hi : i < k) : cntS k 0 i = 0 := by
  unfold cntS
  exact Nat.div_eq_of_lt (by omega)
theorem rowsS_len (b : List Nat) (k j : Nat) : (rowsS b k j).length = k := by simp [rowsS]
theorem rowsS_row {b : List Nat} {k j i : Nat} (hi : i < k) : (rowsS b k j).getD i [] = (List.range (cntS k j i * 16)).map fun y => b.getD (srcAt k i y) 0 := by simp [rowsS, hi]
theorem rowsS_none (b : List Nat) (k : Nat) : rowsS b k 0 = List.replicate k [] := by
  apply List.ext_getElem (by simp [rowsS])
  intro i h1 h2
  have hi : i < k := by simpa [rowsS] using h1
  have := rowsS_row (b := b) (j := 0) hi
  rw [cntS_none hi] at this
  simpa [hi, h1] using this
/-- A block, with noughts behind the end. -/
def blkAt (b : List Nat) (j : Nat) : List Nat := (List.range 16).map fun y => b.getD (j * 16 + y) 0
theorem blkAt_len (b : List Nat) (j : Nat) : (blkAt b j).length = 16 := by simp [blkAt]
theorem rowsS_step {b : List Nat} {k j : Nat} (hk : 1 ≤ k) : (rowsS b k j).set (j % k) ((rowsS b k j).getD (j % k) [] ++ blkAt b j) = rowsS b k (j + 1) := by
  have hm := Nat.mod_lt j (show k > 0 by omega)
  have hd := Nat.div_add_mod j k
  rw [Nat.mul_comm] at hd
  apply List.ext_getElem (by simp [rowsS])
  intro i h1 h2
  have hi : i < k := by simpa [rowsS] using h2
  have e2 : (rowsS b k (j + 1))[i] = (List.range (cntS k (j + 1) i * 16)).map fun y => b.getD (srcAt k i y) 0 := by simp [rowsS]
  rw [e2, cntS_step hk hi, List.getElem_set]
  by_cases e : j % k = i
  · subst e
    rw [if_pos rfl, if_pos rfl, rowsS_row hm, cntS_at hk]
    have e3 : (j / k + 1) * 16 = j / k * 16 + 16 := by omega
    rw [e3, List.range_add, List.map_append, List.map_map]
    congr 1
    unfold blkAt
    refine List.map_congr_left (fun y hy => ?_)
    have hy := List.mem_range.1 hy
    show _ = b.getD (srcAt k (j % k) (j / k * 16 + y)) 0
    unfold srcAt
    have e4 : (j / k * 16 + y) / 16 = j / k := by omega
    have e5 : (j / k * 16 + y) % 16 = y := by omega
    rw [e4, e5, hd]
  · rw [if_neg e, if_neg (fun q => e q.symm)]
    simp [rowsS]
theorem rowsS_all {b : List Nat} {k : Nat} (hb : ∀ x ∈ b, x < 256) : rowsS b k (hgt b.length k * k) = dataS b k := by
  unfold rowsS dataS laid
  refine List.map_congr_left (fun i hi => ?_)
  rw [cntS_all (List.mem_range.1 hi)]
  refine List.map_congr_left (fun y _ => ?_)
  show _ = (G.of (b.getD (srcAt k i y) 0)).n
  rw [G.of_n (getD_lt hb _)]
theorem rowsS_byte {b : List Nat} (hb : ∀ x ∈ b, x < 256) (k j : Nat) : ∀ r ∈ rowsS b k j, ∀ x ∈ r, x < 256 := by
  intro r hr x hx
  obtain ⟨i, _, rfl⟩ := List.mem_map.1 hr
  obtain ⟨y, _, rfl⟩ := List.mem_map.1 hx
  exact getD_lt hb _
/-- The bytes with noughts up to so many blocks, and a block of them. -/
theorem blk_take {b : List Nat} {n j : Nat} (hl : b.length ≤ n) (hj : j * 16 + 16 ≤ n) : ((b ++ List.replicate (n - b.length) 0).drop (j * 16)).take 16 = blkAt b j := by
  apply List.ext_getElem
  · simp [blkAt]; omega
  · intro y h1 h2
    have hy : y < 16 := by simpa [blkAt] using h2
    simp only [List.getElem_take, List.getElem_drop, blkAt, List.getElem_map, List.getElem_range]
    rw [List.getElem_append]
    split
    · rename_i h
      simp [h]
    · rename_i h
      rw [getD_past (by omega)]
      simp
end Go.Proofs.Ytdbngchbhoanpaa
namespace Go.Proofs.Ytdbngchbhoanpaa
open Go.RowKit
/-- Nothing but what lies in S, and new blocks, has been turned. -/
structure Turn (S : Nat → Prop) (w w' : World) : Prop where
  os : w'.os = w.os
  tape : w'.tape = w.tape
  output : w'.output = w.output
  size : w.heap.size ≤ w'.heap.size
  block : ∀ k, k < w.heap.size → ¬ S k → w'.heap[k]? = w.heap[k]?
/-- .. and what belongs to the thing is what did, or is new. -/
structure Next (F : Nat → Prop) (w : World) (F' : Nat → Prop) (w' : World) : Prop where
  turn : Turn F w w'
  foot : ∀ k, F' k → F k ∨ w.heap.size ≤ k
theorem Turn.refl (S : Nat → Prop) (w : World) : Turn S w w := ⟨rfl, rfl, rfl, Nat.le_refl _, fun _ _ _ => rfl⟩
theorem Turn.then {S S' : Nat → Prop} {a b c : World} (h : Turn S a b) (k : Turn S' b c) (hs : ∀ i, S' i → S i ∨ a.heap.size ≤ i) : Turn S a c :=
  ⟨k.os.trans h.os, k.tape.trans h.tape, k.output.trans h.output, Nat.le_trans h.size k.size, fun i hi hn => by
    rw [k.block i (Nat.lt_of_lt_of_le hi h.size) (fun e => (hs i e).elim hn (fun q => by omega))]
    exact h.block i hi hn⟩
theorem Turn.trans {S : Nat → Prop} {a b c : World} (h : Turn S a b) (k : Turn S b c) : Turn S a c := h.then k fun _ => .inl
theorem Turn.mono {S S' : Nat → Prop} {a b : World} (h : Turn S a b) (hs : ∀ i, S i → S' i) : Turn S' a b := ⟨h.os, h.tape, h.output, h.size, fun i hi hn => h.block i hi (fun e => hn (hs i e))⟩
theorem Turn.of_below {w w' : World} (S : Nat → Prop) (h : Below w.heap.size w w') : Turn S w w' := ⟨h.os, h.tape, h.output, h.size, fun k hk _ => h.block k hk⟩
theorem Turn.of_grown {w w' : World} {row : Option Nat} (h : w.grownBy w' row) : Turn (fun k => some k = row) w w' := ⟨h.os, h.tape, h.output, h.size, fun k hk hn => h.block k hk hn⟩
theorem Turn.below {S : Nat → Prop} {w w' : World} {B : Nat} (h : Turn S w w') (hB : B ≤ w.heap.size) (hs : ∀ k, S k → B ≤ k) : Below B w w' :=
  ⟨h.os, h.tape, h.output, h.size, fun k hk => h.block k (by omega) (fun e => by have := hs k e; omega)⟩
theorem Turn.drewN {S : Nat → Prop} {w w' : World} (h : Turn S w w') (n : Nat) : Turn S w (w'.drewN n) := ⟨h.os, h.tape, h.output, h.size, h.block⟩
theorem Next.refl (F : Nat → Prop) (w : World) : Next F w F w := ⟨Turn.refl _ _, fun _ => .inl⟩
theorem Next.of_below {w w' : World} (F : Nat → Prop) (h : Below w.heap.size w w') : Next F w F w' := ⟨Turn.of_below _ h, fun _ => .inl⟩
theorem Next.trans {F F' F'' : Nat → Prop} {a b c : World} (h : Next F a F' b) (k : Next F' b F'' c) : Next F a F'' c :=
  ⟨h.turn.then k.turn h.foot, fun i hi => by
    rcases k.foot i hi with h1 | h1
    · exact h.foot i h1
    · exact .inr (Nat.le_trans h.turn.size h1)⟩
theorem Next.drewN {F F' : Nat → Prop} {w w' : World} (h : Next F w F' w') (n : Nat) : Next F w F' (w'.drewN n) := ⟨h.turn.drewN n, h.foot⟩
theorem Next.below {F F' : Nat → Prop} {w w' : World} {B : Nat} (h : Next F w F' w') (hB : B ≤ w.heap.size) (hs : ∀ k, F k → B ≤ k) : Below B w w' := h.turn.below hB hs
theorem Next.up {F F' : Nat → Prop} {w w' : World} {B : Nat} (h : Next F w F' w') (hB : B ≤ w.heap.size) (hs : ∀ k, F k → B ≤ k) : ∀ k, F' k → B ≤ k := fun k hk => by
  rcases h.foot k hk with h1 | h1
  · exact hs k h1
  · omega
/-- A slice lies outside of what may be turned. -/
def Off (S : Nat → Prop) (v : Value) : Prop := ∀ g, v.ownBlock = some g → ¬ S g
theorem Off.nil (S : Nat → Prop) : Off S (.slice none 0 0) := fun _ h => by simp [Value.ownBlock] at h
theorem IsB.turn {S : Nat → Prop} {w w' : World} {v : Value} {xs : List Nat} (h : IsB w v xs) (t : Turn S w w') (ho : Off S v) : IsB w' v xs := by
  obtain ⟨A, c, rfl, hr, hn⟩ := h
  refine ⟨A, c, rfl, fun hne => ?_, hn⟩
  obtain ⟨b, off, rfl, hc⟩ := hr hne
  refine ⟨b, off, rfl, fun i hi => ?_⟩
  have h1 := hc i hi
  have hb := t.block b (cell_lt h1) (ho b rfl)
  rw [← h1]
  exact World.cell?_of_block hb
theorem Own.turn {S : Nat → Prop} {w w' : World} {B : Nat} {v : Value} {xs : List Nat} (h : Own w B v xs) (t : Turn S w w') (ho : Off S v) : Own w' B v xs := by
  unfold Own at h ⊢
  refine ⟨h.1, ?_⟩
  rcases h.2 with hn | ⟨g, cap, cur, hv, h1, h2, r⟩
  · exact .inl hn
  · refine .inr ⟨g, cap, cur, hv, h1, ?_, r⟩
    rw [t.block g (heap_lt h2) (ho g (by rw [hv]; rfl))]
    exact h2
theorem Own.lt {w : World} {B : Nat} {v : Value} {xs : List Nat} (h : Own w B v xs) : ∀ g, v.ownBlock = some g → B ≤ g ∧ g < w.heap.size := World.ownsRow.lt h
theorem Blk.turn {S : Nat → Prop} {w w' : World} {B : Nat} {e : TypeId} {g : Nat} {cs : List Value} (h : Blk w B e g cs) (t : Turn S w w') (ho : ¬ S g) : Blk w' B e g cs := by
  have hl := h.lt
  obtain ⟨hB, cur, hh, rfl⟩ := h
  exact ⟨hB, cur, by rw [t.block g hl ho]; exact hh, rfl⟩
/-- What was made behind a thing lies outside of it. -/
theorem off_new {F : Nat → Prop} {w : World} {v : Value} {xs : List Nat} {w1 : World} (h : Own w1 w.heap.size v xs) (hF : ∀ k, F k → k < w.heap.size) : Off F v := fun g hg hf => by
  have h1 := (h.lt g hg).1
  have h2 := hF g hf
  omega
theorem off_old {F : Nat → Prop} {B : Nat} {v : Value} (hF : ∀ k, F k → B ≤ k) (hv : ∀ g, v.ownBlock = some g → g < B) : Off F v := fun g hg hf => by
  have h1 := hv g hg
  have h2 := hF g hf
  omega
end Go.Proofs.Ytdbngchbhoanpaa
