/- Matrices that the call makes row by row, each row in a block of its own, and the contract of matrix's noughts. Condition: at most 128 rows of at most 128 numbers. -/
import Derived.Test.YteebdlliaipnlaaMRead
namespace Go.Proofs.Yteebdlliaipnlaa
open Go.RowKit
def rowV (r m : Nat) : Value := .slice (some ⟨r, 0, none⟩) m m
def cellsG (f : Mat) (i m : Nat) : List Value := (List.range m).map fun j => .int .u8 ((f i j).n : Int)
structure Grid (w : World) (B g n m : Nat) (R : Nat → Nat) (f : Mat) : Prop where
  outer : Blk w B 39 g ((List.range n).map fun i => rowV (R i) m)
  row : ∀ i, i < n → Blk w B 5 (R i) (cellsG f i m)
  apart : ∀ i j, i < n → j < n → R i = R j → i = j
theorem Grid.keep {w w' : World} {B g n m : Nat} {R : Nat → Nat} {f : Mat} (h : Grid w B g n m R f) (hb : Below w.heap.size w w') : Grid w' B g n m R f := ⟨h.outer.keep hb, fun i hi => (h.row i hi).keep hb, h.apart⟩
theorem Grid.more {w : World} {B B' g n m : Nat} {R : Nat → Nat} {f : Mat} (h : Grid w B g n m R f) (hb : B' ≤ B) : Grid w B' g n m R f := ⟨h.outer.more hb, fun i hi => (h.row i hi).more hb, h.apart⟩
theorem Grid.drewN {w : World} {B g n m : Nat} {R : Nat → Nat} {f : Mat} (h : Grid w B g n m R f) (d : Nat) : Grid (w.drewN d) B g n m R f := ⟨h.outer.drewN d, fun i hi => (h.row i hi).drewN d, h.apart⟩
theorem Grid.cell {w : World} {B g n m : Nat} {R : Nat → Nat} {f : Mat} (h : Grid w B g n m R f) (i : Nat) (hi : i < n) : w.cell? ⟨g, i, none⟩ = some (.slice (some ⟨R i, 0, none⟩) m m) := by
  rw [h.outer.cell]
  simp [hi, rowV]
theorem Grid.num {w : World} {B g n m : Nat} {R : Nat → Nat} {f : Mat} (h : Grid w B g n m R f) (i j : Nat) (hi : i < n) (hj : j < m) : w.cell? ⟨R i, j, none⟩ = some (.int .u8 ((f i j).n : Int)) := by
  rw [(h.row i hi).cell]
  simp [hj, cellsG]
theorem Grid.frozen {w : World} {B g n m : Nat} {R : Nat → Nat} {f : Mat} (h : Grid w B g n m R f) (i j : Nat) (hi : i < n) : w.frozen? ⟨R i, j, none⟩ = false := (h.row i hi).frozen j
def upd (f : Mat) (i j : Nat) (x : G) : Mat := fun a b => if a = i ∧ b = j then x else f a b
theorem upd_at (f : Mat) (i j : Nat) (x : G) : upd f i j x i j = x := if_pos ⟨rfl, rfl⟩
theorem upd_row {f : Mat} {i j a b : Nat} {x : G} (h : a ≠ i) : upd f i j x a b = f a b := if_neg (fun e => h e.1)
theorem upd_col {f : Mat} {i j a b : Nat} {x : G} (h : b ≠ j) : upd f i j x a b = f a b := if_neg (fun e => h e.2)
theorem cellsG_set (f : Mat) (i j m : Nat) (x : G) : (cellsG f i m).set j (.int .u8 (x.n : Int)) = cellsG (upd f i j x) i m := by
  apply List.ext_getElem
  · simp [cellsG]
  · intro b h1 h2
    rw [List.getElem_set]
    simp only [cellsG, List.getElem_map, List.getElem_range]
    by_cases e : j = b
    · subst e; rw [if_pos rfl, upd_at]
    · rw [if_neg e, upd_col (fun q => e q.symm)]
theorem cellsG_other (f : Mat) {i a : Nat} (j m : Nat) (x : G) (h : a ≠ i) : cellsG (upd f i j x) a m = cellsG f a m := by
  unfold cellsG
  congr 1
  funext b
  rw [upd_row h]
theorem Grid.ne {w : World} {B g n m : Nat} {R : Nat → Nat} {f : Mat} (h : Grid w B g n m R f) (i : Nat) (hi : i < n) : R i ≠ g := (h.row i hi).ne h.outer (by decide)
theorem Grid.set {w : World} {B g n m : Nat} {R : Nat → Nat} {f : Mat} (h : Grid w B g n m R f) (i j : Nat) (hi : i < n) (x : G) : Grid (w.setCell ⟨R i, j, none⟩ (.int .u8 (x.n : Int))) B g n m R (upd f i j x) := by
  refine ⟨h.outer.kept (grown_set w (R i) j _) (fun e => h.ne i hi (by simpa using e)), fun a ha => ?_, h.apart⟩
  by_cases e : a = i
  · subst e
    rw [← cellsG_set]
    exact (h.row a hi).stored j _
  · rw [cellsG_other f j m x e]
    exact (h.row a ha).kept (grown_set w (R i) j _) (fun q => e (h.apart a i ha hi (by simpa using q.symm)))
theorem Grid.base {w : World} {B g n m : Nat} {R : Nat → Nat} {f : Mat} (h : Grid w B g n m R f) (i : Nat) (hi : i < n) : B ≤ R i := (h.row i hi).1
theorem Grid.below {w a : World} {B g n m : Nat} {R : Nat → Nat} {f : Mat} (h : Grid w B g n m R f) (i j : Nat) (hi : i < n) (u : Value) (hb : Below B a w) : Below B a (w.setCell ⟨R i, j, none⟩ u) := hb.setCell (h.base i hi) _
theorem blk_own {w : World} {B g n : Nat} {xs : List Nat} (h : Blk w B 5 g (xs.map fun x : Nat => Value.int .u8 (x : Int))) (hn : xs.length = n) (h3 : n ≤ 9223372036854775807) : Own w B (.slice (some ⟨g, 0, none⟩) n n) xs := by
  obtain ⟨hb, cur, hg, hc⟩ := h
  have hs : cur.size = n := by rw [← Array.length_toList, hc, List.length_map, hn]
  unfold Own
  refine ⟨by rw [List.length_map, Nat.mul_one], .inr ⟨g, n, cur, by rw [hn], hb, hg, by omega, by unfold maxLen; omega, by omega, ?_⟩⟩
  rw [hc, Nat.mul_one]
  exact List.take_of_length_le (by rw [List.length_map]; exact Nat.le_refl _)
theorem laid_len (n m : Nat) (f : Mat) : (laid n m f).length = n := by simp [laid]
theorem Grid.own {w : World} {B g n m : Nat} {R : Nat → Nat} {f : Mat} (h : Grid w B g n m R f) (h1 : n ≤ 1000000) (h2 : m ≤ 1000000) : OwnMt w B (.slice (some ⟨g, 0, none⟩) n n) (laid n m f) := by
  refine ⟨(List.range n).map fun i => rowV (R i) m, ?_, by rw [laid_len, List.length_map, List.length_range], fun i hi => ?_⟩
  · obtain ⟨hb, cur, hg, hc⟩ := h.outer
    have hs : cur.size = n := by rw [← Array.length_toList, hc, List.length_map, List.length_range]
    unfold OwnV
    rw [List.length_map, List.length_range]
    refine ⟨by rw [List.length_map, List.length_range, Nat.mul_one], .inr ⟨g, n, cur, rfl, hb, hg, by omega, by unfold maxLen; omega, by omega, ?_⟩⟩
    rw [hc, Nat.mul_one]
    exact List.take_of_length_le (by rw [List.length_map, List.length_range]; exact Nat.le_refl _)
  · have hi2 : i < n := by simpa using hi
    have e1 : ((List.range n).map fun i => rowV (R i) m).getD i (.slice none 0 0) = rowV (R i) m := by simp [hi2]
    rw [e1, laid_row f hi2]
    refine blk_own ?_ (by simp) (by omega)
    have := h.row i hi2
    unfold cellsG at this
    rw [List.map_map]
    exact this
theorem Grid.isM {w : World} {B g n m : Nat} {R : Nat → Nat} {f : Mat} (h : Grid w B g n m R f) (h1 : n ≤ 1000000) (h2 : m ≤ 1000000) : IsM w (some ⟨g, 0, none⟩) (laid n m f) := (h.own h1 h2).isM.1
theorem laid_congr {n m : Nat} {f g : Mat} (h : ∀ i, i < n → ∀ j, j < m → f i j = g i j) : laid n m f = laid n m g :=
  (laid_shape n m f).ext (laid_shape n m g) (fun i hi j hj => by rw [laid_at f hi hj, laid_at g hi hj]; exact h i hi j hj)
theorem made_nils {w : World} {B g n : Nat} (h : w.ownsRow B 39 1 (.slice (some ⟨g, 0, none⟩) n n) n (madeCells (Value.slice none 0 0).cells (n * 1)).toList) : Blk w B 39 g (List.replicate n (.slice none 0 0)) := by
  have e : (madeCells (Value.slice none 0 0).cells (n * 1)).toList = List.replicate n (Value.slice none 0 0) := by
    rw [Nat.mul_one]; exact toList_madeCells_one (Value.slice none 0 0) n
  rw [e] at h
  rcases h.2 with ⟨h', _⟩ | ⟨g', cap, cur, h', hb, hg, _, _, h4, h5⟩
  · cases h'
  · simp only [Value.slice.injEq, Option.some.injEq, Addr.mk.injEq, and_true, true_and] at h'
    obtain ⟨rfl, rfl⟩ := h'
    refine ⟨hb, cur, hg, ?_⟩
    rw [← h5, List.take_of_length_le]
    rw [Array.length_toList]
    omega
theorem made_zeros {w : World} {B g n : Nat} (h : w.ownsRow B 5 1 (.slice (some ⟨g, 0, none⟩) n n) n (madeCells (Value.int .u8 0).cells (n * 1)).toList) (i : Nat) : Blk w B 5 g (cellsG (fun _ _ => G.zero) i n) := by
  have e : (madeCells (Value.int .u8 0).cells (n * 1)).toList = List.replicate n (Value.int .u8 0) := by
    rw [Nat.mul_one]; exact toList_madeCells_one (Value.int .u8 0) n
  rw [e] at h
  have e2 : cellsG (fun _ _ => G.zero) i n = List.replicate n (Value.int .u8 0) := by
    apply List.ext_getElem
    · simp [cellsG]
    · intro b h1 h2
      simp [cellsG, G.zero]
  rw [e2]
  rcases h.2 with ⟨h', _⟩ | ⟨g', cap, cur, h', hb, hg, _, _, h4, h5⟩
  · cases h'
  · simp only [Value.slice.injEq, Option.some.injEq, Addr.mk.injEq, and_true, true_and] at h'
    obtain ⟨rfl, rfl⟩ := h'
    refine ⟨hb, cur, hg, ?_⟩
    rw [← h5, List.take_of_length_le]
    rw [Array.length_toList]
    omega
/-- The first k rows stand. -/
structure Begun (w : World) (B g n m k : Nat) (R : Nat → Nat) : Prop where
  outer : Blk w B 39 g ((List.range n).map fun i => if i < k then rowV (R i) m else .slice none 0 0)
  row : ∀ i, i < k → Blk w B 5 (R i) (cellsG (fun _ _ => G.zero) i m)
  apart : ∀ i j, i < k → j < k → R i = R j → i = j
theorem Begun.next {w w' : World} {B g n m k : Nat} {R : Nat → Nat} {b : Nat} (h : Begun w B g n m k R) (hk : k < n) (hb : Blk w' B 5 b (cellsG (fun _ _ => G.zero) k m)) (hw : Below w.heap.size w w') (hn : w.heap.size ≤ b) :
    Begun (w'.setCell ⟨g, k, none⟩ (.slice (some ⟨b, 0, none⟩) m m)) B g n m (k + 1) (fun i => if i = k then b else R i) := by
  have ho := h.outer.keep hw
  have hgb : b ≠ g := hb.ne ho (by decide)
  refine ⟨?_, fun i hi => ?_, fun i j hi hj e => ?_⟩
  · have := ho.stored k (rowV b m)
    have e : ((List.range n).map fun i => if i < k then rowV (R i) m else .slice none 0 0).set k (rowV b m) = (List.range n).map fun i => if i < k + 1 then rowV (if i = k then b else R i) m else .slice none 0 0 := by
      apply List.ext_getElem
      · simp
      · intro i h1 h2
        rw [List.getElem_set]
        simp only [List.getElem_map, List.getElem_range]
        by_cases e : k = i
        · subst e; simp
        · rw [if_neg e]
          by_cases hlt : i < k
          · have : i < k + 1 := by omega
            have ne : i ≠ k := by omega
            simp [hlt, this, ne]
          · have : ¬ i < k + 1 := by omega
            simp [hlt, this]
    rw [e] at this
    exact this
  · by_cases e : i = k
    · subst e
      rw [if_pos rfl]
      exact hb.kept (grown_set w' g i _) (fun q => hgb (by simpa using q.symm))
    · rw [if_neg e]
      have hr := (h.row i (by omega)).keep hw
      exact hr.kept (grown_set w' g k _) (fun q => hr.ne ho (by decide) (by simpa using q.symm))
  · by_cases e1 : i = k
    · by_cases e2 : j = k
      · omega
      · rw [if_pos e1, if_neg e2] at e
        have := (h.row j (by omega)).lt
        omega
    · by_cases e2 : j = k
      · rw [if_neg e1, if_pos e2] at e
        have := (h.row i (by omega)).lt
        omega
      · rw [if_neg e1, if_neg e2] at e
        exact h.apart i j (by omega) (by omega) e
theorem Begun.done {w : World} {B g n m : Nat} {R : Nat → Nat} (h : Begun w B g n m n R) : Grid w B g n m R (fun _ _ => G.zero) := by
  refine ⟨?_, h.row, h.apart⟩
  have := h.outer
  rwa [show ((List.range n).map fun i => if i < n then rowV (R i) m else .slice none 0 0) = (List.range n).map fun i => rowV (R i) m from List.map_congr_left (fun i hi => if_pos (List.mem_range.1 hi))] at this
set_option maxHeartbeats 1600000 in
theorem noughts_any (n m : Nat) (w : World) (h1 : n ≤ 128) (h2 : m ≤ 128) :
    Calls Try.prog 22 #[.int .i64 (n : Int), .int .i64 (m : Int)] w fun e w' => ∃ g R, e = .returned (.slice (some ⟨g, 0, none⟩) n n) ∧ Grid w' w.heap.size g n m R (fun _ _ => G.zero) ∧ Below w.heap.size w w' := by
  obtain ⟨i0, hi, hz0, hz1, hz2⟩ := info_parts Try.info_rows
  obtain ⟨i1, hj, hy0, hy1, hy2⟩ := info_parts Try.info_u8'
  have HJ := hide (And.intro hj (And.intro hy0 (And.intro hy1 hy2)))
  clear hj hy0 hy1 hy2
  go_enter Try.func22, Try.ntmps22
  go_wp2_with (at_make; refine halt ?_)
  refine ⟨?_⟩
  refine wpList_make_full _ rfl (.tmp 7) (.tmp 7) 22 rfl w.heap.size 39 i0 (.slice none 0 0) 1 Try.underlying22 hi hz0 hz1 .i64 .i64 n n n rfl rfl rfl rfl (by rw [hz2]; omega) (by unfold maxLen; omega) (Nat.le_refl _) ?_
  intro w2 h2' g2
  have o2 := made_nils h2'
  have b2 : Below w.heap.size w w2 := (Below.refl _ _).grown g2 (Nat.le_refl _) (by simp)
  clear h2' g2 hi hz0 hz1 hz2 i0
  obtain ⟨g, hg⟩ : ∃ g, g = w.heap.size := ⟨_, rfl⟩
  rw [← hg] at o2 b2 ⊢
  have HG := hide hg
  have O2 := hide o2
  have B2 := hide b2
  clear hg o2 b2
  go_wp2_with fail
  go_loopw [11] (fun i wr => ∃ k : Nat, k ≤ n ∧ i = .int .i64 (k : Int) ∧ Hid (∃ R, Begun wr g g n m k R) ∧ Hid (Below g w wr)) (fun i _ => n - (intOf i).toNat)
  case atStart =>
    refine ⟨0, Nat.zero_le _, rfl, hide ⟨fun _ => 0, ⟨?_, fun i hi => absurd hi (Nat.not_lt_zero i), fun i j hi => absurd hi (Nat.not_lt_zero i)⟩⟩, hide B2.out⟩
    have e : ((List.range n).map fun i => if i < 0 then rowV 0 m else .slice none 0 0) = List.replicate n (.slice none 0 0) := by
      apply List.ext_getElem
      · simp
      · intro i h1 h2
        simp
    rw [e]
    exact O2.out
  case round =>
    obtain ⟨k, hk, rfl, hbeg, hbel⟩ := hrel
    by_cases hlt : k < n
    · obtain ⟨hj, hy0, hy1, hy2⟩ := HJ.out
      go_wp2_with (at_make; refine halt ?_)
      refine ⟨?_⟩
      refine wpList_make_full _ rfl (.tmp 16) (.tmp 16) 39 rfl wr.heap.size 5 i1 (.int .u8 0) 1 Try.underlying39 hj hy0 hy1 .i64 .i64 m m m rfl rfl rfl rfl (by rw [hy2]; omega) (by unfold maxLen; omega) (Nat.le_refl _) ?_
      intro w3 h3 g3
      clear hj hy0 hy1 hy2
      obtain ⟨R, hR⟩ := hbeg.out
      have hgs : g ≤ wr.heap.size := by rw [HG.out]; exact hbel.out.size
      have z3 := made_zeros h3 k
      have k3 : Below wr.heap.size wr w3 := (Below.refl _ _).grown g3 (Nat.le_refl _) (by simp)
      have nx := hR.next hlt (z3.more hgs) k3 (Nat.le_refl _)
      have f3 := (hR.outer.keep k3).frozen k
      have c3 : w3.cell? ⟨g, k, none⟩ = some (.slice none 0 0) := by
        rw [(hR.outer.keep k3).cell]
        simp [hlt]
      have NX := hide (show ∃ R, Begun (w3.setCell ⟨g, k, none⟩ (.slice (some ⟨wr.heap.size, 0, none⟩) m m)) g g n m (k + 1) R from ⟨_, nx⟩)
      have BL := hide (show Below g w (w3.setCell ⟨g, k, none⟩ (.slice (some ⟨wr.heap.size, 0, none⟩) m m)) from (hbel.out.trans (k3.mono hgs)).setCell (Nat.le_refl _) _)
      clear hgs h3 g3 z3 k3 nx hR hbeg hbel
      go_wp2_with fail
      go_roundw
      case rel => exact ⟨k + 1, by omega, by go_num, NX, BL⟩
      case measure => simp [intOf]; omega
    · obtain rfl : k = n := by omega
      go_wp2_with fail
      go_ret
      obtain ⟨R, hR⟩ := hbeg.out
      exact ⟨g, R, rfl, by rw [← HG.out]; exact hR.done, by rw [← HG.out]; exact hbel.out⟩
end Go.Proofs.Yteebdlliaipnlaa
