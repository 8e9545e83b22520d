/- keep.steps: four functions over boxes of the call's own. No condition but the widths. -/
import Derived.Test.YtmledochidefeaaTurn
namespace Go.Proofs.Ytmledochidefeaa
open Go.RowKit
/-- What the functions hold: boxes of the disk, the draft's name, the record, the name. -/
structure Boxes (w : World) (a b c e d : Nat) (t s : ByteArray) (R : Value) : Prop where
  disk : w.cell? ⟨a, 0, none⟩ = some (.pointer (some ⟨d, 0, none⟩))
  draft : w.cell? ⟨b, 0, none⟩ = some (.string t)
  record : w.cell? ⟨c, 0, none⟩ = some R
  name : w.cell? ⟨e, 0, none⟩ = some (.string s)
/-- The row of functions. -/
structure Funcs (w : World) (g a b c e : Nat) : Prop where
  f0 : w.cell? ⟨g, 0, none⟩ = some (.func (.func 58) #[] #[.pointer (some ⟨a, 0, none⟩), .pointer (some ⟨b, 0, none⟩)])
  f1 : w.cell? ⟨g, 1, none⟩ = some (.func (.func 59) #[] #[.pointer (some ⟨a, 0, none⟩), .pointer (some ⟨b, 0, none⟩), .pointer (some ⟨c, 0, none⟩)])
  f2 : w.cell? ⟨g, 2, none⟩ = some (.func (.func 60) #[] #[.pointer (some ⟨a, 0, none⟩), .pointer (some ⟨b, 0, none⟩)])
  f3 : w.cell? ⟨g, 3, none⟩ = some (.func (.func 62) #[] #[.pointer (some ⟨a, 0, none⟩), .pointer (some ⟨b, 0, none⟩), .pointer (some ⟨e, 0, none⟩)])
theorem size_alloc1 (w : World) (o : Obj) : (w.alloc o).heap.size = w.heap.size + 1 := by simp
theorem new_cell (w : World) (cs : Array Value) (t : TypeId) (b i : Nat) (v : Value) (hb : b = w.heap.size) (h : cs[i]? = some v) : (w.alloc (.cells cs t)).cell? ⟨b, i, none⟩ = some v := by
  subst hb
  rw [← h]
  exact cell_of_row _ _ _ _ _ (0, 0) (heap_alloc_new w _)
theorem old_cell (w : World) (o : Obj) {p : Addr} {v : Value} (h : w.cell? p = some v) : (w.alloc o).cell? p = some v := ((below_alloc w o).cell (cell_lt h)).trans h
set_option maxHeartbeats 1600000 in
theorem steps_any (d : Nat) (s : ByteArray) (P : Option Addr) (m cp : Nat) (w : World) (hs : s.size ≤ 64) :
    Calls Try.prog 33 #[.pointer (some ⟨d, 0, none⟩), .string s, .slice P m cp] w fun ex w' => ∃ g a b c e, ex = .returned (.slice (some ⟨g, 0, none⟩) 4 4) ∧ Boxes w' a b c e d (s ++ ⟨#[126]⟩) s (.slice P m cp) ∧ Funcs w' g a b c e ∧
      (w.heap.size ≤ a ∧ w.heap.size ≤ b ∧ w.heap.size ≤ c ∧ w.heap.size ≤ e ∧ w.heap.size ≤ g) ∧ Below w.heap.size w w' := by
  go_enter Try.func33, Try.ntmps33
  go_wp2_with fail
  refine bodyPost_ret (v := ?v) ?h1 ?h2 ?h3
  case h2 => rfl
  case h1 => exact results_tmp (fn := Try.f33) (t := 6) rfl _ _ _
  refine ⟨w.heap.size + 1 + 1 + 1 + 1, w.heap.size, w.heap.size + 1 + 1 + 1, w.heap.size + 1 + 1, w.heap.size + 1, rfl, ⟨?_, ?_, ?_, ?_⟩, ⟨?_, ?_, ?_, ?_⟩, ⟨by omega, by omega, by omega, by omega, by omega⟩, ?_⟩
  · exact old_cell _ _ (old_cell _ _ (old_cell _ _ (old_cell _ _ (new_cell _ _ _ _ _ _ rfl rfl))))
  · exact old_cell _ _ (new_cell _ _ _ _ _ _ (by simp only [size_alloc1]) rfl)
  · exact old_cell _ _ (old_cell _ _ (new_cell _ _ _ _ _ _ (by simp only [size_alloc1]) rfl))
  · exact old_cell _ _ (old_cell _ _ (old_cell _ _ (new_cell _ _ _ _ _ _ (by simp only [size_alloc1]) rfl)))
  · exact new_cell _ _ _ _ _ _ (by simp only [size_alloc1]) rfl
  · exact new_cell _ _ _ _ _ _ (by simp only [size_alloc1]) rfl
  · exact new_cell _ _ _ _ _ _ (by simp only [size_alloc1]) rfl
  · exact new_cell _ _ _ _ _ _ (by simp only [size_alloc1]) rfl
  · exact below_step (below_step (below_step (below_step (below_alloc w _) (below_alloc _ _)) (below_alloc _ _)) (below_alloc _ _)) (below_alloc _ _)
end Go.Proofs.Ytmledochidefeaa
