/- What a row's condition on the listed variables gives: the library's table of places lies as it was laid; the door's own heap meets that condition. -/
import Derived.Test.YtpjocddeiehckaaDoorRows
import Derived.Test.YtpjocddeiehckaaDoorPr4
import Derived.LaidMore
import Derived.Lib.LaidTab
import Derived.Stop.Joined
import Derived.ProofKit
namespace Go.Proofs.YtpjocddeiehckaaDoor
open Go.RowKit
def laidBoth : List (String × DataW Unit) := [("math/bits.deBruijn32tab", Rows.laid_math_bits_deBruijn32tab), ("math/bits.deBruijn64tab", Rows.laid_math_bits_deBruijn64tab)]
theorem tab_data : (Rows.laid_math_bits_deBruijn64tab : DataW Unit) = Lib.tabData .u8 (tzT.map fun n : Nat => (n : Int)) := by kernel_rfl
theorem tab_named : Tryd.prog.globalNamed "math/bits.deBruijn64tab" = some 1 := by kernel_rfl
theorem tab_typed : (Tryd.prog.globals[1]?).map (·.type) = some 101 := by kernel_rfl
theorem tab_cells1 : Tryd.prog.cellsOf 5 = 1 := by kernel_rfl
theorem tab_cells64 : Tryd.prog.cellsOf 101 = 64 := by kernel_rfl
theorem tab_laid {W : World} (h : laidMetH Tryd.prog laidBoth W) : TabW W := by
  rw [MakeChecks.laidMetH_plain _ _ _ (by kernel_rfl)] at h
  obtain ⟨ps, ⟨g0, t0, cs0, f0, p0, q0, hg0, ht0, hv0, hd0, ⟨g1, t1, cs1, f1, p1, q1, hg1, ht1, hv1, hd1, _, _⟩, _⟩, _⟩ := h
  obtain rfl := Option.some.inj (tab_named.symm.trans hg1)
  obtain rfl := Option.some.inj (tab_typed.symm.trans ht1)
  rw [tab_data] at hd1
  have hT : Lib.TabIs Tryd.prog W "math/bits.deBruijn64tab" .u8 (tzT.map fun n : Nat => (n : Int)) := by
    unfold Lib.TabIs
    rw [hv1, ← Lib.cells_of_tab Tryd.underlying101 Tryd.underlying5 tab_cells1 tab_cells64 hd1]
  have cell : ∀ i, i < 64 → W.cell? ⟨1, i, none⟩ = some (.int .u8 ((tzT.getD i 0 : Nat) : Int)) := fun i hi => by
    have hl : i < tzT.length := hi
    have := hT.cell tab_named i (by rw [List.length_map]; exact hl)
    rw [this]
    simp [hl]
  exact ⟨cell_lt (cell 0 (by decide)), cell⟩
/-- The door's own heap. -/
theorem door_met (os : Os) (args : Array Value) : laidMetH Tryd.prog laidBoth ((World.doorLaid Tryd.prog 19 os).forCall (fun _ _ => 0) ⟨#[], args, []⟩).memory :=
  laidMetH_of_parts3 (fuel := 8) (laidMet_of_run' 8 (by kernel_rfl) (by kernel_rfl)) (by kernel_rfl) (by kernel_rfl)
end Go.Proofs.YtpjocddeiehckaaDoor
