/- The document's Take, whatever the place. No condition but the widths. -/
import Derived.Test.YtdhamhaadclhkaaRNDrop
namespace Go.Proofs.Ytdhamhaadclhkaa
open Go.RowKit
theorem rtake5_any (F : Nat → Prop) (g : Nat) (L : List Tale) (i : Int) (w : World) (h : NetAt RN w F g L) :
    Calls Try.prog 26 #[.pointer (some ⟨g, 0, none⟩), .int .i64 i] w fun e w' => ∃ r, e = .returned (.tuple #[r, .bool (decide (0 ≤ i ∧ i < (L.length : Int)))]) ∧ ∃ F', FreshO w' w.heap.size F' r (getM i L) ∧ NetAt RN w' F' g (cutM i L) ∧ Next F w F' w' := by
  obtain ⟨v, X, rfl, hS⟩ := h
  by_cases hi : 0 ≤ i ∧ i < ((X.map Itm.says).length : Int)
  · rw [decide_eq_true hi]
    rw [List.length_map] at hi
    obtain ⟨j, rfl⟩ : ∃ j : Nat, i = (j : Int) := ⟨i.toNat, by omega⟩
    have hj : j < X.length := by omega
    rw [getM_in hj, cutM_in hj]
    refine (rtake_some F g v X j w hS hj).mono ?_
    rintro e w' ⟨r, rfl, F', v', h', t, fr⟩
    exact ⟨r, rfl, F', fr, ⟨v', _, rfl, h'⟩, t⟩
  · rw [decide_eq_false hi, getM_out hi, cutM_out hi]
    rw [List.length_map] at hi
    refine (rtake_none F g v X i w hS hi).mono ?_
    rintro e w' ⟨rfl, k⟩
    exact ⟨_, rfl, F, freshO_zero _ _ _, ⟨v, X, rfl, hS.below k⟩, Next.of_below F k⟩
end Go.Proofs.Ytdhamhaadclhkaa
