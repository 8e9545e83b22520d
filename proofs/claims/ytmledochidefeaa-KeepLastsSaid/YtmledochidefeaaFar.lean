/- A cell that is none of a thing's stands behind a call of it. No condition. -/
import Derived.Test.YtmledochidefeaaTurn
namespace Go.Proofs.Ytmledochidefeaa
open Go.RowKit
/-- A cell that is none of a disk's stands behind a call of it. -/
theorem Next.far {F F' : Nat → Prop} {w w' : World} (n : Next F w F' w') {b i : Nat} (hb : b < w.heap.size) (hn : ¬ F b) : w'.cell? ⟨b, i, none⟩ = w.cell? ⟨b, i, none⟩ := by
  have := n.turn.block b hb hn
  unfold World.cell?
  simp only [this]
theorem below_drew (w : World) : Below w.heap.size w w.drew := ⟨rfl, rfl, rfl, Nat.le_refl _, fun _ _ => rfl⟩
end Go.Proofs.Ytmledochidefeaa
