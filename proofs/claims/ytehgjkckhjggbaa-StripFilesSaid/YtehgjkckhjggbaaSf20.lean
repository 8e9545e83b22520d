/- The document's own Read of a shard's file, all ways joined. Condition: at most 900000 bytes. -/
import Derived.Test.YtehgjkckhjggbaaSf19
namespace Go.Proofs.Ytehgjkckhjggbaa
open Go.RowKit
theorem rread_any (A : Option Addr) (n c : Nat) (b : List Nat) (w : World) (hA : IsB w (.slice A n c) b) (hn : b.length = n) (hb : ∀ x ∈ b, x < 256) (h9 : n ≤ 900000) :
    Calls Try.prog 75 #[.slice A n c] w fun e w' => RReadAns w b e w' := by
  by_cases h20 : n < 20
  · exact rread_short A n c b w hn h20
  · obtain ⟨ab, ao, rfl⟩ := isB_at hA (by omega)
    by_cases hf : val32 b ≠ 1735590144 ∨ n = 20 ∨ (n - 20) % 20 ≠ 0
    · exact rread_form ab ao n c b w hA hn hb (by omega) h9 hf
    · have hv : val32 b = 1735590144 := Decidable.byContradiction fun h => hf (.inl h)
      have hn20 : ¬ n = 20 := fun h => hf (.inr (.inl h))
      have hm : (n - 20) % 20 = 0 := Decidable.byContradiction fun h => hf (.inr (.inr h))
      exact rread_rest ab ao n c ((n - 20) / 20) b w hA hn hb h9 (by omega) (by omega) hv
end Go.Proofs.Ytehgjkckhjggbaa
