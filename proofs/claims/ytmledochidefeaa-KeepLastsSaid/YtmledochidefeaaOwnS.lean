/- Names in a row of the call's own. No condition. -/
import Derived.Test.YtmledochidefeaaDCrash
namespace Go.Proofs.Ytmledochidefeaa
open Go.RowKit
theorem str_at (k : Str) : ∃ s : ByteArray, encStr k = .string s ∧ s.data.toList = k := ⟨⟨k.toArray⟩, rfl, by simp⟩
theorem OwnS.rows {w : World} {B n : Nat} {v : Value} {ks : List Str} (h : OwnS w B v ks) (hn : ks.length = n) : ∃ A c, v = .slice A n c ∧ n ≤ c ∧ c ≤ 9223372036854775807 ∧ ∀ i, i < n → ∃ g, A = some ⟨g, 0, none⟩ ∧ w.cell? ⟨g, i, none⟩ = some (encStr (ks.getD i [])) := by
  subst hn
  obtain ⟨A, c, e, h1, h2, h3⟩ := h.form
  exact ⟨A, c, e, h1, h2, fun i hi => by
    obtain ⟨g, e, _, _, q⟩ := h3 i hi
    exact ⟨g, e, q⟩⟩
end Go.Proofs.Ytmledochidefeaa
