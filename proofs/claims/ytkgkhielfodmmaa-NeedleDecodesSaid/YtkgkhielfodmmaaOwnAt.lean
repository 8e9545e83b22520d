/- A store into bytes of the call's own. No conditions. -/
import Derived.Test.YtkgkhielfodmmaaApp
namespace Go.Proofs.Ytkgkhielfodmmaa
open Go.RowKit
theorem Own.stored {w : World} {B : Nat} {g n c : Nat} {xs : List Nat} (h : Own w B (.slice (some ⟨g, 0, none⟩) n c) xs) (hn : xs.length = n) (k z : Nat) :
    Own (w.setCell ⟨g, k, none⟩ (.int .u8 (z : Int))) B (.slice (some ⟨g, 0, none⟩) n c) (xs.set k z) := by
  subst hn
  unfold Own at h ⊢
  have := (World.ownsRow.stored h k (.int .u8 (z : Int))).1
  simpa [List.map_set] using this
theorem Own.at_ {w : World} {B : Nat} {v : Value} {xs : List Nat} {n : Nat} (h : Own w B v xs) (hn : xs.length = n) (h1 : 1 ≤ n) :
    ∃ g c, v = .slice (some ⟨g, 0, none⟩) n c ∧ B ≤ g ∧ n ≤ c ∧ c ≤ 9223372036854775807 ∧ (∀ k, k < n → w.cell? ⟨g, k, none⟩ = some (.int .u8 ((xs.getD k 0 : Nat) : Int))) ∧ ∀ k, w.frozen? ⟨g, k, none⟩ = false := by
  subst hn
  have h0 := h
  unfold Own at h
  rcases h.2 with ⟨rfl, hn⟩ | ⟨g, cap, cur, rfl, hb, hg, hc, hm, _⟩
  · omega
  · refine ⟨g, cap, rfl, hb, hc, by unfold maxLen at hm; omega, fun k hk => ?_, fun k => World.ownsRow.frozenAt h k⟩
    rw [World.ownsRow.cellAt h k (by omega)]
    simp [hk]
theorem xor8 (a b : Nat) (ha : a < 256) (hb : b < 256) : bits .xor .u8 (a : Int) (b : Int) = ((a ^^^ b : Nat) : Int) := u8_xor_nat a b ha hb
end Go.Proofs.Ytkgkhielfodmmaa
