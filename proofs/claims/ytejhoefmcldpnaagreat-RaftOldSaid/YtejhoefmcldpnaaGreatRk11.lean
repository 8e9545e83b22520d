/- The end of a row of bytes; a row of the call's own that is not empty. -/
import Derived.Test.YtejhoefmcldpnaaGreatRk10
namespace Go.Proofs.YtejhoefmcldpnaaGreat
open Go.RowKit
theorem isB_tail {w : World} {b n c : Nat} {xs : List Nat} (h : IsB w (.slice (some ⟨b, 0, none⟩) n c) xs) (k : Nat) (hk : k ≤ n) :
    IsB w (.slice (some ⟨b, if c = k then 0 else k, none⟩) (n - k) (c - k)) (xs.drop k) := by
  by_cases hc : c = k
  · rw [if_pos hc]
    obtain ⟨_, _, e, _, _, h2, h3⟩ := h
    cases e
    have hd : xs.drop k = [] := List.drop_of_length_le (by omega)
    rw [hd]
    refine ⟨_, _, by rw [show xs.length - k = 0 by omega]; rfl, fun h => absurd rfl h, (fun h => by cases h), Nat.zero_le _, by omega⟩
  · rw [if_neg hc]
    have := h.drop k (n - k) (c - k) rfl rfl hk
    rw [Nat.zero_add] at this
    exact this
theorem own_some {w : World} {B : Nat} {u : Value} {xs : List Nat} {n : Nat} (h : Own w B u xs) (hn : xs.length = n) (h1 : 1 ≤ n) : ∃ g c, u = .slice (some ⟨g, 0, none⟩) n c := by
  unfold Own at h
  rcases h.2 with ⟨_, h0⟩ | ⟨g, cap, cur, rfl, _⟩
  · omega
  · exact ⟨g, cap, by rw [hn]⟩
end Go.Proofs.YtejhoefmcldpnaaGreat
