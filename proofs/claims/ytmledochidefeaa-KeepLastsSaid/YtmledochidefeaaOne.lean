/- Disks with a file or two, as lists. It names nothing of the program. -/
import Derived.Test.YtmledochidefeaaDApp2
import Derived.Test.YtmledochidefeaaDCrash
namespace Go.Proofs.Ytmledochidefeaa
open Go.RowKit
theorem getK_one {α : Type} (k : Str) (a : α) : getK k [(k, a)] = some a := by simp [getK]
theorem putK_nil {α : Type} (k : Str) (a : α) : putK k a ([] : List (Str × α)) = [(k, a)] := rfl
theorem putK_one {α : Type} (k : Str) (a b : α) : putK k a [(k, b)] = [(k, a)] := by simp [putK, delK, insK]
theorem usedL_one (k : Str) (xs : List Nat) (l : Nat) : usedL [(k, (xs, l))] = xs.length := by simp [usedL, sumK]
theorem appL_new {room : Nat} {k : Str} {p : List Nat} (hk : 1 ≤ k.length ∧ k.length ≤ 64) (h : p.length ≤ room) : appL room k p [] = ([(k, (p, 0))], 0) := by
  unfold appL
  rw [if_neg (fun h => h hk), if_neg]
  · rfl
  · rintro (⟨_, h'⟩ | h')
    · simp at h'
    · have : usedL [] = 0 := rfl
      omega
theorem appL_more {room : Nat} {k : Str} {xs p : List Nat} {l : Nat} (hk : 1 ≤ k.length ∧ k.length ≤ 64) (h : xs.length + p.length ≤ room) : appL room k p [(k, (xs, l))] = ([(k, (xs ++ p, l))], 0) := by
  unfold appL
  rw [if_neg (fun h => h hk), if_neg]
  · unfold oldB oldN
    rw [getK_one, putK_one]
    rfl
  · rw [getK_one, usedL_one]
    rintro (⟨h', _⟩ | h')
    · cases h'
    · omega
theorem crashD_one (draw : Nat) (k : Str) (xs ys : List Nat) : ∃ m, xs.length ≤ m ∧ m ≤ (xs ++ ys).length ∧ crashD draw [(k, (xs ++ ys, xs.length))] = [(k, ((xs ++ ys).take m, m))] := by
  have h := crash1_le draw 0 (xs ++ ys, xs.length) (by simp)
  exact ⟨_, Nat.le_add_right _ _, h, rfl⟩
end Go.Proofs.Ytmledochidefeaa
