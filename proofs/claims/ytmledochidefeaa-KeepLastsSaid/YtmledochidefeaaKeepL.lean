/- What a save and a load do to a disk, as lists. No condition but the widths. -/
import Derived.Test.YtmledochidefeaaSideL
import Derived.Test.YtmledochidefeaaFramL
namespace Go.Proofs.Ytmledochidefeaa
open Go.RowKit Go.Maps
/-- A name with the mark behind it. -/
def tildeL (k : Str) : Str := k ++ [126]
theorem tilde_len (k : Str) : (tildeL k).length = k.length + 1 := by unfold tildeL; simp
theorem tilde_ne (k : Str) : k ≠ tildeL k := fun e => by
  have := congrArg List.length e
  rw [tilde_len] at this
  omega
theorem tilde_str (s : ByteArray) : (s ++ ⟨#[126]⟩ : ByteArray).data.toList = tildeL s.data.toList := by
  unfold tildeL
  rw [ByteArray.data_append, Array.toList_append]
theorem tilde_size (s : ByteArray) : (s ++ ⟨#[126]⟩ : ByteArray).size = s.size + 1 := by
  rw [ByteArray.size_append]
  rfl
/-- The disk behind the first two steps of a save, and their answer. -/
def draftL (room : Nat) (k : Str) (p : List Nat) (L : DiskL) : DiskL × Nat := appL room (tildeL k) (frameL p) (remL (tildeL k) L).1
def saveL (room : Nat) (k : Str) (p : List Nat) (L : DiskL) : DiskL × Nat :=
  if ¬ (1 ≤ k.length ∧ k.length ≤ 63) then (L, 1)
  else if 1048576 < p.length then (L, 5)
  else if (draftL room k p L).2 ≠ 0 then ((remL (tildeL k) (draftL room k p L).1).1, (draftL room k p L).2)
  else ((renL (tildeL k) k (syncL (tildeL k) (draftL room k p L).1).1).1, 0)
def loadL (k : Str) (L : DiskL) : List Nat × Nat :=
  if (readL k L).2 ≠ 0 then ([], (readL k L).2)
  else if (decL (readL k L).1).2.2 ≠ 0 then ([], (decL (readL k L).1).2.2)
  else if (decL (readL k L).1).2.1 < (readL k L).1.length then ([], 3)
  else ((decL (readL k L).1).1, 0)
theorem saveL_bad {room : Nat} {k : Str} {p : List Nat} {L : DiskL} (h : ¬ (1 ≤ k.length ∧ k.length ≤ 63)) : saveL room k p L = (L, 1) := by unfold saveL; rw [if_pos h]
theorem saveL_long {room : Nat} {k : Str} {p : List Nat} {L : DiskL} (h : 1 ≤ k.length ∧ k.length ≤ 63) (hp : 1048576 < p.length) : saveL room k p L = (L, 5) := by unfold saveL; rw [if_neg (fun h' => h' h), if_pos hp]
theorem saveL_err {room : Nat} {k : Str} {p : List Nat} {L : DiskL} (h : 1 ≤ k.length ∧ k.length ≤ 63) (hp : p.length ≤ 1048576) (hd : (draftL room k p L).2 ≠ 0) : saveL room k p L = ((remL (tildeL k) (draftL room k p L).1).1, (draftL room k p L).2) := by unfold saveL; rw [if_neg (fun h' => h' h), if_neg (by omega), if_pos hd]
theorem saveL_ok {room : Nat} {k : Str} {p : List Nat} {L : DiskL} (h : 1 ≤ k.length ∧ k.length ≤ 63) (hp : p.length ≤ 1048576) (hd : (draftL room k p L).2 = 0) : saveL room k p L = ((renL (tildeL k) k (syncL (tildeL k) (draftL room k p L).1).1).1, 0) := by unfold saveL; rw [if_neg (fun h' => h' h), if_neg (by omega), if_neg (by simp [hd])]
theorem remL_one (k : Str) (L : DiskL) : (remL k L).1 = delK k L := by
  unfold remL
  rcases h : getK k L with _ | a
  · exact (delK_of_none h).symm
  · rfl
theorem del_twice (k : Str) (L : DiskL) : delK k (delK k L) = delK k L := delK_of_none getK_del_same
theorem del_put (k : Str) (a : List Nat × Nat) (L : DiskL) : delK k (putK k a L) = delK k L := by
  have h : ∀ l : DiskL, delK k (insK (k, a) l) = delK k l := by
    intro l
    induction l with
    | nil => simp [insK, delK]
    | cons x xs ih =>
      unfold insK
      split
      · simp [delK]
      · have e : ∀ l : DiskL, delK k (x :: l) = if x.1 == k then delK k l else x :: delK k l := by
          intro l
          unfold delK
          rw [List.filter_cons]
          by_cases hx : (x.1 == k) = true <;> simp [hx]
        rw [e, e, ih]
  unfold putK
  rw [h, del_twice]
theorem appL_err {room : Nat} {k : Str} {p : List Nat} {L : DiskL} (h : (appL room k p L).2 ≠ 0) : (appL room k p L).1 = L := by
  unfold appL at h ⊢
  split
  · rfl
  · split
    · rfl
    · rename_i h1 h2
      rw [if_neg h1, if_neg h2] at h
      exact absurd rfl h
theorem appL_done {room : Nat} {k : Str} {p : List Nat} {L : DiskL} (h : (appL room k p L).2 = 0) : (appL room k p L).1 = putK k (oldB k L ++ p, oldN k L) L := by
  unfold appL at h ⊢
  split
  · rename_i h1
    rw [if_pos h1] at h
    exact absurd h (by simp)
  · rename_i h1
    rw [if_neg h1] at h
    split
    · rename_i h2
      rw [if_pos h2] at h
      exact absurd h (by simp)
    · rfl
theorem draft_done {room : Nat} {k : Str} {p : List Nat} {L : DiskL} (h : (draftL room k p L).2 = 0) : (draftL room k p L).1 = putK (tildeL k) (frameL p, 0) (delK (tildeL k) L) := by
  unfold draftL at h ⊢
  rw [appL_done h, remL_one]
  unfold oldB oldN
  rw [getK_del_same]
  rfl
theorem draft_err {room : Nat} {k : Str} {p : List Nat} {L : DiskL} (h : (draftL room k p L).2 ≠ 0) : (draftL room k p L).1 = delK (tildeL k) L := by
  unfold draftL at h ⊢
  rw [appL_err h, remL_one]
theorem draft_get {room : Nat} {k : Str} {p : List Nat} {L : DiskL} (hr : Rise L) (h : (draftL room k p L).2 = 0) : getK (tildeL k) (draftL room k p L).1 = some (frameL p, 0) := by
  rw [draft_done h]
  exact getK_put_same (delK_rise hr)
theorem sync_there {k : Str} {a : List Nat × Nat} {L : DiskL} (h : getK k L = some a) : syncL k L = (putK k (a.1, a.1.length) L, 0) := by unfold syncL; rw [h]
theorem ren_there {k t : Str} {a : List Nat × Nat} {L : DiskL} (ht : 1 ≤ t.length ∧ t.length ≤ 64) (h : getK k L = some a) : renL k t L = (putK t a (delK k L), 0) := by unfold renL; rw [if_neg (fun h' => h' ht), h]
/-- The sync and the rename answer 0. -/
theorem sync_zero {room : Nat} {k : Str} {p : List Nat} {L : DiskL} (hr : Rise L) (h : (draftL room k p L).2 = 0) : syncL (tildeL k) (draftL room k p L).1 = (putK (tildeL k) (frameL p, (frameL p).length) (delK (tildeL k) L), 0) := by
  rw [sync_there (draft_get hr h), draft_done h, putK_put _ _ _ (delK_rise hr)]
theorem ren_zero {room : Nat} {k : Str} {p : List Nat} {L : DiskL} (hr : Rise L) (hk : 1 ≤ k.length ∧ k.length ≤ 64) (h : (draftL room k p L).2 = 0) : renL (tildeL k) k (syncL (tildeL k) (draftL room k p L).1).1 = (putK k (frameL p, (frameL p).length) (delK (tildeL k) L), 0) := by
  rw [sync_zero hr h, ren_there hk (getK_put_same (delK_rise hr)), del_put, del_twice]
theorem saved {room : Nat} {k : Str} {p : List Nat} {L : DiskL} (hr : Rise L) (hk : 1 ≤ k.length ∧ k.length ≤ 63) (hp : p.length ≤ 1048576) (h : (draftL room k p L).2 = 0) : saveL room k p L = (putK k (frameL p, (frameL p).length) (delK (tildeL k) L), 0) := by
  rw [saveL_ok hk hp h, ren_zero hr ⟨hk.1, by omega⟩ h]
theorem refused {room : Nat} {k : Str} {p : List Nat} {L : DiskL} (hk : 1 ≤ k.length ∧ k.length ≤ 63) (hp : p.length ≤ 1048576) (h : (draftL room k p L).2 ≠ 0) : saveL room k p L = (delK (tildeL k) L, (draftL room k p L).2) := by
  rw [saveL_err hk hp h, remL_one, draft_err h, del_twice]
end Go.Proofs.Ytmledochidefeaa
