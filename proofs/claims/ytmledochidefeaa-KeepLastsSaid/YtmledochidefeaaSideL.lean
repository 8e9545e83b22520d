/- What each call does to a disk, as lists; the program's calls by it. No condition but the widths. -/
import Derived.Test.YtmledochidefeaaDRead
import Derived.Test.YtmledochidefeaaDMove
import Derived.Test.YtmledochidefeaaDCut
import Derived.Test.YtmledochidefeaaDRot
import Derived.Test.YtmledochidefeaaDApp2
import Derived.Test.YtmledochidefeaaDCrash
import Derived.Test.YtmledochidefeaaDList
namespace Go.Proofs.Ytmledochidefeaa
open Go.RowKit Go.Maps
structure Sane (room : Nat) (L : DiskL) : Prop where
  rise : Rise L
  few : L.length ≤ 256
  used : usedL L ≤ room
  most : room ≤ 1073741824
  last : ∀ q ∈ L, q.2.2 ≤ q.2.1.length
theorem DiskAt.sane {w : World} {F : Nat → Prop} {d room : Nat} {L : DiskL} (h : DiskAt w F d room L) : Sane room L := by
  obtain ⟨h1, h2, h3, h4, h5, _⟩ := h.facts
  exact ⟨h1, h2, h3, h4, fun q hq => (h5 q hq).1⟩
theorem used_get {L : DiskL} {k : Str} {a : List Nat × Nat} (hr : Rise L) (h : getK k L = some a) : a.1.length ≤ usedL L := by
  unfold usedL
  rw [sumK_del _ k hr, h]
  simp
theorem Sane.len {room : Nat} {L : DiskL} (h : Sane room L) {k : Str} {a : List Nat × Nat} (hg : getK k L = some a) : a.1.length ≤ 1073741824 :=
  Nat.le_trans (used_get h.rise hg) (Nat.le_trans h.used h.most)
def syncL (k : Str) (L : DiskL) : DiskL × Nat := match getK k L with
  | none => (L, 7)
  | some a => (putK k (a.1, a.1.length) L, 0)
def remL (k : Str) (L : DiskL) : DiskL × Nat := match getK k L with
  | none => (L, 7)
  | some _ => (delK k L, 0)
def renL (k t : Str) (L : DiskL) : DiskL × Nat := if ¬ (1 ≤ t.length ∧ t.length ≤ 64) then (L, 1) else match getK k L with
  | none => (L, 7)
  | some a => (putK t a (delK k L), 0)
def cutL (k : Str) (z : Int) (L : DiskL) : DiskL × Nat := match getK k L with
  | none => (L, 7)
  | some a => if z < 0 ∨ (a.1.length : Int) < z then (L, 1) else (putK k (a.1.take z.toNat, min a.2 z.toNat) L, 0)
def rotL (k : Str) (z : Int) (y : Nat) (L : DiskL) : DiskL × Nat := match getK k L with
  | none => (L, 7)
  | some a => if z < 0 ∨ (a.1.length : Int) ≤ z then (L, 7) else (putK k (a.1.set z.toNat (a.1.getD z.toNat 0 ^^^ y), a.2) L, 0)
def readL (k : Str) (L : DiskL) : List Nat × Nat := match getK k L with
  | none => ([], 7)
  | some a => (a.1, 0)
section
variable (F : Nat → Prop) (d room : Nat) (L : DiskL) (s : ByteArray) (w : World) (hD : DiskAt w F d room L) (hs : s.size ≤ 1099511627776)
include hD hs
theorem sync_any : Calls Try.prog 61 #[.pointer (some ⟨d, 0, none⟩), .string s] w fun e w' => e = .returned (.int .i64 ((syncL s.data.toList L).2 : Nat)) ∧ ∃ F', DiskAt w' F' d room (syncL s.data.toList L).1 ∧ Next F w F' w' := by
  unfold syncL
  rcases hg : getK s.data.toList L with _ | ⟨xs, l⟩
  · refine (sync_none F d room L s w hD hs hg).mono ?_
    rintro e w' ⟨rfl, k⟩
    exact ⟨rfl, F, hD.below k, Next.of_below F k⟩
  · exact sync_some F d room L s xs l w hD hs hg
theorem remove_any : Calls Try.prog 34 #[.pointer (some ⟨d, 0, none⟩), .string s] w fun e w' => e = .returned (.int .i64 ((remL s.data.toList L).2 : Nat)) ∧ ∃ F', DiskAt w' F' d room (remL s.data.toList L).1 ∧ Next F w F' w' := by
  unfold remL
  rcases hg : getK s.data.toList L with _ | a
  · refine (remove_none F d room L s w hD hs hg).mono ?_
    rintro e w' ⟨rfl, k⟩
    exact ⟨rfl, F, hD.below k, Next.of_below F k⟩
  · refine (remove_some F d room L s a w hD hs hg).mono ?_
    rintro e w' ⟨rfl, h, k⟩
    exact ⟨rfl, F, h, k⟩
theorem rename_any (t : ByteArray) (ht : t.size ≤ 1099511627776) : Calls Try.prog 63 #[.pointer (some ⟨d, 0, none⟩), .string s, .string t] w fun e w' => e = .returned (.int .i64 ((renL s.data.toList t.data.toList L).2 : Nat)) ∧ ∃ F', DiskAt w' F' d room (renL s.data.toList t.data.toList L).1 ∧ Next F w F' w' := by
  have hl : t.data.toList.length = t.size := rfl
  by_cases hn : 1 ≤ t.size ∧ t.size ≤ 64
  · have e : renL s.data.toList t.data.toList L = (match getK s.data.toList L with | none => (L, 7) | some a => (putK t.data.toList a (delK s.data.toList L), 0)) := by unfold renL; rw [if_neg (fun h => h (by rw [hl]; exact hn))]
    rw [e]
    rcases hg : getK s.data.toList L with _ | ⟨xs, l⟩
    · refine (rename_none F d room L s t w hD hs hn hg).mono ?_
      rintro e w' ⟨rfl, k⟩
      exact ⟨rfl, F, hD.below k, Next.of_below F k⟩
    · exact rename_ok F d room L s t xs l w hD hs hn hg
  · have e : renL s.data.toList t.data.toList L = (L, 1) := by unfold renL; rw [if_pos (by rw [hl]; exact hn)]
    rw [e]
    refine (rename_arg d s t w hn (by omega)).mono ?_
    rintro e w' ⟨rfl, k⟩
    exact ⟨rfl, F, hD.below k, Next.of_below F k⟩
theorem cutD_any (z : Int) : Calls Try.prog 27 #[.pointer (some ⟨d, 0, none⟩), .string s, .int .i64 z] w fun e w' => e = .returned (.int .i64 ((cutL s.data.toList z L).2 : Nat)) ∧ ∃ F', DiskAt w' F' d room (cutL s.data.toList z L).1 ∧ Next F w F' w' := by
  unfold cutL
  rcases hg : getK s.data.toList L with _ | ⟨xs, l⟩
  · refine (cutD_none F d room L s z w hD hs hg).mono ?_
    rintro e w' ⟨rfl, k⟩
    exact ⟨rfl, F, hD.below k, Next.of_below F k⟩
  · dsimp only
    by_cases hz : z < 0 ∨ (xs.length : Int) < z
    · rw [if_pos hz]
      refine (cutD_arg F d room L s xs l z w hD hs hg hz).mono ?_
      rintro e w' ⟨rfl, k⟩
      exact ⟨rfl, F, hD.below k, Next.of_below F k⟩
    · rw [if_neg hz]
      obtain ⟨k, rfl⟩ : ∃ k : Nat, z = (k : Int) := ⟨z.toNat, by omega⟩
      exact cutD_ok F d room L s xs l k w hD hs hg (by omega)
theorem rot_any (z : Int) (y : Nat) (hy : y < 256) : Calls Try.prog 18 #[.pointer (some ⟨d, 0, none⟩), .string s, .int .i64 z, .int .u8 (y : Int)] w fun e w' => e = .returned (.int .i64 ((rotL s.data.toList z y L).2 : Nat)) ∧ ∃ F', DiskAt w' F' d room (rotL s.data.toList z y L).1 ∧ Next F w F' w' := by
  unfold rotL
  rcases hg : getK s.data.toList L with _ | ⟨xs, l⟩
  · refine (rot_none F d room L s z y w hD hs hg).mono ?_
    rintro e w' ⟨rfl, k⟩
    exact ⟨rfl, F, hD.below k, Next.of_below F k⟩
  · dsimp only
    by_cases hz : z < 0 ∨ (xs.length : Int) ≤ z
    · rw [if_pos hz]
      refine (rot_out F d room L s xs l z y w hD hs hg hz).mono ?_
      rintro e w' ⟨rfl, k⟩
      exact ⟨rfl, F, hD.below k, Next.of_below F k⟩
    · rw [if_neg hz]
      obtain ⟨k, rfl⟩ : ∃ k : Nat, z = (k : Int) := ⟨z.toNat, by omega⟩
      exact rot_ok F d room L s xs l k y w hD hs hg (by omega) hy
theorem read_any : Calls Try.prog 31 #[.pointer (some ⟨d, 0, none⟩), .string s] w fun e w' => ∃ v, e = .returned (.tuple #[v, .int .i64 ((readL s.data.toList L).2 : Nat)]) ∧ Own w' w.heap.size v (readL s.data.toList L).1 ∧ Below w.heap.size w w' := by
  unfold readL
  rcases hg : getK s.data.toList L with _ | ⟨xs, l⟩
  · refine (read_none F d room L s w hD hs hg).mono ?_
    rintro e w' ⟨rfl, k⟩
    exact ⟨_, rfl, World.ownsRow_nil _ _ _ _, k⟩
  · exact read_some F d room L s xs l w hD hs hg
end
end Go.Proofs.Ytmledochidefeaa
