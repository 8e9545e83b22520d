/- What each call does to a disk, as lists; the program's calls and the document's by it. No condition but the widths. -/
import Derived.Test.YtndffjgneapmdaaRCopies
import Derived.Test.YtndffjgneapmdaaRRen
import Derived.Test.YtndffjgneapmdaaRRot
import Derived.Test.YtndffjgneapmdaaRSome
import Derived.Test.YtndffjgneapmdaaRCut
import Derived.Test.YtndffjgneapmdaaDRead
import Derived.Test.YtndffjgneapmdaaDMove
import Derived.Test.YtndffjgneapmdaaDCut
import Derived.Test.YtndffjgneapmdaaDRot
import Derived.Test.YtndffjgneapmdaaDApp2
import Derived.Test.YtndffjgneapmdaaDCrash
import Derived.Test.YtndffjgneapmdaaDCopy
import Derived.Test.YtndffjgneapmdaaDList
namespace Go.Proofs.Ytndffjgneapmdaa
open Go.RowKit Go.Maps
structure Sane (room : Nat) (L : DiskL) : Prop where
  rise : Rise L
  few : L.length ≤ 256
  used : usedL L ≤ room
  most : room ≤ 1073741824
  last : ∀ q ∈ L, q.2.2 ≤ q.2.1.length
theorem DiskAt.sane {w : World} {F : Nat → Prop} {d room : Nat} {L : DiskL} (h : DiskAt w F d room L) : Sane room L := by
  obtain ⟨h1, h2, h3, h4, h5, _⟩ := h.facts
  exact ⟨h1, h2, h3, h4, fun q hq => (h5 q hq).1⟩
theorem used_get {L : DiskL} {k : Str} {a : List Nat × Nat} (hr : Rise L) (h : getK k L = some a) : a.1.length ≤ usedL L := by
  unfold usedL
  rw [sumK_del _ k hr, h]
  simp
theorem Sane.len {room : Nat} {L : DiskL} (h : Sane room L) {k : Str} {a : List Nat × Nat} (hg : getK k L = some a) : a.1.length ≤ 1073741824 :=
  Nat.le_trans (used_get h.rise hg) (Nat.le_trans h.used h.most)
def syncL (k : Str) (L : DiskL) : DiskL × Nat := match getK k L with
  | none => (L, 7)
  | some a => (putK k (a.1, a.1.length) L, 0)
def remL (k : Str) (L : DiskL) : DiskL × Nat := match getK k L with
  | none => (L, 7)
  | some _ => (delK k L, 0)
def renL (k t : Str) (L : DiskL) : DiskL × Nat := if ¬ (1 ≤ t.length ∧ t.length ≤ 64) then (L, 1) else match getK k L with
  | none => (L, 7)
  | some a => (putK t a (delK k L), 0)
def cutL (k : Str) (z : Int) (L : DiskL) : DiskL × Nat := match getK k L with
  | none => (L, 7)
  | some a => if z < 0 ∨ (a.1.length : Int) < z then (L, 1) else (putK k (a.1.take z.toNat, min a.2 z.toNat) L, 0)
def rotL (k : Str) (z : Int) (y : Nat) (L : DiskL) : DiskL × Nat := match getK k L with
  | none => (L, 7)
  | some a => if z < 0 ∨ (a.1.length : Int) ≤ z then (L, 7) else (putK k (a.1.set z.toNat (a.1.getD z.toNat 0 ^^^ y), a.2) L, 0)
def readL (k : Str) (L : DiskL) : List Nat × Nat := match getK k L with
  | none => ([], 7)
  | some a => (a.1, 0)
section
variable (F : Nat → Prop) (d room : Nat) (L : DiskL) (s : ByteArray) (w : World) (hD : DiskAt w F d room L) (hs : s.size ≤ 1099511627776)
include hD hs
theorem sync_any : Calls Try.prog 15 #[.pointer (some ⟨d, 0, none⟩), .string s] w fun e w' => e = .returned (.int .i64 ((syncL s.data.toList L).2 : Nat)) ∧ ∃ F', DiskAt w' F' d room (syncL s.data.toList L).1 ∧ Next F w F' w' := by
  unfold syncL
  rcases hg : getK s.data.toList L with _ | ⟨xs, l⟩
  · refine (sync_none F d room L s w hD hs hg).mono ?_
    rintro e w' ⟨rfl, k⟩
    exact ⟨rfl, F, hD.below k, Next.of_below F k⟩
  · exact sync_some F d room L s xs l w hD hs hg
theorem remove_any : Calls Try.prog 32 #[.pointer (some ⟨d, 0, none⟩), .string s] w fun e w' => e = .returned (.int .i64 ((remL s.data.toList L).2 : Nat)) ∧ ∃ F', DiskAt w' F' d room (remL s.data.toList L).1 ∧ Next F w F' w' := by
  unfold remL
  rcases hg : getK s.data.toList L with _ | a
  · refine (remove_none F d room L s w hD hs hg).mono ?_
    rintro e w' ⟨rfl, k⟩
    exact ⟨rfl, F, hD.below k, Next.of_below F k⟩
  · refine (remove_some F d room L s a w hD hs hg).mono ?_
    rintro e w' ⟨rfl, h, k⟩
    exact ⟨rfl, F, h, k⟩
theorem rename_any (t : ByteArray) (ht : t.size ≤ 1099511627776) : Calls Try.prog 30 #[.pointer (some ⟨d, 0, none⟩), .string s, .string t] w fun e w' => e = .returned (.int .i64 ((renL s.data.toList t.data.toList L).2 : Nat)) ∧ ∃ F', DiskAt w' F' d room (renL s.data.toList t.data.toList L).1 ∧ Next F w F' w' := by
  have hl : t.data.toList.length = t.size := rfl
  by_cases hn : 1 ≤ t.size ∧ t.size ≤ 64
  · have e : renL s.data.toList t.data.toList L = (match getK s.data.toList L with | none => (L, 7) | some a => (putK t.data.toList a (delK s.data.toList L), 0)) := by unfold renL; rw [if_neg (fun h => h (by rw [hl]; exact hn))]
    rw [e]
    rcases hg : getK s.data.toList L with _ | ⟨xs, l⟩
    · refine (rename_none F d room L s t w hD hs hn hg).mono ?_
      rintro e w' ⟨rfl, k⟩
      exact ⟨rfl, F, hD.below k, Next.of_below F k⟩
    · exact rename_ok F d room L s t xs l w hD hs hn hg
  · have e : renL s.data.toList t.data.toList L = (L, 1) := by unfold renL; rw [if_pos (by rw [hl]; exact hn)]
    rw [e]
    refine (rename_arg d s t w hn (by omega)).mono ?_
    rintro e w' ⟨rfl, k⟩
    exact ⟨rfl, F, hD.below k, Next.of_below F k⟩
theorem cutD_any (z : Int) : Calls Try.prog 34 #[.pointer (some ⟨d, 0, none⟩), .string s, .int .i64 z] w fun e w' => e = .returned (.int .i64 ((cutL s.data.toList z L).2 : Nat)) ∧ ∃ F', DiskAt w' F' d room (cutL s.data.toList z L).1 ∧ Next F w F' w' := by
  unfold cutL
  rcases hg : getK s.data.toList L with _ | ⟨xs, l⟩
  · refine (cutD_none F d room L s z w hD hs hg).mono ?_
    rintro e w' ⟨rfl, k⟩
    exact ⟨rfl, F, hD.below k, Next.of_below F k⟩
  · dsimp only
    by_cases hz : z < 0 ∨ (xs.length : Int) < z
    · rw [if_pos hz]
      refine (cutD_arg F d room L s xs l z w hD hs hg hz).mono ?_
      rintro e w' ⟨rfl, k⟩
      exact ⟨rfl, F, hD.below k, Next.of_below F k⟩
    · rw [if_neg hz]
      obtain ⟨k, rfl⟩ : ∃ k : Nat, z = (k : Int) := ⟨z.toNat, by omega⟩
      exact cutD_ok F d room L s xs l k w hD hs hg (by omega)
theorem rot_any (z : Int) (y : Nat) (hy : y < 256) : Calls Try.prog 36 #[.pointer (some ⟨d, 0, none⟩), .string s, .int .i64 z, .int .u8 (y : Int)] w fun e w' => e = .returned (.int .i64 ((rotL s.data.toList z y L).2 : Nat)) ∧ ∃ F', DiskAt w' F' d room (rotL s.data.toList z y L).1 ∧ Next F w F' w' := by
  unfold rotL
  rcases hg : getK s.data.toList L with _ | ⟨xs, l⟩
  · refine (rot_none F d room L s z y w hD hs hg).mono ?_
    rintro e w' ⟨rfl, k⟩
    exact ⟨rfl, F, hD.below k, Next.of_below F k⟩
  · dsimp only
    by_cases hz : z < 0 ∨ (xs.length : Int) ≤ z
    · rw [if_pos hz]
      refine (rot_out F d room L s xs l z y w hD hs hg hz).mono ?_
      rintro e w' ⟨rfl, k⟩
      exact ⟨rfl, F, hD.below k, Next.of_below F k⟩
    · rw [if_neg hz]
      obtain ⟨k, rfl⟩ : ∃ k : Nat, z = (k : Int) := ⟨z.toNat, by omega⟩
      exact rot_ok F d room L s xs l k y w hD hs hg (by omega) hy
theorem read_any : Calls Try.prog 16 #[.pointer (some ⟨d, 0, none⟩), .string s] w fun e w' => ∃ v, e = .returned (.tuple #[v, .int .i64 ((readL s.data.toList L).2 : Nat)]) ∧ Own w' w.heap.size v (readL s.data.toList L).1 ∧ Below w.heap.size w w' := by
  unfold readL
  rcases hg : getK s.data.toList L with _ | ⟨xs, l⟩
  · refine (read_none F d room L s w hD hs hg).mono ?_
    rintro e w' ⟨rfl, k⟩
    exact ⟨_, rfl, World.ownsRow_nil _ _ _ _, k⟩
  · exact read_some F d room L s xs l w hD hs hg
end
theorem RAt.drawn {w : World} {G : Nat → Prop} {p room : Nat} {L : DiskL} (h : RAt w G p room L) (n : Nat) : RAt (w.drewN n) G p room L := h.turn (S := fun _ => False) ((Turn.refl _ w).drewN n) (fun _ _ => id)
section
variable (G : Nat → Prop) (p room : Nat) (L : DiskL) (s : ByteArray) (w : World) (hR : RAt w G p room L) (hS : Sane room L)
include hR hS
theorem rsync_any : Calls Try.prog 29 #[.pointer (some ⟨p, 0, none⟩), .string s] w fun e w' => e = .returned (.int .i64 ((syncL s.data.toList L).2 : Nat)) ∧ ∃ G', RAt w' G' p room (syncL s.data.toList L).1 ∧ Next G w G' w' := by
  obtain ⟨v, X, rfl, hx⟩ := hR
  have hr := rise_abs hS.rise
  unfold syncL
  rw [absX_get]
  rcases hg : getK s.data.toList X with _ | a
  · refine (rsync_none G p room v X s w hx hr hg).mono ?_
    rintro e w' ⟨rfl, d, rfl⟩
    exact ⟨rfl, G, RAt.drawn ⟨v, X, rfl, hx⟩ d, (Next.refl G w).drewN d⟩
  · refine (rsync_some G p room v X s a w hx hr hg).mono ?_
    rintro e w' ⟨rfl, G', v', h', n⟩
    exact ⟨rfl, G', ⟨v', _, by rw [absX_put]; rfl, h'⟩, n⟩
theorem rremove_at : Calls Try.prog 33 #[.pointer (some ⟨p, 0, none⟩), .string s] w fun e w' => e = .returned (.int .i64 ((remL s.data.toList L).2 : Nat)) ∧ ∃ G', RAt w' G' p room (remL s.data.toList L).1 ∧ Next G w G' w' := by
  obtain ⟨v, X, rfl, hx⟩ := hR
  have hr := rise_abs hS.rise
  have hlen := hS.few
  rw [absX_length] at hlen
  unfold remL
  rw [absX_get]
  rcases hg : getK s.data.toList X with _ | a
  · refine (rremove_none G p room v X s w hx hr hg).mono ?_
    rintro e w' ⟨rfl, d, rfl⟩
    exact ⟨rfl, G, RAt.drawn ⟨v, X, rfl, hx⟩ d, (Next.refl G w).drewN d⟩
  · refine (rremove_some G p room v X s a w hx hlen hr hg).mono ?_
    rintro e w' ⟨rfl, G', v', h', n, _⟩
    exact ⟨rfl, G', ⟨v', _, by rw [absX_del]; rfl, h'⟩, n⟩
theorem rrename_at (t : ByteArray) (ht : t.size ≤ 1099511627776) : Calls Try.prog 31 #[.pointer (some ⟨p, 0, none⟩), .string s, .string t] w fun e w' => e = .returned (.int .i64 ((renL s.data.toList t.data.toList L).2 : Nat)) ∧ ∃ G', RAt w' G' p room (renL s.data.toList t.data.toList L).1 ∧ Next G w G' w' := by
  obtain ⟨v, X, rfl, hx⟩ := hR
  have hr := rise_abs hS.rise
  have hlen := hS.few
  rw [absX_length] at hlen
  have hl : t.data.toList.length = t.size := rfl
  by_cases hn : 1 ≤ t.size ∧ t.size ≤ 64
  · have e : renL s.data.toList t.data.toList (absX X) = (match getK s.data.toList (absX X) with | none => (absX X, 7) | some a => (putK t.data.toList a (delK s.data.toList (absX X)), 0)) := by unfold renL; rw [if_neg (fun h => h (by rw [hl]; exact hn))]
    rw [e, absX_get]
    rcases hg : getK s.data.toList X with _ | a
    · refine (rrename_none G p room v X s w hx hr hg t hn).mono ?_
      rintro e w' ⟨rfl, d, rfl⟩
      exact ⟨rfl, G, RAt.drawn ⟨v, X, rfl, hx⟩ d, (Next.refl G w).drewN d⟩
    · by_cases hst : s = t
      · subst hst
        refine (rrename_same G p room v X s a w hx hr hg hn).mono ?_
        rintro e w' ⟨rfl, d, rfl⟩
        have e2 : putK s.data.toList a.2 (delK s.data.toList (absX X)) = absX X := by
          have h1 : getK s.data.toList (absX X) = some a.2 := by rw [absX_get, hg]; rfl
          have h2 : putK s.data.toList a.2 (delK s.data.toList (absX X)) = putK s.data.toList a.2 (absX X) := by
            unfold putK
            congr 1
            unfold delK
            rw [List.filter_filter]
            simp
          rw [h2]
          exact putK_same hS.rise h1
        refine ⟨rfl, G, ?_, (Next.refl G w).drewN d⟩
        show RAt _ _ _ _ (putK s.data.toList a.2 (delK s.data.toList (absX X)))
        rw [e2]
        exact RAt.drawn ⟨v, X, rfl, hx⟩ d
      · refine (rrename_ok G p room v X s t a w hx hlen hr hg hn hst).mono ?_
        rintro e w' ⟨rfl, G', v', h', n⟩
        exact ⟨rfl, G', ⟨v', _, by rw [absX_put, absX_del]; rfl, h'⟩, n⟩
  · have e : renL s.data.toList t.data.toList (absX X) = (absX X, 1) := by unfold renL; rw [if_pos (by rw [hl]; exact hn)]
    rw [e]
    refine (rrename_arg p s t w hn (by omega)).mono ?_
    rintro e w' ⟨rfl, rfl⟩
    exact ⟨rfl, G, ⟨v, X, rfl, hx⟩, Next.refl G w⟩
theorem rcut_any (z : Int) : Calls Try.prog 35 #[.pointer (some ⟨p, 0, none⟩), .string s, .int .i64 z] w fun e w' => e = .returned (.int .i64 ((cutL s.data.toList z L).2 : Nat)) ∧ ∃ G', RAt w' G' p room (cutL s.data.toList z L).1 ∧ Next G w G' w' := by
  obtain ⟨v, X, rfl, hx⟩ := hR
  have hr := rise_abs hS.rise
  unfold cutL
  rcases hg : getK s.data.toList X with _ | a
  · rw [absX_get, hg]
    refine (rcut_none G p room v X s w hx hr hg z).mono ?_
    rintro e w' ⟨rfl, d, rfl⟩
    exact ⟨rfl, G, RAt.drawn ⟨v, X, rfl, hx⟩ d, (Next.refl G w).drewN d⟩
  · have hg2 : getK s.data.toList (absX X) = some a.2 := by rw [absX_get, hg]; rfl
    have hl := hS.len hg2
    rw [hg2]
    dsimp only
    by_cases hz : z < 0 ∨ (a.2.1.length : Int) < z
    · rw [if_pos hz]
      refine (rcut_arg G p room v X s a z w hx hr hg hz).mono ?_
      rintro e w' ⟨rfl, d, rfl⟩
      exact ⟨rfl, G, RAt.drawn ⟨v, X, rfl, hx⟩ d, (Next.refl G w).drewN d⟩
    · rw [if_neg hz]
      obtain ⟨k, rfl⟩ : ∃ k : Nat, z = (k : Int) := ⟨z.toNat, by omega⟩
      refine (rcut_ok G p room v X s a k w hx hr hg (by omega) (by omega)).mono ?_
      rintro e w' ⟨rfl, G', v', u, h', n⟩
      exact ⟨rfl, G', ⟨v', _, by rw [absX_put]; rfl, h'⟩, n⟩
theorem rrot_any (z : Int) (y : Nat) (hy : y < 256) : Calls Try.prog 37 #[.pointer (some ⟨p, 0, none⟩), .string s, .int .i64 z, .int .u8 (y : Int)] w fun e w' => e = .returned (.int .i64 ((rotL s.data.toList z y L).2 : Nat)) ∧ ∃ G', RAt w' G' p room (rotL s.data.toList z y L).1 ∧ Next G w G' w' := by
  obtain ⟨v, X, rfl, hx⟩ := hR
  have hr := rise_abs hS.rise
  unfold rotL
  rcases hg : getK s.data.toList X with _ | a
  · rw [absX_get, hg]
    refine (rrot_none G p room v X s w hx hr hg z y).mono ?_
    rintro e w' ⟨rfl, d, rfl⟩
    exact ⟨rfl, G, RAt.drawn ⟨v, X, rfl, hx⟩ d, (Next.refl G w).drewN d⟩
  · have hg2 : getK s.data.toList (absX X) = some a.2 := by rw [absX_get, hg]; rfl
    have hl := hS.len hg2
    rw [hg2]
    dsimp only
    by_cases hz : z < 0 ∨ (a.2.1.length : Int) ≤ z
    · rw [if_pos hz]
      refine (rrot_out G p room v X s a z y w hx hr hg hz).mono ?_
      rintro e w' ⟨rfl, d, rfl⟩
      exact ⟨rfl, G, RAt.drawn ⟨v, X, rfl, hx⟩ d, (Next.refl G w).drewN d⟩
    · rw [if_neg hz]
      obtain ⟨k, rfl⟩ : ∃ k : Nat, z = (k : Int) := ⟨z.toNat, by omega⟩
      refine (rrot_ok G p room v X s a k y w hx hr hg (by omega) hy (by omega)).mono ?_
      rintro e w' ⟨rfl, G', v', u, h', n⟩
      exact ⟨rfl, G', ⟨v', _, by rw [absX_put]; rfl, h'⟩, n⟩
theorem rread_any : Calls Try.prog 28 #[.pointer (some ⟨p, 0, none⟩), .string s] w fun e w' => ∃ v, e = .returned (.tuple #[v, .int .i64 ((readL s.data.toList L).2 : Nat)]) ∧ Own w' w.heap.size v (readL s.data.toList L).1 ∧ Below w.heap.size w w' := by
  obtain ⟨v, X, rfl, hx⟩ := hR
  have hr := rise_abs hS.rise
  unfold readL
  rcases hg : getK s.data.toList X with _ | a
  · rw [absX_get, hg]
    refine (rread_none G p room v X s w hx hr hg).mono ?_
    rintro e w' ⟨rfl, d, rfl⟩
    exact ⟨_, rfl, World.ownsRow_nil _ _ _ _, below_drewN (Below.refl _ _) d⟩
  · have hg2 : getK s.data.toList (absX X) = some a.2 := by rw [absX_get, hg]; rfl
    have hl := hS.len hg2
    rw [hg2]
    exact rread_some G p room v X s a w hx hr hg (by omega)
theorem rappend_at (P : Option Addr) (m cp : Nat) (ps : List Nat) (hPB : IsB w (.slice P m cp) ps) (hPM : ps.length = m) (hP8 : ∀ x ∈ ps, x < 256) (hPG : ps ≠ [] → Off G (.slice P m cp)) (hs : s.size ≤ 1099511627776) (hmr : m ≤ 1099511627776) :
    Calls Try.prog 25 #[.pointer (some ⟨p, 0, none⟩), .string s, .slice P m cp] w fun e w' => e = .returned (.int .i64 ((appL room s.data.toList ps L).2 : Nat)) ∧ ∃ G', RAt w' G' p room (appL room s.data.toList ps L).1 ∧ Next G w G' w' := by
  obtain ⟨v, X, rfl, hx⟩ := hR
  have hr := rise_abs hS.rise
  have hmost := hS.most
  have hused := hS.used
  have hl : s.data.toList.length = s.size := rfl
  have hu : sumK filL X = usedL (absX X) := (absX_used X).symm
  have hln : X.length = (absX X).length := (absX_length X).symm
  by_cases hn : 1 ≤ s.size ∧ s.size ≤ 64
  · by_cases hf : (getK s.data.toList (absX X) = none ∧ 256 ≤ (absX X).length) ∨ room < usedL (absX X) + ps.length
    · have e : appL room s.data.toList ps (absX X) = (absX X, 6) := by unfold appL; rw [if_neg (fun h => h (by rw [hl]; exact hn)), if_pos hf]
      rw [e]
      refine (rappend_full G p room v X s P m cp w hx hr hn (by omega) (by omega) hmr ?_).mono ?_
      · rcases hg : getK s.data.toList X with _ | a
        · by_cases h6 : 256 ≤ X.length
          · exact .inr ⟨rfl, h6⟩
          · refine .inl ⟨.inr ⟨rfl, by omega⟩, ?_⟩
            rcases hf with ⟨_, h⟩ | h
            · omega
            · omega
        · refine .inl ⟨.inl rfl, ?_⟩
          rcases hf with ⟨h, _⟩ | h
          · rw [absX_get, hg] at h; cases h
          · omega
      · rintro e w' ⟨rfl, d, rfl⟩
        exact ⟨rfl, G, RAt.drawn ⟨v, X, rfl, hx⟩ d, (Next.refl G w).drewN d⟩
    · have e : appL room s.data.toList ps (absX X) = (putK s.data.toList (oldB s.data.toList (absX X) ++ ps, oldN s.data.toList (absX X)) (absX X), 0) := by unfold appL; rw [if_neg (fun h => h (by rw [hl]; exact hn)), if_neg hf]
      rw [e]
      have hroom : sumK filL X + m ≤ room := by
        have : ¬ room < usedL (absX X) + ps.length := fun h => hf (.inr h)
        omega
      rcases hg : getK s.data.toList X with _ | a
      · have hg2 : getK s.data.toList (absX X) = none := by rw [absX_get, hg]; rfl
        have hfew : X.length < 256 := by
          have : ¬ 256 ≤ (absX X).length := fun h => hf (.inl ⟨hg2, h⟩)
          omega
        have e1 : oldB s.data.toList (absX X) = [] := by unfold oldB; rw [hg2]; rfl
        have e2 : oldN s.data.toList (absX X) = 0 := by unfold oldN; rw [hg2]; rfl
        rw [e1, e2]
        refine (rappend_new G p room v X s P m cp ps w hx hr hg hfew hn (by omega) (by omega) hmr hroom hPB hPM hP8 hPG).mono ?_
        rintro e w' ⟨rfl, G', v', u, h', n⟩
        exact ⟨rfl, G', ⟨v', _, by rw [absX_put, List.nil_append], h'⟩, n⟩
      · have hg2 : getK s.data.toList (absX X) = some a.2 := by rw [absX_get, hg]; rfl
        have hl2 := hS.len hg2
        have e1 : oldB s.data.toList (absX X) = a.2.1 := by unfold oldB; rw [hg2]; rfl
        have e2 : oldN s.data.toList (absX X) = a.2.2 := by unfold oldN; rw [hg2]; rfl
        rw [e1, e2]
        refine (rappend_old G p room v X s a P m cp ps w hx hr hg hn (by omega) (by omega) hmr hroom hPB hPM hP8 (by omega)).mono ?_
        rintro e w' ⟨rfl, G', v', u, h', n⟩
        exact ⟨rfl, G', ⟨v', _, by rw [absX_put], h'⟩, n⟩
  · have e : appL room s.data.toList ps (absX X) = (absX X, 1) := by unfold appL; rw [if_pos (by rw [hl]; exact hn)]
    rw [e]
    refine (rappend_arg p s _ w hn (by omega)).mono ?_
    rintro e w' ⟨rfl, rfl⟩
    exact ⟨rfl, G, ⟨v, X, rfl, hx⟩, Next.refl G w⟩
omit s in
theorem rcrash_at (z : Int) : Calls Try.prog 14 #[.pointer (some ⟨p, 0, none⟩), .int .i64 z] w fun e w' => e = .returned (.tuple #[]) ∧ ∃ G', RAt w' G' p room (crashD z.toNat L) ∧ Next G w G' w' := by
  obtain ⟨v, X, rfl, hx⟩ := hR
  have hlen := hS.few
  rw [absX_length] at hlen
  have hr := rise_abs hS.rise
  refine (rcrash_any G p room v X z z.toNat w hx hlen (by omega) (fun q hq => ?_) (fun q hq => ?_)).mono ?_
  · exact hS.last (q.1, q.2.2) (List.mem_map.2 ⟨q, hq, rfl⟩)
  · have hg : getK q.1 (absX X) = some q.2.2 := by rw [absX_get, mem_getK hr hq]; rfl
    exact hS.len hg
  · rintro e w' ⟨rfl, G', v', X', h', e', n⟩
    exact ⟨rfl, G', ⟨v', X', e'.symm, h'⟩, n⟩
omit s in
theorem rused_at : Calls Try.prog 41 #[.pointer (some ⟨p, 0, none⟩)] w fun e w' => e = .returned (.int .i64 ((usedL L : Nat) : Int)) ∧ w = w' := by
  obtain ⟨v, X, rfl, hx⟩ := hR
  have h1 := hS.used
  have h2 := hS.most
  have hu : usedL (absX X) = sumK filL X := absX_used X
  rw [hu]
  exact rused_any G p room v X w hx (by omega)
omit s in
theorem rlist_at : Calls Try.prog 39 #[.pointer (some ⟨p, 0, none⟩)] w fun e w' => ∃ v, e = .returned v ∧ OwnS w' w.heap.size v (L.map (·.1)) ∧ Below w.heap.size w w' := by
  obtain ⟨v, X, rfl, hx⟩ := hR
  have hlen := hS.few
  rw [absX_length] at hlen
  have e : (absX X).map (·.1) = X.map (·.1) := by unfold absX mapK; rw [List.map_map]; rfl
  rw [e]
  exact rlist_any G p room v X w hx hlen
omit s in
theorem rcopy_at : Calls Try.prog 9 #[.pointer (some ⟨p, 0, none⟩)] w fun e w' => ∃ p' G', e = .returned (.pointer (some ⟨p', 0, none⟩)) ∧ RAt w' G' p' room L ∧ (∀ k, G' k → w.heap.size ≤ k) ∧ Below w.heap.size w w' := by
  obtain ⟨v, X, rfl, hx⟩ := hR
  have hlen := hS.few
  rw [absX_length] at hlen
  have hr := rise_abs hS.rise
  refine (rcopy_any G p room v X w hx hlen (fun q hq => ?_)).mono ?_
  · have hg : getK q.1 (absX X) = some q.2.2 := by rw [absX_get, mem_getK hr hq]; rfl
    exact hS.len hg
  · rintro e w' ⟨p', G', v', X', rfl, h', e', u, k⟩
    exact ⟨p', G', rfl, ⟨v', X', e'.symm, h'⟩, u, k⟩
end
end Go.Proofs.Ytndffjgneapmdaa
