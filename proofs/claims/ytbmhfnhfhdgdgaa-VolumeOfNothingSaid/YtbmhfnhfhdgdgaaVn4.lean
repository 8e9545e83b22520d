/- Bytes that a slice holds. No condition. -/
import Derived.Test.YtbmhfnhfhdgdgaaVn2
import Derived.WalkSpells
import Derived.WalkLawsBesides
import Derived.BigQuiet
namespace Go.Proofs.Ytbmhfnhfhdgdgaa
open Go.RowKit
variable {w w' : World} {B : Nat}
def Rd (w : World) (A : Option Addr) (xs : List Nat) : Prop :=
 xs ≠ [] -> ∃ b off, A = some ⟨b, off, none⟩ /\ ∀ i, i < xs.length -> w.cell? ⟨b, off + i, none⟩ = some (.int .u8 ((xs.getD i 0 : Nat) : Int))
theorem cell_lt {a : Addr} {v : Value} (h : w.cell? a = some v) : a.block < w.heap.size := by
 rcases Nat.lt_or_ge a.block w.heap.size with hlt | hge
 ·exact hlt
 ·simp [World.cell?, Array.getElem?_eq_none hge] at h
theorem Rd.keep {A : Option Addr} {xs : List Nat} (h : Rd w A xs) (hk : ∀ a v, w.cell? a = some v -> w'.cell? a = some v) : Rd w' A xs := by
 intro hne;obtain ⟨b, off, e, hc⟩ := h hne;exact ⟨b, off, e, fun i hi => hk _ _ (hc i hi)⟩
theorem Rd.below {A : Option Addr} {xs : List Nat} (h : Rd w A xs) (hb : Below w.heap.size w w') : Rd w' A xs :=
 h.keep fun _ _ hc => (hb.cell (cell_lt hc)).trans hc
theorem Rd.drewN {A : Option Addr} {xs : List Nat} (h : Rd w A xs) (n : Nat) : Rd (w.drewN n) A xs := h
theorem below_drewN {a : World} (h : Below B a w) (n : Nat) : Below B a (w.drewN n) := ⟨h.os, h.tape, h.output, h.size, h.block⟩
def Own (w : World) (B : Nat) (v : Value) (xs : List Nat) : Prop := w.ownsRow B 5 1 v xs.length (xs.map fun x : Nat => Value.int .u8 (x : Int))
theorem Own.form {v : Value} {xs : List Nat} (h : Own w B v xs) : ∃ A c, v = .slice A xs.length c /\ Rd w A xs := by
 unfold Own at h;rcases h.2 with ⟨rfl, hn⟩ | ⟨g, cap, cur, rfl, _, _⟩
 ·refine ⟨none, 0, by rw [hn], fun hne => ?_⟩;exact absurd (List.eq_nil_of_length_eq_zero hn) hne
 ·refine ⟨_, _, rfl, fun _ => ⟨g, 0, rfl, fun i hi => ?_⟩⟩;rw [Nat.zero_add, h.cellAt i (by omega)];simp [hi]
theorem Own.len {v : Value} {xs : List Nat} (h : Own w B v xs) : xs.length <= 9223372036854775807 := by
 unfold Own at h;rcases h.2 with ⟨rfl, hn⟩ | ⟨g, cap, cur, rfl, _, _, h1, h2, _⟩
 ·omega
 ·unfold maxLen at h2; omega
theorem Own.keep {v : Value} {xs : List Nat} (h : Own w B v xs) (hb : Below w.heap.size w w') : Own w' B v xs := by
 unfold Own at h ⊢;refine ⟨h.1, ?_⟩;rcases h.2 with hn | ⟨g, cap, cur, hv, h1, h2, r⟩
 ·exact .inl hn
 ·refine .inr ⟨g, cap, cur, hv, h1, ?_, r⟩;rw [hb.block g ?_]
  ·exact h2
  ·exact (h.lt g (by rw [hv]; rfl)).2
theorem Own.drewN {v : Value} {xs : List Nat} (h : Own w B v xs) (n : Nat) : Own (w.drewN n) B v xs := h
theorem rd_new (w : World) (cs : Array Value) (e : TypeId) (fr : Nat × Nat) (xs : List Nat) (b : Nat) (hb : b = w.heap.size) (h : cs.toList = xs.map fun x : Nat => Value.int .u8 (x : Int)) : Rd (w.alloc (.cells cs e fr)) (some ⟨b, 0, none⟩) xs := by
 subst hb;intro _;refine ⟨_, 0, rfl, fun i hi => ?_⟩;have hc : cs[i]? = some (Value.int .u8 ((xs.getD i 0 : Nat) : Int)) := by
  rw [<- Array.getElem?_toList, h];simp [hi]
 rw [Nat.zero_add, <- hc];exact cell_of_row _ _ _ _ _ fr (heap_alloc_new w _)
end Go.Proofs.Ytbmhfnhfhdgdgaa
