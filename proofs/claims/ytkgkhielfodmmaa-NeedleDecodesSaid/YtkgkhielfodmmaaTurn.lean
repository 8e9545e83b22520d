/- What may have been turned: footprints. No condition. -/
import Derived.Test.YtkgkhielfodmmaaBlk
namespace Go.Proofs.Ytkgkhielfodmmaa
open Go.RowKit
/-- Nothing but what lies in S, and new blocks, has been turned. -/
structure Turn (S : Nat → Prop) (w w' : World) : Prop where
  os : w'.os = w.os
  tape : w'.tape = w.tape
  output : w'.output = w.output
  size : w.heap.size ≤ w'.heap.size
  block : ∀ k, k < w.heap.size → ¬ S k → w'.heap[k]? = w.heap[k]?
/-- .. and what belongs to the thing is what did, or is new. -/
structure Next (F : Nat → Prop) (w : World) (F' : Nat → Prop) (w' : World) : Prop where
  turn : Turn F w w'
  foot : ∀ k, F' k → F k ∨ w.heap.size ≤ k
theorem Turn.refl (S : Nat → Prop) (w : World) : Turn S w w := ⟨rfl, rfl, rfl, Nat.le_refl _, fun _ _ _ => rfl⟩
theorem Turn.then {S S' : Nat → Prop} {a b c : World} (h : Turn S a b) (k : Turn S' b c) (hs : ∀ i, S' i → S i ∨ a.heap.size ≤ i) : Turn S a c :=
  ⟨k.os.trans h.os, k.tape.trans h.tape, k.output.trans h.output, Nat.le_trans h.size k.size, fun i hi hn => by
    rw [k.block i (Nat.lt_of_lt_of_le hi h.size) (fun e => (hs i e).elim hn (fun q => by omega))]
    exact h.block i hi hn⟩
theorem Turn.trans {S : Nat → Prop} {a b c : World} (h : Turn S a b) (k : Turn S b c) : Turn S a c := h.then k fun _ => .inl
theorem Turn.mono {S S' : Nat → Prop} {a b : World} (h : Turn S a b) (hs : ∀ i, S i → S' i) : Turn S' a b := ⟨h.os, h.tape, h.output, h.size, fun i hi hn => h.block i hi (fun e => hn (hs i e))⟩
theorem Turn.of_below {w w' : World} (S : Nat → Prop) (h : Below w.heap.size w w') : Turn S w w' := ⟨h.os, h.tape, h.output, h.size, fun k hk _ => h.block k hk⟩
theorem Turn.of_grown {w w' : World} {row : Option Nat} (h : w.grownBy w' row) : Turn (fun k => some k = row) w w' := ⟨h.os, h.tape, h.output, h.size, fun k hk hn => h.block k hk hn⟩
theorem Turn.below {S : Nat → Prop} {w w' : World} {B : Nat} (h : Turn S w w') (hB : B ≤ w.heap.size) (hs : ∀ k, S k → B ≤ k) : Below B w w' :=
  ⟨h.os, h.tape, h.output, h.size, fun k hk => h.block k (by omega) (fun e => by have := hs k e; omega)⟩
theorem Turn.drewN {S : Nat → Prop} {w w' : World} (h : Turn S w w') (n : Nat) : Turn S w (w'.drewN n) := ⟨h.os, h.tape, h.output, h.size, h.block⟩
theorem Next.refl (F : Nat → Prop) (w : World) : Next F w F w := ⟨Turn.refl _ _, fun _ => .inl⟩
theorem Next.of_below {w w' : World} (F : Nat → Prop) (h : Below w.heap.size w w') : Next F w F w' := ⟨Turn.of_below _ h, fun _ => .inl⟩
theorem Next.trans {F F' F'' : Nat → Prop} {a b c : World} (h : Next F a F' b) (k : Next F' b F'' c) : Next F a F'' c :=
  ⟨h.turn.then k.turn h.foot, fun i hi => by
    rcases k.foot i hi with h1 | h1
    · exact h.foot i h1
    · exact .inr (Nat.le_trans h.turn.size h1)⟩
theorem Next.drewN {F F' : Nat → Prop} {w w' : World} (h : Next F w F' w') (n : Nat) : Next F w F' (w'.drewN n) := ⟨h.turn.drewN n, h.foot⟩
theorem Next.below {F F' : Nat → Prop} {w w' : World} {B : Nat} (h : Next F w F' w') (hB : B ≤ w.heap.size) (hs : ∀ k, F k → B ≤ k) : Below B w w' := h.turn.below hB hs
theorem Next.up {F F' : Nat → Prop} {w w' : World} {B : Nat} (h : Next F w F' w') (hB : B ≤ w.heap.size) (hs : ∀ k, F k → B ≤ k) : ∀ k, F' k → B ≤ k := fun k hk => by
  rcases h.foot k hk with h1 | h1
  · exact hs k h1
  · omega
/-- A slice lies outside of what may be turned. -/
def Off (S : Nat → Prop) (v : Value) : Prop := ∀ g, v.ownBlock = some g → ¬ S g
theorem Off.nil (S : Nat → Prop) : Off S (.slice none 0 0) := fun _ h => by simp [Value.ownBlock] at h
theorem IsB.turn {S : Nat → Prop} {w w' : World} {v : Value} {xs : List Nat} (h : IsB w v xs) (t : Turn S w w') (ho : Off S v) : IsB w' v xs := by
  obtain ⟨A, c, rfl, hr, hn⟩ := h
  refine ⟨A, c, rfl, fun hne => ?_, hn⟩
  obtain ⟨b, off, rfl, hc⟩ := hr hne
  refine ⟨b, off, rfl, fun i hi => ?_⟩
  have h1 := hc i hi
  have hb := t.block b (cell_lt h1) (ho b rfl)
  rw [← h1]
  exact World.cell?_of_block hb
theorem Own.turn {S : Nat → Prop} {w w' : World} {B : Nat} {v : Value} {xs : List Nat} (h : Own w B v xs) (t : Turn S w w') (ho : Off S v) : Own w' B v xs := by
  unfold Own at h ⊢
  refine ⟨h.1, ?_⟩
  rcases h.2 with hn | ⟨g, cap, cur, hv, h1, h2, r⟩
  · exact .inl hn
  · refine .inr ⟨g, cap, cur, hv, h1, ?_, r⟩
    rw [t.block g (heap_lt h2) (ho g (by rw [hv]; rfl))]
    exact h2
theorem Own.lt {w : World} {B : Nat} {v : Value} {xs : List Nat} (h : Own w B v xs) : ∀ g, v.ownBlock = some g → B ≤ g ∧ g < w.heap.size := World.ownsRow.lt h
theorem Blk.turn {S : Nat → Prop} {w w' : World} {B : Nat} {e : TypeId} {g : Nat} {cs : List Value} (h : Blk w B e g cs) (t : Turn S w w') (ho : ¬ S g) : Blk w' B e g cs := by
  have hl := h.lt
  obtain ⟨hB, cur, hh, rfl⟩ := h
  exact ⟨hB, cur, by rw [t.block g hl ho]; exact hh, rfl⟩
/-- What was made behind a thing lies outside of it. -/
theorem off_new {F : Nat → Prop} {w : World} {v : Value} {xs : List Nat} {w1 : World} (h : Own w1 w.heap.size v xs) (hF : ∀ k, F k → k < w.heap.size) : Off F v := fun g hg hf => by
  have h1 := (h.lt g hg).1
  have h2 := hF g hf
  omega
theorem off_old {F : Nat → Prop} {B : Nat} {v : Value} (hF : ∀ k, F k → B ≤ k) (hv : ∀ g, v.ownBlock = some g → g < B) : Off F v := fun g hg hf => by
  have h1 := hv g hg
  have h2 := hF g hf
  omega
end Go.Proofs.Ytkgkhielfodmmaa
