/- The disk's contracts by the document's words: found, laid. Condition: names no longer than the model's strings. -/
import Derived.Test.YtmledochidefeaaDrop
import Derived.Test.YtmledochidefeaaAppAt
namespace Go.Proofs.Ytmledochidefeaa
open Go.RowKit Go.Maps
theorem Next.of_more {F G F' : Nat → Prop} {w0 w w' : World} (t : Turn F w0 w) (h : Next G w F' w') (hG : ∀ k, G k → F k ∨ w0.heap.size ≤ k) : Next F w0 F' w' :=
  ⟨t.then h.turn hG, fun k hk => by
    rcases h.foot k hk with h1 | h1
    · exact hG k h1
    · exact .inr (Nat.le_trans t.size h1)⟩
/-- A disk on which a file is there, taken apart. -/
theorem disk_found {w : World} {F : Nat → Prop} {d room : Nat} {L : DiskL} {k : Str} {xs : List Nat} {l : Nat} (h : DiskAt w F d room L) (hg : getK k L = some (xs, l)) :
    ∃ X A c, L = absX X ∧ Shell w F d room X ∧ Files w F X ∧ getK k X = some (.slice A xs.length c, xs, l) ∧ Own w 0 (.slice A xs.length c) xs ∧ (∀ x ∈ xs, x < 256) ∧ l ≤ xs.length ∧ xs.length ≤ 1073741824 := by
  obtain ⟨X, rfl, hs, hf⟩ := h
  rw [absX_get] at hg
  rcases hx : getK k X with _ | a
  · rw [hx] at hg; cases hg
  · rw [hx] at hg
    simp only [Option.map_some, Option.some.injEq] at hg
    have hm := getK_mem hx
    obtain ⟨⟨A, c, e⟩, hl⟩ := hs.shape _ hm
    obtain ⟨ho, _, hb⟩ := hf.each _ hm
    obtain ⟨v, ys, m⟩ := a
    simp only [Prod.mk.injEq] at hg e hl ho hb
    obtain ⟨rfl, rfl⟩ := hg
    subst e
    refine ⟨X, A, c, rfl, hs, hf, hx, ho, hb, hl, ?_⟩
    have h1 := sumK_del filL k hs.rise
    rw [hx] at h1
    have h2 := hs.used
    have h3 := hs.most
    have h4 : ((some ((Value.slice A ys.length c, ys, m) : Fil)).map filL).getD 0 = ys.length := rfl
    rw [h4] at h1
    omega
theorem disk_missing {w : World} {F : Nat → Prop} {d room : Nat} {L : DiskL} {k : Str} (h : DiskAt w F d room L) (hg : getK k L = none) : ∃ X, L = absX X ∧ Shell w F d room X ∧ Files w F X ∧ getK k X = none := by
  obtain ⟨X, rfl, hs, hf⟩ := h
  rw [absX_get] at hg
  rcases hx : getK k X with _ | a
  · exact ⟨X, rfl, hs, hf, hx⟩
  · rw [hx] at hg; cases hg
theorem find_some (F : Nat → Prop) (d room : Nat) (X : List (Str × Fil)) (s : ByteArray) (A : Option Addr) (n c l : Nat) (xs : List Nat) (w : World) (hS : Shell w F d room X) (hs : s.size ≤ 1099511627776) (hg : getK s.data.toList X = some (.slice A n c, xs, l)) :
    Calls Try.prog 38 #[.pointer (some ⟨d, 0, none⟩), .string s] w fun e w' => e = .returned (.tuple #[.agg #[.slice A n c, .int .i64 (l : Int)], .bool true]) ∧ Below w.heap.size w w' := by
  have h := find_any F d room X s w hS (by unfold maxLen; omega)
  rw [hg] at h
  exact h
theorem find_none (F : Nat → Prop) (d room : Nat) (X : List (Str × Fil)) (s : ByteArray) (w : World) (hS : Shell w F d room X) (hs : s.size ≤ 1099511627776) (hg : getK s.data.toList X = none) :
    Calls Try.prog 38 #[.pointer (some ⟨d, 0, none⟩), .string s] w fun e w' => e = .returned (.tuple #[.agg #[.slice none 0 0, .int .i64 0], .bool false]) ∧ Below w.heap.size w w' := by
  have h := find_any F d room X s w hS (by unfold maxLen; omega)
  rw [hg] at h
  exact h
/-- A file is laid whose bytes are the disk's own and lie apart from the others'. -/
theorem lay_disk (F : Nat → Prop) (d room : Nat) (X : List (Str × Fil)) (s : ByteArray) (A : Option Addr) (n c l : Nat) (xs : List Nat) (w : World) (hS : Shell w F d room X) (hf : Files w F (delK s.data.toList X)) (hs : s.size ≤ 64) (hn : xs.length = n) (hl : l ≤ n)
    (ho : Own w 0 (.slice A n c) xs) (hb : ∀ x ∈ xs, x < 256) (hF : ∀ g, (Value.slice A n c).ownBlock = some g → F g ∧ ∀ p ∈ delK s.data.toList X, p.2.1.ownBlock ≠ some g)
    (hu : sumK filL (delK s.data.toList X) + n ≤ room) (hfew : (getK s.data.toList X).isSome = true ∨ X.length < 256) :
    Calls Try.prog 36 #[.pointer (some ⟨d, 0, none⟩), .string s, .agg #[.slice A n c, .int .i64 l]] w fun e w' => e = .returned (.tuple #[]) ∧
      ∃ F', DiskAt w' F' d room (putK s.data.toList (xs, l) (absX X)) ∧ Next F w F' w' := by
  refine (lay_any F d room X s A n c l xs w hS hs hn hl ?_ ?_).mono ?_
  · rw [sumK_put]
    show _ + xs.length ≤ room
    omega
  · rw [length_put hS.rise]
    have := hS.few
    rcases hfew with h | h
    · rw [h]; exact this
    · split <;> omega
  · rintro e w' ⟨rfl, F', h1, h2, h3, h4⟩
    refine ⟨rfl, F', ⟨putK s.data.toList ((.slice A n c, xs, l) : Fil) X, (absX_put s.data.toList ((.slice A n c, xs, l) : Fil) X).symm, h1, ?_⟩, h2⟩
    exact (hf.u8 h3 h4).put (h3.own ho) (fun g hg => h4 g (hF g hg).1) hb (fun p hp g hg => (hF g hg).2 p hp)
/-- Where a file's own block has turned, the others stand. -/
theorem Files.grown {w w' : World} {F : Nat → Prop} {X : List (Str × Fil)} {k : Str} {a : Fil} (h : Files w F X) (hx : getK k X = some a) (g : w.grownBy w' a.1.ownBlock) : Files w' F (delK k X) := by
  have hs := h.sub (Y := delK k X) (fun p hp => (mem_delK.1 hp).1)
  refine ⟨fun p hp => ⟨?_, (hs.each p hp).2⟩, hs.apart⟩
  refine (hs.each p hp).1.turn (Turn.of_grown g) ?_
  intro i hi e
  have h1 := h.apart p (mem_delK.1 hp).1 _ (getK_mem hx) (mem_delK.1 hp).2 i hi
  exact h1 e.symm
theorem Shell.grown {w w' : World} {F : Nat → Prop} {d room : Nat} {X : List (Str × Fil)} {v : Value} {B : Nat} {xs : List Nat} (h : Shell w F d room X) (ho : Own w B v xs) (g : w.grownBy w' v.ownBlock) : Shell w' F d room X := by
  unfold Own at ho
  rcases ho.2 with ⟨rfl, _⟩ | ⟨i, cap, cur, rfl, _, hi, _⟩
  · refine h.turn (S := fun _ => False) ⟨g.os, g.tape, g.output, g.size, fun k hk _ => g.block k hk ?_⟩ (fun _ _ => id)
    simp [Value.ownBlock]
  · exact h.bytes hi g
theorem Own.down {w : World} {B B' : Nat} {v : Value} {xs : List Nat} (h : Own w B v xs) (hb : B' ≤ B) : Own w B' v xs := h.more hb
end Go.Proofs.Ytmledochidefeaa
