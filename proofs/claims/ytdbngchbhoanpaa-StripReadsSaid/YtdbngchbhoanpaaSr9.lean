/- A strip's first shards by lists: how high they are, and how they come about block by block. No program. What may have been turned: footprints. No condition. Lists of rows of bytes that the call gathers in a slice of its own, the rows lying anywhere (handed in, or of the call's own): stores and appends, of one row or of a list of rows. Condition: fewer than 2 to the 40 rows. What the project's shard is to answer, said of its calls (to be shown of what lands). Condition: at most 1000000 rows of at most 1000000 numbers. -/
import Derived.Test.YtdbngchbhoanpaaSr8
namespace Go.Proofs.Ytdbngchbhoanpaa
/-- How many blocks so many bytes take. -/
def blks (n : Nat) : Nat := (n + 15) / 16
/-- How many rows each shard has. -/
def hgt (n k : Nat) : Nat := (blks n + k - 1) / k
theorem hgt_ref {n k : Nat} (hk : 1 ≤ k) : (n + k * 16 - 1) / (k * 16) = hgt n k := by
  unfold hgt blks
  have e : (n + 15) / 16 + k - 1 = (n + k * 16 - 1) / 16 := by omega
  rw [e, Nat.div_div_eq_div_mul, Nat.mul_comm 16 k]
theorem hgt_up {n k : Nat} (hk : 1 ≤ k) : blks n ≤ hgt n k * k := by
  unfold hgt
  have h := Nat.div_add_mod (blks n + k - 1) k
  have h2 := Nat.mod_lt (blks n + k - 1) (show k > 0 by omega)
  rw [Nat.mul_comm] at h
  omega
theorem hgt_le {n k : Nat} (hk : 1 ≤ k) : hgt n k ≤ blks n := by
  unfold hgt
  rcases Nat.eq_zero_or_pos (blks n) with h | h
  · rw [h]
    have : (0 + k - 1) / k = 0 := Nat.div_eq_of_lt (by omega)
    omega
  · have h1 : (blks n + k - 1) / k ≤ (blks n * k) / k := Nat.div_le_div_right (by
      have : blks n + k - 1 ≤ blks n * k := by
        obtain ⟨a, ha⟩ : ∃ a, blks n = a + 1 := ⟨blks n - 1, by omega⟩
        obtain ⟨c, hc⟩ : ∃ c, k = c + 1 := ⟨k - 1, by omega⟩
        rw [ha, hc, Nat.add_mul, Nat.mul_add]
        have := Nat.zero_le (a * c)
        omega
      exact this)
    rwa [Nat.mul_div_cancel _ (by omega)] at h1
theorem hgt_pos {n k : Nat} (hk : 1 ≤ k) (hn : 1 ≤ n) : 1 ≤ hgt n k := by
  have h := hgt_up (n := n) hk
  have hb : 1 ≤ blks n := by unfold blks; omega
  rcases Nat.eq_zero_or_pos (hgt n k) with h0 | h0
  · rw [h0] at h; omega
  · exact h0
/-- The place of a byte of a shard in the whole. -/
def srcAt (k i y : Nat) : Nat := (y / 16 * k + i) * 16 + y % 16
def srcS (b : List Nat) (k : Nat) : Mat := fun i y => G.of (b.getD (srcAt k i y) 0)
/-- The first k shards. -/
def dataS (b : List Nat) (k : Nat) : ML := laid k (hgt b.length k * 16) (srcS b k)
theorem dataS_len (b : List Nat) (k : Nat) : (dataS b k).length = k := by simp [dataS, laid]
theorem dataS_shape (b : List Nat) (k : Nat) : Shape (dataS b k) k (hgt b.length k * 16) := laid_shape _ _ _
/-- They behind so many blocks. -/
def partS (b : List Nat) (k j : Nat) : Mat := fun i y => if y / 16 * k + i < j then srcS b k i y else G.zero
theorem getD_past {b : List Nat} {i : Nat} (h : b.length ≤ i) : b.getD i 0 = 0 := by simp [h]
theorem G_zero : G.of 0 = G.zero := by decide
theorem partS_all {b : List Nat} {k j : Nat} (hj : b.length ≤ j * 16) : partS b k j = srcS b k := by
  funext i y
  unfold partS
  split
  · rfl
  · rename_i h
    unfold srcS srcAt
    rw [getD_past (by omega), G_zero]
theorem partS_none (b : List Nat) (k : Nat) : partS b k 0 = fun _ _ => G.zero := by
  funext i y
  unfold partS
  rw [if_neg (by omega)]
/-- A block more is laid. -/
theorem partS_step {b : List Nat} {k j n : Nat} (hk : 1 ≤ k) (hn : n = min 16 (b.length - j * 16)) (i y : Nat) (hi : i < k) :
    (if i = j % k ∧ j / k * 16 ≤ y ∧ y < j / k * 16 + n then G.of (b.getD (j * 16 + (y - j / k * 16)) 0) else partS b k j i y) = partS b k (j + 1) i y := by
  have hd := Nat.div_add_mod j k
  have hm := Nat.mod_lt j (show k > 0 by omega)
  rw [Nat.mul_comm] at hd
  by_cases hb : y / 16 * k + i = j
  · -- just this block
    have e1 : (y / 16 * k + i) % k = i := by rw [Nat.mul_comm, Nat.mul_add_mod, Nat.mod_eq_of_lt hi]
    have e2 : (y / 16 * k + i) / k = y / 16 := by rw [Nat.mul_comm, Nat.mul_add_div (by omega), Nat.div_eq_of_lt hi]; rfl
    rw [hb] at e1 e2
    have hs : srcAt k i y = j * 16 + (y - j / k * 16) := by unfold srcAt; rw [hb, e2]; omega
    have hr : partS b k (j + 1) i y = G.of (b.getD (j * 16 + (y - j / k * 16)) 0) := by unfold partS srcS; rw [if_pos (by omega), hs]
    rw [hr]
    split
    · rfl
    · rename_i hno
      unfold partS
      rw [if_neg (by omega), getD_past (by
        rw [e1, e2] at hno
        have h1 : ¬ y < y / 16 * 16 + n := fun h => hno ⟨rfl, by omega, h⟩
        rw [e2]
        omega), G_zero]
  · rw [if_neg]
    · unfold partS
      by_cases h : y / 16 * k + i < j
      · rw [if_pos h, if_pos (by omega)]
      · rw [if_neg h, if_neg (by omega)]
    · rintro ⟨e1, h1, h2⟩
      have : y / 16 = j / k := by omega
      rw [this, e1] at hb
      omega
/-! ### row by row, as the document has it -/
/-- How many of the first j blocks stand in the shard i. -/
def cntS (k j i : Nat) : Nat := (j + k - 1 - i) / k
def rowsS (b : List Nat) (k j : Nat) : ML := (List.range k).map fun i => (List.range (cntS k j i * 16)).map fun y => b.getD (srcAt k i y) 0
theorem cntS_step {k j i : Nat} (hk : 1 ≤ k) (hi : i < k) : cntS k (j + 1) i = if i = j % k then j / k + 1 else cntS k j i := by
  have hd := Nat.div_add_mod j k
  have hm := Nat.mod_lt j (show k > 0 by omega)
  obtain ⟨q, hq⟩ : ∃ q, q = j / k := ⟨_, rfl⟩
  obtain ⟨r, hr⟩ : ∃ r, r = j % k := ⟨_, rfl⟩
  rw [← hq, ← hr] at hd
  rw [← hr] at hm
  rw [← hq, ← hr]
  unfold cntS
  split
  · rename_i e
    subst e
    have e : j + 1 + k - 1 - i = k * (q + 1) := by rw [Nat.mul_add]; omega
    rw [e, Nat.mul_div_cancel_left _ (by omega)]
  · rename_i e
    by_cases hlt : i < r
    · have e1 : j + 1 + k - 1 - i = k * (q + 1) + (r - i) := by rw [Nat.mul_add]; omega
      have e2 : j + k - 1 - i = k * (q + 1) + (r - i - 1) := by rw [Nat.mul_add]; omega
      rw [e1, e2, Nat.mul_add_div (by omega), Nat.mul_add_div (by omega), Nat.div_eq_of_lt (by omega), Nat.div_eq_of_lt (by omega)]
    · have e1 : j + 1 + k - 1 - i = k * q + (r + k - i) := by omega
      have e2 : j + k - 1 - i = k * q + (r + k - i - 1) := by omega
      rw [e1, e2, Nat.mul_add_div (by omega), Nat.mul_add_div (by omega), Nat.div_eq_of_lt (by omega), Nat.div_eq_of_lt (by omega)]
theorem cntS_at {k j : Nat} (hk : 1 ≤ k) : cntS k j (j % k) = j / k := by
  have hd := Nat.div_add_mod j k
  have hm := Nat.mod_lt j (show k > 0 by omega)
  unfold cntS
  obtain ⟨q, hq⟩ : ∃ q, q = j / k := ⟨_, rfl⟩
  obtain ⟨r, hr⟩ : ∃ r, r = j % k := ⟨_, rfl⟩
  rw [← hq, ← hr] at hd
  rw [← hr] at hm
  rw [← hq, ← hr]
  have e : j + k - 1 - r = k * q + (k - 1) := by omega
  rw [e, Nat.mul_add_div (by omega), Nat.div_eq_of_lt (by omega)]
  rfl
theorem cntS_all {k h i : Nat} (hi : i < k) : cntS k (h * k) i = h := by
  unfold cntS
  have e : h * k + k - 1 - i = k * h + (k - 1 - i) := by rw [Nat.mul_comm]; omega
  rw [e, Nat.mul_add_div (by omega), Nat.div_eq_of_lt (by omega)]
  rfl
theorem cntS_none {k i : Nat} (hi : i < k) : cntS k 0 i = 0 := by
  unfold cntS
  exact Nat.div_eq_of_lt (by omega)
theorem rowsS_len (b : List Nat) (k j : Nat) : (rowsS b k j).length = k := by simp [rowsS]
theorem rowsS_row {b : List Nat} {k j i : Nat} (hi : i < k) : (rowsS b k j).getD i [] = (List.range (cntS k j i * 16)).map fun y => b.getD (srcAt k i y) 0 := by simp [rowsS, hi]
theorem rowsS_none (b : List Nat) (k : Nat) : rowsS b k 0 = List.replicate k [] := by
  apply List.ext_getElem (by simp [rowsS])
  intro i h1 h2
  have hi : i < k := by simpa [rowsS] using h1
  have := rowsS_row (b := b) (j := 0) hi
  rw [cntS_none hi] at this
  simpa [hi, h1] using this
/-- A block, with noughts behind the end. -/
def blkAt (b : List Nat) (j : Nat) : List Nat := (List.range 16).map fun y => b.getD (j * 16 + y) 0
theorem blkAt_len (b : List Nat) (j : Nat) : (blkAt b j).length = 16 := by simp [blkAt]
theorem rowsS_step {b : List Nat} {k j : Nat} (hk : 1 ≤ k) : (rowsS b k j).set (j % k) ((rowsS b k j).getD (j % k) [] ++ blkAt b j) = rowsS b k (j + 1) := by
  have hm := Nat.mod_lt j (show k > 0 by omega)
  have hd := Nat.div_add_mod j k
  rw [Nat.mul_comm] at hd
  apply List.ext_getElem (by simp [rowsS])
  intro i h1 h2
  have hi : i < k := by simpa [rowsS] using h2
  have e2 : (rowsS b k (j + 1))[i] = (List.range (cntS k (j + 1) i * 16)).map fun y => b.getD (srcAt k i y) 0 := by simp [rowsS]
  rw [e2, cntS_step hk hi, List.getElem_set]
  by_cases e : j % k = i
  · subst e
    rw [if_pos rfl, if_pos rfl, rowsS_row hm, cntS_at hk]
    have e3 : (j / k + 1) * 16 = j / k * 16 + 16 := by omega
    rw [e3, List.range_add, List.map_append, List.map_map]
    congr 1
    unfold blkAt
    refine List.map_congr_left (fun y hy => ?_)
    have hy := List.mem_range.1 hy
    show _ = b.getD (srcAt k (j % k) (j / k * 16 + y)) 0
    unfold srcAt
    have e4 : (j / k * 16 + y) / 16 = j / k := by omega
    have e5 : (j / k * 16 + y) % 16 = y := by omega
    rw [e4, e5, hd]
  · rw [if_neg e, if_neg (fun q => e q.symm)]
    simp [rowsS]
theorem rowsS_all {b : List Nat} {k : Nat} (hb : ∀ x ∈ b, x < 256) : rowsS b k (hgt b.length k * k) = dataS b k := by
  unfold rowsS dataS laid
  refine List.map_congr_left (fun i hi => ?_)
  rw [cntS_all (List.mem_range.1 hi)]
  refine List.map_congr_left (fun y _ => ?_)
  show _ = (G.of (b.getD (srcAt k i y) 0)).n
  rw [G.of_n (getD_lt hb _)]
theorem rowsS_byte {b : List Nat} (hb : ∀ x ∈ b, x < 256) (k j : Nat) : ∀ r ∈ rowsS b k j, ∀ x ∈ r, x < 256 := by
  intro r hr x hx
  obtain ⟨i, _, rfl⟩ := List.mem_map.1 hr
  obtain ⟨y, _, rfl⟩ := List.mem_map.1 hx
  exact getD_lt hb _
/-- The bytes with noughts up to so many blocks, and a block of them. -/
theorem blk_take {b : List Nat} {n j : Nat} (hl : b.length ≤ n) (hj : j * 16 + 16 ≤ n) : ((b ++ List.replicate (n - b.length) 0).drop (j * 16)).take 16 = blkAt b j := by
  apply List.ext_getElem
  · simp [blkAt]; omega
  · intro y h1 h2
    have hy : y < 16 := by simpa [blkAt] using h2
    simp only [List.getElem_take, List.getElem_drop, blkAt, List.getElem_map, List.getElem_range]
    rw [List.getElem_append]
    split
    · rename_i h
      simp [h]
    · rename_i h
      rw [getD_past (by omega)]
      simp
end Go.Proofs.Ytdbngchbhoanpaa
namespace Go.Proofs.Ytdbngchbhoanpaa
open Go.RowKit
/-- Nothing but what lies in S, and new blocks, has been turned. -/
structure Turn (S : Nat → Prop) (w w' : World) : Prop where
  os : w'.os = w.os
  tape : w'.tape = w.tape
  output : w'.output = w.output
  size : w.heap.size ≤ w'.heap.size
  block : ∀ k, k < w.heap.size → ¬ S k → w'.heap[k]? = w.heap[k]?
/-- .. and what belongs to the thing is what did, or is new. -/
structure Next (F : Nat → Prop) (w : World) (F' : Nat → Prop) (w' : World) : Prop where
  turn : Turn F w w'
  foot : ∀ k, F' k → F k ∨ w.heap.size ≤ k
theorem Turn.refl (S : Nat → Prop) (w : World) : Turn S w w := ⟨rfl, rfl, rfl, Nat.le_refl _, fun _ _ _ => rfl⟩
theorem Turn.then {S S' : Nat → Prop} {a b c : World} (h : Turn S a b) (k : Turn S' b c) (hs : ∀ i, S' i → S i ∨ a.heap.size ≤ i) : Turn S a c :=
  ⟨k.os.trans h.os, k.tape.trans h.tape, k.output.trans h.output, Nat.le_trans h.size k.size, fun i hi hn => by
    rw [k.block i (Nat.lt_of_lt_of_le hi h.size) (fun e => (hs i e).elim hn (fun q => by omega))]
    exact h.block i hi hn⟩
theorem Turn.trans {S : Nat → Prop} {a b c : World} (h : Turn S a b) (k : Turn S b c) : Turn S a c := h.then k fun _ => .inl
theorem Turn.mono {S S' : Nat → Prop} {a b : World} (h : Turn S a b) (hs : ∀ i, S i → S' i) : Turn S' a b := ⟨h.os, h.tape, h.output, h.size, fun i hi hn => h.block i hi (fun e => hn (hs i e))⟩
theorem Turn.of_below {w w' : World} (S : Nat → Prop) (h : Below w.heap.size w w') : Turn S w w' := ⟨h.os, h.tape, h.output, h.size, fun k hk _ => h.block k hk⟩
theorem Turn.of_grown {w w' : World} {row : Option Nat} (h : w.grownBy w' row) : Turn (fun k => some k = row) w w' := ⟨h.os, h.tape, h.output, h.size, fun k hk hn => h.block k hk hn⟩
theorem Turn.below {S : Nat → Prop} {w w' : World} {B : Nat} (h : Turn S w w') (hB : B ≤ w.heap.size) (hs : ∀ k, S k → B ≤ k) : Below B w w' :=
  ⟨h.os, h.tape, h.output, h.size, fun k hk => h.block k (by omega) (fun e => by have := hs k e; omega)⟩
theorem Turn.drewN {S : Nat → Prop} {w w' : World} (h : Turn S w w') (n : Nat) : Turn S w (w'.drewN n) := ⟨h.os, h.tape, h.output, h.size, h.block⟩
theorem Next.refl (F : Nat → Prop) (w : World) : Next F w F w := ⟨Turn.refl _ _, fun _ => .inl⟩
theorem Next.of_below {w w' : World} (F : Nat → Prop) (h : Below w.heap.size w w') : Next F w F w' := ⟨Turn.of_below _ h, fun _ => .inl⟩
theorem Next.trans {F F' F'' : Nat → Prop} {a b c : World} (h : Next F a F' b) (k : Next F' b F'' c) : Next F a F'' c :=
  ⟨h.turn.then k.turn h.foot, fun i hi => by
    rcases k.foot i hi with h1 | h1
    · exact h.foot i h1
    · exact .inr (Nat.le_trans h.turn.size h1)⟩
theorem Next.drewN {F F' : Nat → Prop} {w w' : World} (h : Next F w F' w') (n : Nat) : Next F w F' (w'.drewN n) := ⟨h.turn.drewN n, h.foot⟩
theorem Next.below {F F' : Nat → Prop} {w w' : World} {B : Nat} (h : Next F w F' w') (hB : B ≤ w.heap.size) (hs : ∀ k, F k → B ≤ k) : Below B w w' := h.turn.below hB hs
theorem Next.up {F F' : Nat → Prop} {w w' : World} {B : Nat} (h : Next F w F' w') (hB : B ≤ w.heap.size) (hs : ∀ k, F k → B ≤ k) : ∀ k, F' k → B ≤ k := fun k hk => by
  rcases h.foot k hk with h1 | h1
  · exact hs k h1
  · omega
/-- A slice lies outside of what may be turned. -/
def Off (S : Nat → Prop) (v : Value) : Prop := ∀ g, v.ownBlock = some g → ¬ S g
theorem Off.nil (S : Nat → Prop) : Off S (.slice none 0 0) := fun _ h => by simp [Value.ownBlock] at h
theorem IsB.turn {S : Nat → Prop} {w w' : World} {v : Value} {xs : List Nat} (h : IsB w v xs) (t : Turn S w w') (ho : Off S v) : IsB w' v xs := by
  obtain ⟨A, c, rfl, hr, hn⟩ := h
  refine ⟨A, c, rfl, fun hne => ?_, hn⟩
  obtain ⟨b, off, rfl, hc⟩ := hr hne
  refine ⟨b, off, rfl, fun i hi => ?_⟩
  have h1 := hc i hi
  have hb := t.block b (cell_lt h1) (ho b rfl)
  rw [← h1]
  exact World.cell?_of_block hb
theorem Own.turn {S : Nat → Prop} {w w' : World} {B : Nat} {v : Value} {xs : List Nat} (h : Own w B v xs) (t : Turn S w w') (ho : Off S v) : Own w' B v xs := by
  unfold Own at h ⊢
  refine ⟨h.1, ?_⟩
  rcases h.2 with hn | ⟨g, cap, cur, hv, h1, h2, r⟩
  · exact .inl hn
  · refine .inr ⟨g, cap, cur, hv, h1, ?_, r⟩
    rw [t.block g (heap_lt h2) (ho g (by rw [hv]; rfl))]
    exact h2
theorem Own.lt {w : World} {B : Nat} {v : Value} {xs : List Nat} (h : Own w B v xs) : ∀ g, v.ownBlock = some g → B ≤ g ∧ g < w.heap.size := World.ownsRow.lt h
theorem Blk.turn {S : Nat → Prop} {w w' : World} {B : Nat} {e : TypeId} {g : Nat} {cs : List Value} (h : Blk w B e g cs) (t : Turn S w w') (ho : ¬ S g) : Blk w' B e g cs := by
  have hl := h.lt
  obtain ⟨hB, cur, hh, rfl⟩ := h
  exact ⟨hB, cur, by rw [t.block g hl ho]; exact hh, rfl⟩
/-- What was made behind a thing lies outside of it. -/
theorem off_new {F : Nat → Prop} {w : World} {v : Value} {xs : List Nat} {w1 : World} (h : Own w1 w.heap.size v xs) (hF : ∀ k, F k → k < w.heap.size) : Off F v := fun g hg hf => by
  have h1 := (h.lt g hg).1
  have h2 := hF g hf
  omega
theorem off_old {F : Nat → Prop} {B : Nat} {v : Value} (hF : ∀ k, F k → B ≤ k) (hv : ∀ g, v.ownBlock = some g → g < B) : Off F v := fun g hg hf => by
  have h1 := hv g hg
  have h2 := hF g hf
  omega
end Go.Proofs.Ytdbngchbhoanpaa
namespace Go.Proofs.Ytdbngchbhoanpaa
open Go.RowKit
/-- A row that lies apart from every list of rows whose blocks begin at B. -/
def RowOff (w : World) (B : Nat) (u : Value) (xs : List Nat) : Prop :=
  IsB w u xs ∧ (xs ≠ [] → ∀ b, u.ownBlock = some b → b < B ∨ ∃ cur fr, w.heap[b]? = some (.cells cur 5 fr))
theorem RowOff.nil (w : World) (B : Nat) : RowOff w B (.slice none 0 0) [] := ⟨⟨none, 0, rfl, fun h => absurd rfl h, fun _ => rfl, Nat.zero_le _, by decide⟩, fun h => absurd rfl h⟩
theorem IsB.blockLt {w : World} {u : Value} {xs : List Nat} (h : IsB w u xs) (hne : xs ≠ []) : ∀ b, u.ownBlock = some b → b < w.heap.size := by
  obtain ⟨A, c, rfl, hr, _⟩ := h
  obtain ⟨b, off, rfl, hc⟩ := hr hne
  intro b' e
  have e' : b = b' := by simpa [Value.ownBlock] using e
  subst e'
  exact cell_lt (hc 0 (List.length_pos_iff.2 hne))
theorem IsB.off {w : World} {B : Nat} {u : Value} {xs : List Nat} (h : IsB w u xs) (hB : w.heap.size ≤ B) : RowOff w B u xs :=
  ⟨h, fun hne b e => .inl (Nat.lt_of_lt_of_le (h.blockLt hne b e) hB)⟩
theorem Own.off {w : World} {B B' : Nat} {u : Value} {xs : List Nat} (h : Own w B' u xs) : RowOff w B u xs := by
  refine ⟨h.isB, fun hne b e => .inr ?_⟩
  unfold Own at h
  rcases h.2 with ⟨rfl, _⟩ | ⟨g, cap, cur, rfl, _, hh, _⟩
  · cases e
  · have e' : g = b := by simpa [Value.ownBlock] using e
    subst e'
    exact ⟨_, _, hh⟩
theorem RowOff.keep {w w' : World} {B : Nat} {u : Value} {xs : List Nat} (h : RowOff w B u xs) (hb : Below w.heap.size w w') : RowOff w' B u xs := by
  refine ⟨h.1.keep hb, fun hne b e => ?_⟩
  rcases h.2 hne b e with h1 | ⟨cur, fr, h1⟩
  · exact .inl h1
  · exact .inr ⟨cur, fr, by rw [hb.block b (heap_lt h1)]; exact h1⟩
theorem RowOff.ne {w : World} {B : Nat} {u v : Value} {vs : List Value} {xs : List Nat} (h : RowOff w B u xs) (hv : OwnV w B v vs) (hne : xs ≠ []) : ∀ b, u.ownBlock = some b → v.ownBlock ≠ some b := by
  intro b e q
  rcases h.2 hne b e with h1 | ⟨cur, fr, h1⟩
  · have := (World.ownsRow.lt hv b q).1
    omega
  · rcases hv.2 with ⟨rfl, _⟩ | ⟨g, cap, cur', rfl, _, hh, _⟩
    · cases q
    · have e' : g = b := by simpa [Value.ownBlock] using q
      subst e'
      rw [hh] at h1
      simp only [Option.some.injEq, Obj.cells.injEq] at h1
      exact absurd h1.2.1 (by decide)
theorem RowOff.grown {w w' : World} {B : Nat} {u v : Value} {vs : List Value} {xs : List Nat} (h : RowOff w B u xs) (hv : OwnV w B v vs) (hg : w.grownBy w' v.ownBlock) : RowOff w' B u xs := by
  refine ⟨?_, fun hne b e => ?_⟩
  · rcases xs with _ | ⟨x, r⟩
    · obtain ⟨A, c, e, _, hn⟩ := h.1
      exact ⟨A, c, e, fun q => absurd rfl q, hn⟩
    · refine h.1.turn (S := fun k => some k = v.ownBlock) (Turn.of_grown hg) (fun b e q => ?_)
      exact h.ne hv (by simp) b e q.symm
  · have hlt := h.1.blockLt hne b e
    rcases h.2 hne b e with h1 | ⟨cur, fr, h1⟩
    · exact .inl h1
    · exact .inr ⟨cur, fr, by rw [hg.block b hlt (fun q => h.ne hv hne b e q.symm)]; exact h1⟩
/-- A slice of slices at A reads as these rows, which lie apart. -/
def RowsOff (w : World) (B : Nat) (A : Option Addr) (xss : ML) : Prop := ∃ us, RdV w A us ∧ us.length = xss.length ∧ ∀ i, i < us.length → RowOff w B (us.getD i (.slice none 0 0)) (xss.getD i [])
theorem IsM.off {w : World} {B : Nat} {A : Option Addr} {xss : ML} (h : IsM w A xss) (hB : w.heap.size ≤ B) : RowsOff w B A xss := by
  obtain ⟨vs, h1, h2⟩ := h
  exact ⟨vs, h1, h2.1, fun i hi => (h2.2 i hi).off hB⟩
theorem RowsOff.isM {w : World} {B : Nat} {A : Option Addr} {xss : ML} (h : RowsOff w B A xss) : IsM w A xss := by
  obtain ⟨us, h1, h2, h3⟩ := h
  exact ⟨us, h1, h2, fun i hi => (h3 i hi).1⟩
theorem RowsOff.keep {w w' : World} {B : Nat} {A : Option Addr} {xss : ML} (h : RowsOff w B A xss) (hb : Below w.heap.size w w') : RowsOff w' B A xss := by
  obtain ⟨us, h1, h2, h3⟩ := h
  exact ⟨us, h1.below hb, h2, fun i hi => (h3 i hi).keep hb⟩
/-- A list of rows that the call gathers. -/
def Held (w : World) (B : Nat) (v : Value) (xss : ML) : Prop := ∃ vs, OwnV w B v vs ∧ vs.length = xss.length ∧ ∀ i, i < vs.length → RowOff w B (vs.getD i (.slice none 0 0)) (xss.getD i [])
theorem Held.nil (w : World) (B : Nat) : Held w B (.slice none 0 0) [] := ⟨[], OwnV.nil w B, rfl, fun _ h => absurd h (by simp)⟩
theorem Held.empty (w : World) : Held (w.alloc (.cells #[] 24)) w.heap.size (.slice (some ⟨w.heap.size, 0, none⟩) 0 0) [] :=
  ⟨[], ⟨rfl, .inr ⟨_, 0, #[], rfl, Nat.le_refl _, heap_alloc_new w _, Nat.le_refl _, Nat.zero_le _, rfl, rfl⟩⟩, rfl, fun _ h => absurd h (by simp)⟩
theorem Held.emptyAt {w : World} {B b : Nat} (hB : B ≤ w.heap.size) (hb : b = w.heap.size) : Held (w.alloc (.cells #[] 24)) B (.slice (some ⟨b, 0, none⟩) 0 0) [] := by
  subst hb
  exact ⟨[], ⟨rfl, .inr ⟨_, 0, #[], rfl, hB, heap_alloc_new w _, Nat.le_refl _, Nat.zero_le _, rfl, rfl⟩⟩, rfl, fun _ h => absurd h (by simp)⟩
theorem OwnMt.held {w : World} {B : Nat} {v : Value} {xss : ML} (h : OwnMt w B v xss) : Held w B v xss := by
  obtain ⟨vs, h1, h2⟩ := h
  exact ⟨vs, h1, h2.1, fun i hi => (h2.2 i hi).off⟩
theorem Held.form {w : World} {B : Nat} {v : Value} {xss : ML} {n : Nat} (h : Held w B v xss) (hn : xss.length = n) : ∃ A c, v = .slice A n c ∧ RowsOff w B A xss ∧ n ≤ 9223372036854775807 := by
  obtain ⟨vs, h1, h2, h3⟩ := h
  obtain ⟨A, c, e, hr, hl⟩ := h1.form (n := n) (by rw [h2, hn])
  exact ⟨A, c, e, ⟨vs, hr, h2, h3⟩, hl⟩
theorem Held.keep {w w' : World} {B : Nat} {v : Value} {xss : ML} (h : Held w B v xss) (hb : Below w.heap.size w w') : Held w' B v xss := by
  obtain ⟨vs, h1, h2, h3⟩ := h
  exact ⟨vs, h1.keep hb, h2, fun i hi => (h3 i hi).keep hb⟩
theorem Held.drewN {w : World} {B : Nat} {v : Value} {xss : ML} (h : Held w B v xss) (d : Nat) : Held (w.drewN d) B v xss := h
theorem Held.block {w : World} {B n : Nat} {v : Value} {W : ML} (h : Held w B v W) (hn : W.length = n) (h1 : 1 ≤ n) : ∃ g c, v = .slice (some ⟨g, 0, none⟩) n c := by
  obtain ⟨vs, o1, o2, _⟩ := h
  rcases o1.2 with ⟨q, q2⟩ | ⟨g, cap, cur, q, _⟩
  · omega
  · rw [o2, hn] at q
    exact ⟨g, cap, q⟩
theorem OwnV.nilc {w : World} {B n c : Nat} {A : Option Addr} {vs : List Value} (h : OwnV w B (.slice A n c) vs) : A = none → c = 0 := by
  rintro rfl
  rcases h.2 with ⟨q, _⟩ | ⟨g, cap, cur, q, _⟩
  · cases q; rfl
  · cases q
theorem Held.nilc {w : World} {B n c : Nat} {A : Option Addr} {xss : ML} (h : Held w B (.slice A n c) xss) : A = none → c = 0 := by
  obtain ⟨vs, h1, _⟩ := h
  exact h1.nilc
theorem OwnMt.nilc {w : World} {B n c : Nat} {A : Option Addr} {xss : ML} (h : OwnMt w B (.slice A n c) xss) : A = none → c = 0 := by
  obtain ⟨vs, h1, _⟩ := h
  exact h1.nilc
theorem Held.lens {w : World} {B g n c : Nat} {xss : ML} (h : Held w B (.slice (some ⟨g, 0, none⟩) n c) xss) : xss.length = n := by
  obtain ⟨vs, h1, h2, _⟩ := h
  obtain ⟨A', c', e, _, _⟩ := h1.form rfl
  cases e
  exact h2.symm
/-- At each place a slice that reads as the row. -/
theorem Held.row {w : World} {B g n c : Nat} {xss : ML} (h : Held w B (.slice (some ⟨g, 0, none⟩) n c) xss) (k : Nat) (hk : k < n) :
    ∃ A' c', w.cell? ⟨g, k, none⟩ = some (.slice A' (xss.getD k []).length c') ∧ RowOff w B (.slice A' (xss.getD k []).length c') (xss.getD k []) ∧ w.frozen? ⟨g, k, none⟩ = false ∧ (xss.getD k []).length ≤ c' ∧ c' ≤ 9223372036854775807 := by
  obtain ⟨vs, h1, h2, h3⟩ := h
  have hl : vs.length = n := by
    obtain ⟨A', c', e, _, _⟩ := h1.form rfl
    cases e
    rfl
  have hv := h3 k (by omega)
  obtain ⟨A', c', e, _, l1, l2⟩ := hv.1.form rfl
  rw [e] at hv
  unfold OwnV at h1
  rw [hl] at h1
  refine ⟨A', c', ?_, hv, World.ownsRow.frozenAt h1 k, l1, l2⟩
  rw [World.ownsRow.cellAt h1 k (by omega), ← e]
  have : k < vs.length := by omega
  simp [this]
/-- A row comes to a place. -/
theorem Held.put {w : World} {B g n c : Nat} {xss : ML} {u : Value} {xs : List Nat} (h : Held w B (.slice (some ⟨g, 0, none⟩) n c) xss) (hu : RowOff w B u xs) (k : Nat) :
    Held (w.setCell ⟨g, k, none⟩ u) B (.slice (some ⟨g, 0, none⟩) n c) (xss.set k xs) := by
  obtain ⟨vs, h1, h2, h3⟩ := h
  have hl : vs.length = n := by
    obtain ⟨A', c', e, _, _⟩ := h1.form rfl
    cases e
    rfl
  have h1' := h1
  unfold OwnV at h1
  rw [hl] at h1
  have st := World.ownsRow.stored h1 k u
  refine ⟨vs.set k u, ?_, by rw [List.length_set, List.length_set, h2], fun i hi => ?_⟩
  · unfold OwnV
    rw [List.length_set, hl]
    exact st.1
  · rw [List.length_set] at hi
    have hi2 : i < xss.length := by rw [← h2]; exact hi
    rw [List.getD_eq_getElem?_getD, List.getD_eq_getElem?_getD, List.getElem?_set, List.getElem?_set]
    by_cases e : k = i
    · subst e
      rw [if_pos rfl, if_pos rfl, if_pos hi, if_pos hi2]
      exact hu.grown h1' st.2
    · rw [if_neg e, if_neg e, ← List.getD_eq_getElem?_getD, ← List.getD_eq_getElem?_getD]
      exact (h3 i hi).grown h1' st.2
theorem RowOff.putIn {w : World} {B g n c k : Nat} {xss : ML} {u v : Value} {xs : List Nat} (h : RowOff w B v xs) (hm : Held w B (.slice (some ⟨g, 0, none⟩) n c) xss) : RowOff (w.setCell ⟨g, k, none⟩ u) B v xs := by
  obtain ⟨vs, h1, _⟩ := hm
  exact h.grown h1 (grown_set w g k u)
theorem Held.base {w : World} {B g n c : Nat} {xss : ML} (h : Held w B (.slice (some ⟨g, 0, none⟩) n c) xss) : B ≤ g ∧ g < w.heap.size := by
  obtain ⟨vs, h1, _⟩ := h
  exact World.ownsRow.lt h1 g rfl
theorem Held.below {w : World} {B g n c k : Nat} {xss : ML} {a : World} {u : Value} (h : Held w B (.slice (some ⟨g, 0, none⟩) n c) xss) (hb : Below B a w) : Below B a (w.setCell ⟨g, k, none⟩ u) := hb.setCell h.base.1 _
theorem getD_appV {α : Type} (d : α) (vs us : List α) (i : Nat) : (vs ++ us).getD i d = if i < vs.length then vs.getD i d else us.getD (i - vs.length) d := by
  simp only [List.getD_eq_getElem?_getD]
  by_cases h : i < vs.length
  · rw [if_pos h, List.getElem?_append_left h]
  · rw [if_neg h, List.getElem?_append_right (by omega)]
/-- Rows that come behind. -/
theorem Held.app {w w' : World} {B : Nat} {v v' : Value} {vs us : List Value} {xss yss : ML} (h1 : OwnV w B v vs) (h2 : vs.length = xss.length) (h3 : ∀ i, i < vs.length → RowOff w B (vs.getD i (.slice none 0 0)) (xss.getD i []))
    (u2 : us.length = yss.length) (u3 : ∀ i, i < us.length → RowOff w B (us.getD i (.slice none 0 0)) (yss.getD i [])) (ho : OwnV w' B v' (vs ++ us)) (hg : w.grownBy w' v.ownBlock) : Held w' B v' (xss ++ yss) := by
  refine ⟨vs ++ us, ho, by rw [List.length_append, List.length_append, h2, u2], fun i hi => ?_⟩
  rw [List.length_append] at hi
  rw [getD_appV, getD_appV, ← h2]
  by_cases e : i < vs.length
  · rw [if_pos e, if_pos e]
    exact (h3 i e).grown h1 hg
  · rw [if_neg e, if_neg e]
    exact (u3 _ (by omega)).grown h1 hg
theorem RowOff.one {w : World} {B : Nat} {u : Value} {xs : List Nat} (h : RowOff w B u xs) : u.oneCell' = true := by
  obtain ⟨A, c, rfl, _⟩ := h.1
  rfl
/-- An append of one row. -/
theorem wpList_append_held {w : World} {ops : Array Oper} {rest : List Oper} {o : Oper} {a : Act} {Q : Exit → Act → World → Prop} (hgd : o.guard = none) (s x : Operand)
    (ho : o.op = .call { callee := .builtin .append, args := #[s, x], argTypes := #[50, 50] })
    (B : Nat) (v : Value) (xss : ML) (hs : a.eval s = v) (hown : Held w B v xss)
    (b : Nat) (u : Value) (xs : List Nat) (hx : a.eval x = .slice (some ⟨b, 0, none⟩) 1 1) (hu : w.cell? ⟨b, 0, none⟩ = some u) (hr : RowOff w B u xs)
    (hlen : xss.length + 1 ≤ 1099511627776) (hbase : B ≤ w.heap.size)
    (h : ∀ v' w', Held w' B v' (xss ++ [xs]) → Below B w w' → wpList Try.prog ops Q rest (a.put o.dst v') w') : wpList Try.prog ops Q (o :: rest) a w := by
  obtain ⟨vs, h1, h2, h3⟩ := hown
  exact wpList_append_row hgd s x ho B v vs hs h1 b u hx hu hr.one (by rw [h2]; exact hlen) hbase (fun v' w' k1 k2 k3 => h v' w' (Held.app h1 h2 h3 (us := [u]) (yss := [xs]) rfl (fun i hi => by
    have : i = 0 := by simp at hi; omega
    subst this
    exact hr) k1 k3) k2)
/-- What an append of many rows leaves, whatever it is that is appended. -/
theorem held_news {w : World} {A : Option Addr} {B : Nat} {yss : ML} {us : List Value} (h1 : RdV w A us) (h3 : ∀ i, i < us.length → RowOff w B (us.getD i (.slice none 0 0)) (yss.getD i [])) (ad : Addr) (hA : A = some ad) :
    (∀ j u, us[j]? = some u → w.cell? (ad.add j) = some u) ∧ ∀ u ∈ us, u.oneCell' = true := by
  subst hA
  refine ⟨fun j u hu => ?_, fun u hu => ?_⟩
  · have hj : j < us.length := by
      rcases Nat.lt_or_ge j us.length with h | h
      · exact h
      · simp [h] at hu
    obtain ⟨b, off, e, hc⟩ := h1 (by intro e; rw [e] at hj; simp at hj)
    cases e
    have := hc j hj
    simp [hj] at hu
    subst hu
    simpa [add_off, hj] using this
  · obtain ⟨i, hi, rfl⟩ := List.getElem_of_mem hu
    have := (h3 i hi).one
    simpa [hi] using this
theorem wpList_append_helds {w : World} {ops : Array Oper} {rest : List Oper} {o : Oper} {a : Act} {Q : Exit → Act → World → Prop} (hgd : o.guard = none) (s x : Operand)
    (ho : o.op = .call { callee := .builtin .append, args := #[s, x], argTypes := #[50, 50] })
    (B : Nat) (v : Value) (xss : ML) (hs : a.eval s = v) (hown : Held w B v xss)
    (A : Option Addr) (m c : Nat) (yss : ML) (hx : a.eval x = .slice A m c) (hr : RowsOff w B A yss) (hm : yss.length = m) (hc : A = none → c = 0)
    (hlen : xss.length + m ≤ 1099511627776) (hbase : B ≤ w.heap.size)
    (h : ∀ v' w', Held w' B v' (xss ++ yss) → Below B w w' → wpList Try.prog ops Q rest (a.put o.dst v') w') : wpList Try.prog ops Q (o :: rest) a w := by
  obtain ⟨i0, hi, hz0, hz1, hz2⟩ := info_parts Try.info_rows
  obtain ⟨vs, h1, h2, h3⟩ := hown
  obtain ⟨us, u1, u2, u3⟩ := hr
  have fin : ∀ v' w', w'.ownsRow B 24 1 v' (vs.length + us.length) (vs ++ us) → w.grownBy w' v.ownBlock → wpList Try.prog ops Q rest (a.put o.dst v') w' := by
    intro v' w' hown' hg
    exact h v' w' (Held.app h1 h2 h3 u2 u3 (by unfold OwnV; simpa using hown') hg) ((Below.refl _ _).grown hg hbase fun k hk => (h1.lt k hk).1)
  have h1' := h1
  unfold OwnV at h1'
  have hum : us.length = m := by rw [u2, hm]
  rcases A with _ | ad
  · have hus : us = [] := by
      rcases us with _ | ⟨y, ys⟩
      · rfl
      · obtain ⟨_, _, e, _⟩ := u1 (by simp)
        cases e
    subst hus
    have hm0 : m = 0 := by simpa using hum.symm
    subst hm0
    have hc0 := hc rfl
    subst hc0
    exact wpList_append_own_none hgd s x _ ho B 24 i0 1 Try.underlying50 hi v _ _ hs h1' hx (fin v w (by simpa using h1') (World.grownBy.refl w _))
  · obtain ⟨n1, n2⟩ := held_news u1 u3 ad rfl
    subst hum
    exact wpList_append_own w hgd s x _ ho B 24 i0 (.slice none 0 0) 1 24 Try.underlying50 hi hz0 hz1 hz2 rfl (by decide) v _ _ hs h1' ad us.length c us hx (by simp) n1 n2 (by rw [h2]; unfold maxLen; omega) (by rw [h2]; omega) hbase (fun v' w' k1 k2 _ => fin v' w' k1 k2)
/-- Another list of rows, in another block. -/
theorem Held.kept {w w' : World} {B : Nat} {v u : Value} {xss yss : ML} (h : Held w B v xss) (hu : Held w B u yss) (hg : w.grownBy w' u.ownBlock) (ha : v.ownBlock = none ∨ v.ownBlock ≠ u.ownBlock) : Held w' B v xss := by
  obtain ⟨vs, h1, h2, h3⟩ := h
  obtain ⟨us, u1, _⟩ := hu
  exact ⟨vs, World.ownsRow.kept h1 hg ha, h2, fun i hi => (h3 i hi).grown u1 hg⟩
theorem Held.lt {w : World} {B : Nat} {v : Value} {xss : ML} (h : Held w B v xss) : ∀ g, v.ownBlock = some g → B ≤ g ∧ g < w.heap.size := by
  obtain ⟨vs, h1, _⟩ := h
  exact World.ownsRow.lt h1
/-- An append of one row, and where it goes. -/
theorem wpList_append_held_at {w : World} {ops : Array Oper} {rest : List Oper} {o : Oper} {a : Act} {Q : Exit → Act → World → Prop} (hgd : o.guard = none) (s x : Operand)
    (ho : o.op = .call { callee := .builtin .append, args := #[s, x], argTypes := #[50, 50] })
    (B : Nat) (v : Value) (xss : ML) (hs : a.eval s = v) (hown : Held w B v xss)
    (b : Nat) (u : Value) (xs : List Nat) (hx : a.eval x = .slice (some ⟨b, 0, none⟩) 1 1) (hu : w.cell? ⟨b, 0, none⟩ = some u) (hr : RowOff w B u xs)
    (hlen : xss.length + 1 ≤ 1099511627776) (hbase : B ≤ w.heap.size)
    (h : ∀ v' w', Held w' B v' (xss ++ [xs]) → Below B w w' → w.grownBy w' v.ownBlock → (v'.ownBlock = v.ownBlock ∨ v'.ownBlock = some w.heap.size) → wpList Try.prog ops Q rest (a.put o.dst v') w') : wpList Try.prog ops Q (o :: rest) a w := by
  obtain ⟨i0, hi, hz0, hz1, hz2⟩ := info_parts Try.info_rows
  obtain ⟨vs, h1, h2, h3⟩ := hown
  have h1' := h1
  unfold OwnV at h1'
  refine wpList_append_own_at w hgd s x _ ho B 24 i0 (.slice none 0 0) 1 24 Try.underlying50 hi hz0 hz1 hz2 rfl (by decide) v _ _ hs h1' ⟨b, 0, none⟩ 1 1 [u] hx rfl ?_ ?_ (by rw [h2]; unfold maxLen; omega) (by rw [h2]; omega) hbase ?_
  · intro j z hj
    match j, hj with
    | 0, hj => simp at hj; subst hj; simpa [Addr.add] using hu
  · intro z hz; simp at hz; subst hz; exact hr.one
  · intro v' w' k1 k2 _ k4
    exact h v' w' (Held.app h1 h2 h3 (us := [u]) (yss := [xs]) rfl (fun i hi => by
      have : i = 0 := by simp at hi; omega
      subst this
      exact hr) (by unfold OwnV; simpa using k1) k2) ((Below.refl _ _).grown k2 hbase fun k hk => (h1.lt k hk).1) k2 k4
/-- The same inside a region that draws its order. -/
theorem step_append_held {w : World} {ops : Array Oper} {o : Oper} {a : Act} {K : Act → World → Prop} {Q : Exit → Act → World → Prop} {E : Prop} (hgd : o.guard = none) (s x : Operand)
    (ho : o.op = .call { callee := .builtin .append, args := #[s, x], argTypes := #[50, 50] })
    (B : Nat) (v : Value) (xss : ML) (hs : a.eval s = v) (hown : Held w B v xss)
    (b : Nat) (u : Value) (xs : List Nat) (hx : a.eval x = .slice (some ⟨b, 0, none⟩) 1 1) (hu : w.cell? ⟨b, 0, none⟩ = some u) (hr : RowOff w B u xs)
    (hlen : xss.length + 1 ≤ 1099511627776) (hbase : B ≤ w.heap.size)
    (h : ∀ v' w', Held w' B v' (xss ++ [xs]) → Below B w w' → K (a.put o.dst v') w') : if Region.wanted o (yielded ops a.tmps) = true then Oper.wp Try.prog o a w K Q else E := by
  have hw : Region.wanted o (yielded ops a.tmps) = true := by simp [Region.wanted, hgd]
  rw [if_pos hw]
  obtain ⟨i0, hi, hz0, hz1, hz2⟩ := info_parts Try.info_rows
  obtain ⟨vs, h1, h2, h3⟩ := hown
  have h1' := h1
  unfold OwnV at h1'
  refine wp_append_own w s x _ ho B 24 i0 (.slice none 0 0) 1 24 Try.underlying50 hi hz0 hz1 hz2 rfl (by decide) v _ _ hs h1' ⟨b, 0, none⟩ 1 1 [u] hx rfl ?_ ?_ (by rw [h2]; unfold maxLen; omega) (by rw [h2]; omega) hbase ?_
  · intro j z hj
    match j, hj with
    | 0, hj => simp at hj; subst hj; simpa [Addr.add] using hu
  · intro z hz; simp at hz; subst hz; exact hr.one
  · intro v' w' k1 k2 _
    exact h v' w' (Held.app h1 h2 h3 (us := [u]) (yss := [xs]) rfl (fun i hi => by
      have : i = 0 := by simp at hi; omega
      subst this
      exact hr) (by unfold OwnV; simpa using k1) k2) ((Below.refl _ _).grown k2 hbase fun k hk => (h1.lt k hk).1)
theorem step_append_helds {w : World} {ops : Array Oper} {o : Oper} {a : Act} {K : Act → World → Prop} {Q : Exit → Act → World → Prop} {E : Prop} (hgd : o.guard = none) (s x : Operand)
    (ho : o.op = .call { callee := .builtin .append, args := #[s, x], argTypes := #[50, 50] })
    (B : Nat) (v : Value) (xss : ML) (hs : a.eval s = v) (hown : Held w B v xss)
    (A : Option Addr) (m c : Nat) (yss : ML) (hx : a.eval x = .slice A m c) (hr : RowsOff w B A yss) (hm : yss.length = m) (hc : A = none → c = 0)
    (hlen : xss.length + m ≤ 1099511627776) (hbase : B ≤ w.heap.size)
    (h : ∀ v' w', Held w' B v' (xss ++ yss) → Below B w w' → K (a.put o.dst v') w') : if Region.wanted o (yielded ops a.tmps) = true then Oper.wp Try.prog o a w K Q else E := by
  have hw : Region.wanted o (yielded ops a.tmps) = true := by simp [Region.wanted, hgd]
  rw [if_pos hw]
  obtain ⟨i0, hi, hz0, hz1, hz2⟩ := info_parts Try.info_rows
  obtain ⟨vs, h1, h2, h3⟩ := hown
  obtain ⟨us, u1, u2, u3⟩ := hr
  have fin : ∀ v' w', w'.ownsRow B 24 1 v' (vs.length + us.length) (vs ++ us) → w.grownBy w' v.ownBlock → K (a.put o.dst v') w' := by
    intro v' w' hown' hg
    exact h v' w' (Held.app h1 h2 h3 u2 u3 (by unfold OwnV; simpa using hown') hg) ((Below.refl _ _).grown hg hbase fun k hk => (h1.lt k hk).1)
  have h1' := h1
  unfold OwnV at h1'
  have hum : us.length = m := by rw [u2, hm]
  rcases A with _ | ad
  · have hus : us = [] := by
      rcases us with _ | ⟨y, ys⟩
      · rfl
      · obtain ⟨_, _, e, _⟩ := u1 (by simp)
        cases e
    subst hus
    have hm0 : m = 0 := by simpa using hum.symm
    subst hm0
    have hc0 := hc rfl
    subst hc0
    have hrun := run_append_owned_none (P := Try.prog) (w := w) B 50 o.type 24 i0 1 Try.underlying50 hi v _ _ h1'
    unfold Oper.wp
    simp [execOp, ho, resolve, invoke, builtin, hs, hx, hrun, Result.andThen]
    exact fin v w (by simpa using h1') (World.grownBy.refl w _)
  · obtain ⟨n1, n2⟩ := held_news u1 u3 ad rfl
    subst hum
    exact wp_append_own w s x _ ho B 24 i0 (.slice none 0 0) 1 24 Try.underlying50 hi hz0 hz1 hz2 rfl (by decide) v _ _ hs h1' ad us.length c us hx (by simp) n1 n2 (by rw [h2]; unfold maxLen; omega) (by rw [h2]; omega) hbase (fun v' w' k1 k2 _ => fin v' w' k1 k2)
end Go.Proofs.Ytdbngchbhoanpaa
namespace Go.Proofs.Ytdbngchbhoanpaa
open Go.RowKit
/-- Rows that come in small. -/
def SmallM (w : World) (A : Option Addr) (n : Nat) (W : ML) : Prop := IsM w A W ∧ W.length = n ∧ n ≤ 1000000 ∧ (∀ r ∈ W, ∀ x ∈ r, x < 256) ∧ ∀ r ∈ W, r.length ≤ 1000000
/-- A list of rows that is handed back. -/
def OutM (w : World) (v : Value) (L : ML) : Prop := ∃ A n c, v = .slice A n c ∧ L.length = n ∧ IsM w A L ∧ (A = none → c = 0) ∧ n ≤ 9223372036854775807
def I64 (z : Int) : Prop := -9223372036854775808 ≤ z ∧ z ≤ 9223372036854775807
def SumsC : Prop := ∀ (A : Option Addr) (n c : Nat) (m : Int) (D : ML) (w : World), SmallM w A n D → I64 m →
  Calls Try.prog 39 #[.slice A n c, .int .i64 m] w fun e w' => ∃ v L E, e = .returned (.tuple #[v, .int .i64 E]) ∧ OutM w' v L ∧ OwnMt w' w.heap.size v L ∧ sumsAns D m L E ∧ Below w.heap.size w w'
theorem SmallM.below {w w' : World} {A : Option Addr} {n : Nat} {W : ML} (h : SmallM w A n W) (k : Below w.heap.size w w') : SmallM w' A n W := ⟨h.1.below k, h.2⟩
theorem SmallM.million {w : World} {A : Option Addr} {n : Nat} {W : ML} (h : SmallM w A n W) : ∀ r ∈ W, r.length ≤ 1000000 := fun r hr => Nat.le_trans (h.2.2.2.2 r hr) (by decide)
theorem two_rows (w : World) (a b : Nat) (ha : a < 256) (hb : b < 256) {g1 g2 g3 : Nat} (e1 : g1 = w.heap.size) (e2 : g2 = (w.alloc (.cells #[.int .u8 (a : Int)] 5)).heap.size) (e3 : g3 = ((w.alloc (.cells #[.int .u8 (a : Int)] 5)).alloc (.cells #[.int .u8 (b : Int)] 5)).heap.size) :
    SmallM (((w.alloc (.cells #[.int .u8 (a : Int)] 5)).alloc (.cells #[.int .u8 (b : Int)] 5)).alloc (.cells #[.slice (some ⟨g1, 0, none⟩) 1 1, .slice (some ⟨g2, 0, none⟩) 1 1] 24)) (some ⟨g3, 0, none⟩) 2 [[a], [b]] := by
  have h1 := ((isB_one w a e1).keep (below_alloc _ (.cells #[.int .u8 (b : Int)] 5))).keep (below_alloc _ (.cells #[.slice (some ⟨g1, 0, none⟩) 1 1, .slice (some ⟨g2, 0, none⟩) 1 1] 24))
  have h2 := (isB_one _ b e2).keep (below_alloc _ (.cells #[.slice (some ⟨g1, 0, none⟩) 1 1, .slice (some ⟨g2, 0, none⟩) 1 1] 24))
  refine ⟨⟨_, rdV_new _ _ _ _ _ e3 rfl, rfl, fun i hi => ?_⟩, rfl, by omega, fun r hr x hx => ?_, fun r hr => ?_⟩
  · match i, hi with
    | 0, _ => exact h1
    | 1, _ => exact h2
    | n + 2, h => exact absurd h (by simp)
  · rcases List.mem_cons.1 hr with rfl | hr
    · simp at hx; omega
    · rcases List.mem_cons.1 hr with rfl | hr
      · simp at hx; omega
      · exact absurd hr (by simp)
  · rcases List.mem_cons.1 hr with rfl | hr
    · simp
    · rcases List.mem_cons.1 hr with rfl | hr
      · simp
      · exact absurd hr (by simp)
theorem known_ans {L : ML} {E : Int} (h : sumsAns [[1], [2]] 1 L E) : L = [[123]] ∧ E = 0 := by
  rcases h with ⟨_, _, q⟩ | ⟨rfl, _, rfl⟩
  · exfalso
    rcases q with q | q | q | ⟨r, hr, q⟩
    · exact absurd q (by decide)
    · exact absurd q (by decide)
    · exact absurd q (by decide)
    · rcases List.mem_cons.1 hr with rfl | hr
      · exact absurd q (by decide)
      · rcases List.mem_cons.1 hr with rfl | hr
        · exact absurd q (by decide)
        · exact absurd hr (by simp)
  · exact ⟨by decide +kernel, rfl⟩
end Go.Proofs.Ytdbngchbhoanpaa
