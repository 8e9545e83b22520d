/- Rows of rows of bytes that came in: read as such; no row is longer than the bulk of what was read. No condition. Rows of rows of bytes that came in, within the form's reach: no row, and not their number, is more than the reach. -/
import Derived.Test.YtehgjkckhjggbaaVr6
import Derived.Deep.Matrix
import Derived.ProofKit
import Derived.SizedLaws
namespace Go.Proofs.Ytehgjkckhjggbaa
open Go.RowKit Go.Deep Go.ChangeShapes Go.WideShapes
theorem bulk_in {H : Type} : ∀ (l : List (DataW H)) (d : DataW H), d ∈ l → Rows.uptoBulk d ≤ Rows.uptoBulkAll l
  | [], _, h => absurd h (by simp)
  | x :: r, d, h => by
    show Rows.uptoBulk d ≤ Rows.uptoBulk x + Rows.uptoBulkAll r
    rcases List.mem_cons.1 h with rfl | h'
    · exact Nat.le_add_right _ _
    · exact Nat.le_trans (bulk_in r d h') (Nat.le_add_left _ _)
theorem bulk_lits {H : Type} (k : IntKind) (zs : List Int) : Rows.uptoBulkAll (lits (H := H) k zs) = zs.length := by
  unfold lits
  induction zs with
  | nil => rfl
  | cons z zs ih =>
    show 1 + Rows.uptoBulkAll (zs.map fun n => DataW.lit (H := H) (.int k n)) = zs.length + 1
    rw [ih, Nat.add_comm]
/-- A slice weighs at least as much as what stands in it. -/
theorem bulk_slice {H : Type} (elems spare : List (DataW H)) : Rows.uptoBulkAll elems ≤ Rows.uptoBulk (.slice elems spare) := by
  show Rows.uptoBulkAll elems ≤ Rows.uptoBulkAll elems + Rows.uptoBulkAll spare + 1
  omega
/-- A row that came in reads as bytes. -/
theorem row_isB {w : World} {A : Option Addr} {L C : Nat} {zs : List Int} (h1 : L ≤ C) (h2 : C ≤ maxLen) (h3 : zs.length = C) (hw : ∀ n ∈ zs, (Lit.int .u8 n).wf = true) (hn : A = none → C = 0)
    (hc : ∀ a', A = some a' → ∀ c, c < C → w.cell? (a'.add c) = some (.int .u8 (zs.getD c 0))) :
    ∃ xs : List Nat, xs.length = L ∧ (∀ x ∈ xs, x < 256) ∧ IsB w (.slice A L C) xs := by
  rcases A with _ | a
  · have h0 := hn rfl
    subst h0
    have hL : L = 0 := by omega
    subst hL
    exact ⟨[], rfl, by simp, none, 0, rfl, fun h => absurd rfl h, fun _ => rfl, Nat.le_refl _, by decide⟩
  · obtain ⟨xs, g1, g2, g3, _⟩ := IsRow.isB (w := w) (a := some a) (len := L) (cap := C) (zs := zs) (.inr ⟨a, rfl, h1, h2, h3, fun i hi => hc a rfl i (by omega), hw⟩)
    exact ⟨xs, g1, g2, g3⟩
theorem choose_rows {n : Nat} {p : Nat → List Nat → Prop} (h : ∀ i, i < n → ∃ x, p i x) : ∃ f : Nat → List Nat, ∀ i, i < n → p i (f i) := by
  obtain ⟨f, hf⟩ := choose_lt (α := List Nat) h
  exact ⟨f, hf⟩
theorem rows_in {H : Type} {enc : TypeId × Value → H} {W : World} {fuel : Nat} {a0 : Option Addr} {len0 cap0 : Nat} {x : DataW H × List MemPlace}
    (h : DataW.trod enc Try.prog W 0 (fun _ => true) true fuel 42 [.slice a0 len0 cap0] = some x) :
    ∃ (vs : List Value) (xss : List (List Nat)), vs.length = len0 ∧ RdV W a0 vs ∧ IsBs W vs xss ∧ (∀ xs ∈ xss, ∀ x ∈ xs, x < 256) ∧ (∀ xs ∈ xss, xs.length ≤ Rows.uptoBulk x.1) ∧ len0 ≤ cap0 ∧ cap0 ≤ 9223372036854775807 := by
  rcases open_int_rows Try.underlying42 Try.underlying23 Try.underlying5 (by kernel_rfl) (by kernel_rfl) h with ⟨hcs, _⟩ | ⟨a, len, cap, A, L, C, Z, hcs, _, hl, hm, hx, hr⟩
  · simp at hcs
    obtain ⟨rfl, rfl, rfl⟩ := hcs
    exact ⟨[], [], rfl, fun h => absurd rfl h, ⟨rfl, fun i hi => absurd hi (by simp)⟩, by simp, by simp, Nat.le_refl _, by decide⟩
  · simp at hcs
    obtain ⟨rfl, rfl, rfl⟩ := hcs
    obtain ⟨X, hX⟩ := choose_rows (n := len0) (p := fun r xs => xs.length = L r ∧ (∀ x ∈ xs, x < 256) ∧ IsB W (.slice (A r) (L r) (C r)) xs) (fun r hr0 => by
      obtain ⟨_, r1, r2, r3, r4, r5, r6⟩ := hr r (by omega)
      exact row_isB r1 r2 r3 r4 r5 (fun a' ha c hc => (r6 a' ha).2 c hc))
    have hmax : maxLen = 9223372036854775807 := rfl
    refine ⟨(List.range len0).map fun r => .slice (A r) (L r) (C r), (List.range len0).map X, by simp, ?_, ⟨by simp, ?_⟩, ?_, ?_, hl, by omega⟩
    · intro hne
      have h0 : 0 < len0 := by
        rcases len0 with _ | n
        · simp at hne
        · omega
      obtain ⟨b, off, sp⟩ := a
      have hs0 := (hr 0 (by omega)).1
      have hsp : sp = none := by simpa [Addr.add] using World.cell?_spot hs0
      subst hsp
      refine ⟨b, off, rfl, fun i hi => ?_⟩
      have hi2 : i < len0 := by simpa using hi
      have := (hr i (by omega)).1
      rw [add_off] at this
      rw [this]
      simp [hi2]
    · intro i hi
      have hi2 : i < len0 := by simpa using hi
      have := (hX i hi2).2.2
      simpa [hi2] using this
    · intro xs hxs
      obtain ⟨r, hr0, rfl⟩ := List.mem_map.1 hxs
      exact (hX r (List.mem_range.1 hr0)).2.1
    · intro xs hxs
      obtain ⟨r, hr0, rfl⟩ := List.mem_map.1 hxs
      have hr1 := List.mem_range.1 hr0
      rw [(hX r hr1).1, hx]
      obtain ⟨_, r1, r2, r3, r4, r5, r6⟩ := hr r (by omega)
      refine Nat.le_trans ?_ (Nat.le_trans (bulk_in _ (intRow .u8 (A r) (L r) (Z r)) (List.mem_map.2 ⟨r, hr0, rfl⟩)) (bulk_slice _ _))
      unfold intRow
      rcases hA : A r with _ | a'
      · have := r5 hA
        omega
      · simp only
        refine Nat.le_trans ?_ (bulk_slice _ _)
        rw [bulk_lits, List.length_take]
        omega
end Go.Proofs.Ytehgjkckhjggbaa
namespace Go.Proofs.Ytehgjkckhjggbaa
open Go.RowKit Go.Deep Go.ChangeShapes Go.WideShapes
theorem weights_all {H : Type} {P : Program} {e : TypeId} : ∀ (l : List (DataW H)) (d : DataW H), d ∈ l → ∀ n ∈ d.weights P e, n ∈ DataW.weightsAll P e l
  | [], _, h => absurd h (by simp)
  | x :: r, d, h => by
    intro n hn
    show n ∈ x.weights P e ++ DataW.weightsAll P e r
    rcases List.mem_cons.1 h with rfl | h'
    · exact List.mem_append.2 (.inl hn)
    · exact List.mem_append.2 (.inr (weights_all r d h' n hn))
theorem rows_inS {H : Type} {enc : TypeId × Value → H} {W : World} {fuel : Nat} {a0 : Option Addr} {len0 cap0 : Nat} {x : DataW H × List MemPlace}
    (h : DataW.trod enc Try.prog W 0 (fun _ => true) true fuel 42 [.slice a0 len0 cap0] = some x) (hw : ∀ m ∈ x.1.weights Try.prog 42, m ≤ reachBytes) :
    ∃ xss : List (List Nat), IsM W a0 xss ∧ xss.length = len0 ∧ len0 ≤ 140737488351232 ∧ (∀ r ∈ xss, ∀ x ∈ r, x < 256) ∧ (a0 = none → cap0 = 0) ∧ ∀ r ∈ xss, r.length ≤ 140737488351232 := by
  rcases open_int_rows Try.underlying42 Try.underlying23 Try.underlying5 (by kernel_rfl) (by kernel_rfl) h with ⟨hcs, _⟩ | ⟨a, len, cap, A, L, C, Z, hcs, _, hl, hm, hx, hr⟩
  · simp at hcs
    obtain ⟨rfl, rfl, rfl⟩ := hcs
    exact ⟨[], ⟨[], fun h => absurd rfl h, ⟨rfl, fun i hi => absurd hi (by simp)⟩⟩, rfl, Nat.zero_le _, by simp, fun _ => rfl, by simp⟩
  · simp at hcs
    obtain ⟨rfl, rfl, rfl⟩ := hcs
    obtain ⟨X, hX⟩ := choose_rows (n := len0) (p := fun r xs => xs.length = L r ∧ (∀ x ∈ xs, x < 256) ∧ IsB W (.slice (A r) (L r) (C r)) xs) (fun r hr0 => by
      obtain ⟨_, r1, r2, r3, r4, r5, r6⟩ := hr r (by omega)
      exact row_isB r1 r2 r3 r4 r5 (fun a' ha c hc => (r6 a' ha).2 c hc))
    have hmax : maxLen = 9223372036854775807 := rfl
    have hrows : ∀ r, r < len0 → L r ≤ 140737488351232 := fun r hr0 => by
      obtain ⟨_, r1, r2, r3, r4, r5, r6⟩ := hr r (by omega)
      rw [hx] at hw
      rcases hA : A r with _ | a'
      · have := r5 hA
        omega
      · have hin : ∀ m ∈ (intRow (H := H) .u8 (A r) (L r) (Z r)).weights Try.prog 23, m ≤ reachBytes := fun m hm => hw m (by
          simp only [DataW.weights, Try.underlying42]
          exact List.mem_cons_of_mem _ (List.mem_append.2 (.inl (weights_all _ _ (List.mem_map.2 ⟨r, List.mem_range.2 hr0, rfl⟩) m hm))))
        unfold intRow at hin
        rw [hA] at hin
        have := hin (((lits (H := H) .u8 ((Z r).take (L r))).length + (lits (H := H) .u8 ((Z r).drop (L r))).length) * Try.prog.bytesOf 5) (by simp [DataW.weights, Try.underlying23])
        rw [show Try.prog.bytesOf 5 = 1 from (by kernel_rfl)] at this
        simp only [lits, List.length_map, List.length_take, List.length_drop, reachBytes] at this
        omega
    have hlen : len0 ≤ 140737488351232 := by
      rw [hx] at hw
      have := hw ((((List.range len0).map fun r => intRow (H := H) .u8 (A r) (L r) (Z r)).length + ((List.range (cap0 - len0)).map fun j => intRow (H := H) .u8 (A (len0 + j)) (L (len0 + j)) (Z (len0 + j))).length) * Try.prog.bytesOf 23) (by simp [DataW.weights, Try.underlying42])
      rw [show Try.prog.bytesOf 23 = 24 from (by kernel_rfl)] at this
      simp only [List.length_map, List.length_range, reachBytes] at this
      omega
    refine ⟨(List.range len0).map X, ⟨(List.range len0).map fun r => .slice (A r) (L r) (C r), ?_, ⟨by simp, ?_⟩⟩, by simp, hlen, ?_, fun q => (by cases q), ?_⟩
    · intro hne
      have h0 : 0 < len0 := by
        rcases len0 with _ | n
        · simp at hne
        · omega
      obtain ⟨b, off, sp⟩ := a
      have hs0 := (hr 0 (by omega)).1
      have hsp : sp = none := by simpa [Addr.add] using World.cell?_spot hs0
      subst hsp
      refine ⟨b, off, rfl, fun i hi => ?_⟩
      have hi2 : i < len0 := by simpa using hi
      have := (hr i (by omega)).1
      rw [add_off] at this
      rw [this]
      simp [hi2]
    · intro i hi
      have hi2 : i < len0 := by simpa using hi
      have := (hX i hi2).2.2
      simpa [hi2] using this
    · intro xs hxs
      obtain ⟨r, hr0, rfl⟩ := List.mem_map.1 hxs
      exact (hX r (List.mem_range.1 hr0)).2.1
    · intro xs hxs
      obtain ⟨r, hr0, rfl⟩ := List.mem_map.1 hxs
      rw [(hX r (List.mem_range.1 hr0)).1]
      exact hrows r (List.mem_range.1 hr0)
end Go.Proofs.Ytehgjkckhjggbaa
