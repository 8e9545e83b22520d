/- Rows of rows of bytes that came in: read as such; no row is longer than the bulk of what was read. No condition. Rows of rows of bytes that came in, within the  -/
import Derived.Test.YtedlibkkeegnaaaGreatRp7
import Derived.Deep.Matrix
import Derived.ProofKit
namespace Go.Proofs.YtedlibkkeegnaaaGreat
open Go.RowKit Go.Deep Go.ChangeShapes Go.WideShapes
variable {w W : World} {n : Nat}
theorem row_isB {A : Option Addr} {L C : Nat} {zs : List Int} (h1 : L <= C) (h2 : C <= maxLen) (h3 : zs.length = C) (hw : ∀ n ∈ zs, (Lit.int .u8 n).wf = true) (hn : A = none -> C = 0)
  (hc : ∀ a', A = some a' -> ∀ c, c < C -> w.cell? (a'.add c) = some (.int .u8 (zs.getD c 0))) :
  ∃ xs : List Nat, xs.length = L /\ (∀ x ∈ xs, x < 256) /\ IsB w (.slice A L C) xs := by
 rcases A with _ | a
 ·have h0 := hn rfl;subst h0;have hL : L = 0 := by omega
  subst hL;exact ⟨[], rfl, by simp, none, 0, rfl, fun h => absurd rfl h, fun _ => rfl, Nat.le_refl _, by decide⟩
 ·obtain ⟨xs, g1, g2, g3, _⟩ := IsRow.isB (w := w) (a := some a) (len := L) (cap := C) (zs := zs) (.inr ⟨a, rfl, h1, h2, h3, fun i hi => hc a rfl i (by omega), hw⟩);exact ⟨xs, g1, g2, g3⟩
theorem choose_rows {p : Nat -> List Nat -> Prop} (h : ∀ i, i < n -> ∃ x, p i x) : ∃ f : Nat -> List Nat, ∀ i, i < n -> p i (f i) := by
 obtain ⟨f, hf⟩ := choose_lt (α := List Nat) h;exact ⟨f, hf⟩
theorem weights_all {H : Type} {P : Program} {e : TypeId} : ∀ (l : List (DataW H)) (d : DataW H), d ∈ l -> ∀ n ∈ d.weights P e, n ∈ DataW.weightsAll P e l
 | [], _, h => absurd h (by simp)
 | x :: r, d, h => by
  intro n hn
  show n ∈ x.weights P e ++ DataW.weightsAll P e r
  rcases List.mem_cons.1 h with rfl | h'
  ·exact List.mem_append.2 (.inl hn)
  ·exact List.mem_append.2 (.inr (weights_all r d h' n hn))
theorem rows_inS {H : Type} {enc : TypeId × Value -> H} {fuel : Nat} {a0 : Option Addr} {len0 cap0 : Nat} {x : DataW H × List MemPlace}
  (h : DataW.trod enc Tryz.prog W 0 (fun _ => true) true fuel 38 [.slice a0 len0 cap0] = some x) (hw : ∀ m ∈ x.1.weights Tryz.prog 38, m <= reachBytes) :
  ∃ xss : List (List Nat), IsM W a0 xss /\ xss.length = len0 /\ len0 <= 140737488351232 /\ (∀ r ∈ xss, ∀ x ∈ r, x < 256) /\ (a0 = none -> cap0 = 0) /\ ∀ r ∈ xss, r.length <= 140737488351232 := by
 rcases open_int_rows Tryz.underlying38 Tryz.underlying32 Tryz.underlying5 (by kernel_rfl) (by kernel_rfl) h with ⟨hcs, _⟩ | ⟨a, len, cap, A, L, C, Z, hcs, _, hl, hm, hx, hr⟩
 ·simp at hcs;obtain ⟨rfl, rfl, rfl⟩ := hcs;exact ⟨[], ⟨[], fun h => absurd rfl h, ⟨rfl, fun i hi => absurd hi (by simp)⟩⟩, rfl, Nat.zero_le _, by simp, fun _ => rfl, by simp⟩
 ·simp at hcs;obtain ⟨rfl, rfl, rfl⟩ := hcs;obtain ⟨X, hX⟩ := choose_rows (n := len0) (p := fun r xs => xs.length = L r /\ (∀ x ∈ xs, x < 256) /\ IsB W (.slice (A r) (L r) (C r)) xs) (fun r hr0 => by
   obtain ⟨_, r1, r2, r3, r4, r5, r6⟩ := hr r (by omega);exact row_isB r1 r2 r3 r4 r5 (fun a' ha c hc => (r6 a' ha).2 c hc))
  have hmax : maxLen = 9223372036854775807 := rfl;have hrows : ∀ r, r < len0 -> L r <= 140737488351232 := fun r hr0 => by
   obtain ⟨_, r1, r2, r3, r4, r5, r6⟩ := hr r (by omega);rw [hx] at hw;rcases hA : A r with _ | a'
   ·have := r5 hA;omega
   ·have hin : ∀ m ∈ (intRow (H := H) .u8 (A r) (L r) (Z r)).weights Tryz.prog 32, m <= reachBytes := fun m hm => hw m (by
     simp only [DataW.weights, Tryz.underlying38];exact List.mem_cons_of_mem _ (List.mem_append.2 (.inl (weights_all _ _ (List.mem_map.2 ⟨r, List.mem_range.2 hr0, rfl⟩) m hm))))
    unfold intRow at hin;rw [hA] at hin;have := hin (((lits (H := H) .u8 ((Z r).take (L r))).length + (lits (H := H) .u8 ((Z r).drop (L r))).length) * Tryz.prog.bytesOf 5) (by simp [DataW.weights, Tryz.underlying32]);rw [show Tryz.prog.bytesOf 5 = 1 from (by kernel_rfl)] at this;simp only [lits, List.length_map, List.length_take, List.length_drop, reachBytes] at this;omega
  have hlen : len0 <= 140737488351232 := by
   rw [hx] at hw;have := hw ((((List.range len0).map fun r => intRow (H := H) .u8 (A r) (L r) (Z r)).length + ((List.range (cap0 - len0)).map fun j => intRow (H := H) .u8 (A (len0 + j)) (L (len0 + j)) (Z (len0 + j))).length) * Tryz.prog.bytesOf 32) (by simp [DataW.weights, Tryz.underlying38]);rw [show Tryz.prog.bytesOf 32 = 24 from (by kernel_rfl)] at this;simp only [List.length_map, List.length_range, reachBytes] at this;omega
  refine ⟨(List.range len0).map X, ⟨(List.range len0).map fun r => .slice (A r) (L r) (C r), ?_, ⟨by simp, ?_⟩⟩, by simp, hlen, ?_, fun q => (by cases q), ?_⟩
  ·intro hne;have h0 : 0 < len0 := by
    rcases len0 with _ | n
    ·simp at hne
    ·omega
   obtain ⟨b, off, sp⟩ := a;have hs0 := (hr 0 (by omega)).1;have hsp : sp = none := by simpa [Addr.add] using World.cell?_spot hs0
   subst hsp;refine ⟨b, off, rfl, fun i hi => ?_⟩;have hi2 : i < len0 := by simpa using hi
   have := (hr i (by omega)).1;rw [add_off] at this;rw [this];simp [hi2]
  ·intro i hi;have hi2 : i < len0 := by simpa using hi
   have := (hX i hi2).2.2;simpa [hi2] using this
  ·intro xs hxs;obtain ⟨r, hr0, rfl⟩ := List.mem_map.1 hxs;exact (hX r (List.mem_range.1 hr0)).2.1
  ·intro xs hxs;obtain ⟨r, hr0, rfl⟩ := List.mem_map.1 hxs;rw [(hX r (List.mem_range.1 hr0)).1];exact hrows r (List.mem_range.1 hr0)
end Go.Proofs.YtedlibkkeegnaaaGreat
