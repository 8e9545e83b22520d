/- The contract of the disk's List: the names, rising. No condition. -/
import Derived.Test.YtedlibkkeegnaaaGreatRp19
import Derived.Test.YtedlibkkeegnaaaGreatRp21
namespace Go.Proofs.YtedlibkkeegnaaaGreat
open Go.RowKit Go.Maps Go.Sort
variable {w : World} {B n : Nat}
def OwnS (w : World) (B : Nat) (v : Value) (ks : List Str) : Prop := w.ownsRow B 9 1 v ks.length (ks.map encStr)
theorem ownsRow_down {B' : Nat} {e : TypeId} {size : Nat} {v : Value} {xs : List Value} (h : w.ownsRow B e size v n xs) (hb : B' <= B) : w.ownsRow B' e size v n xs := by
 refine ⟨h.1, ?_⟩;rcases h.2 with hn | ⟨g, cap, cur, hv, h1, r⟩
 ·exact .inl hn
 ·exact .inr ⟨g, cap, cur, hv, Nat.le_trans hb h1, r⟩
theorem list_any (F : Nat -> Prop) (d room : Nat) (L : DiskL) (w : World) (hD : DiskAt w F d room L) :
  Calls Tryz.prog 27 #[.pointer (some ⟨d, 0, none⟩)] w fun e w' => ∃ v, e = .returned v /\ OwnS w' w.heap.size v (L.map (·.1)) /\ Below w.heap.size w w' := by
 obtain ⟨X, rfl, hS, hf⟩ := hD;have hab : (absX X).map (·.1) = X.map (·.1) := by unfold absX mapK; rw [List.map_map]; rfl
 rw [hab];obtain ⟨mv, hB, hm⟩ := hS.cells;have c2 : w.cell? ⟨d, 2, none⟩ = some (.map mv) := hB.cell 2;have fin : ∀ (v : Value) (ss : List Str) (W w' : World), Below w.heap.size w W -> ss.Perm (X.map (·.1)) -> w'.ownsRow W.heap.size 9 1 v ss.length ((ss.mergeSort (fun x y => decide (x <= y))).map encStr) -> Below W.heap.size W w' -> OwnS w' w.heap.size v (X.map (·.1)) /\ Below w.heap.size w w' := by
  intro v ss W w' hW hp hrow hb;rw [rise_sorted hS.rise hp, hp.length_eq] at hrow;exact ⟨ownsRow_down hrow hW.size, below_step hW hb⟩
 have FIN := hide fin;have KS := hide (fun W => callsIn_wide.1 (Tryz.maps_keys_any mv W));have hcall : Calls Tryz.prog 55 #[.func (.func 81) #[] #[.pointer (some ⟨w.heap.size, 0, none⟩)]] (w.alloc (.cells #[.map mv] 50)) fun e w' => ∃ v, e = .returned v /\ OwnS w' w.heap.size v (X.map (·.1)) /\ Below w.heap.size w w' := by
  have hW : Below w.heap.size w (w.alloc (.cells #[.map mv] 50)) := below_alloc _ _;rcases hm with ⟨rfl, rfl⟩ | ⟨b, rfl, _, hm⟩
  ·refine (callsIn_wide.1 (Tryz.sorted_keys_nil w)).mono ?_;rintro e w' ⟨v, ss, rfl, rfl, hrow, _, hb⟩;exact ⟨v, rfl, FIN.out v [] _ w' hW (List.Perm.refl _) hrow hb⟩
  ·have hl := hS.few;refine (callsIn_wide.1 (Tryz.sorted_keys_any b X.length (strP filV X) tok w hm (by rw [strP_size]; unfold maxLen; omega) (by rw [strP_size]; omega))).mono ?_;rintro e w' ⟨v, ss, rfl, hp, hrow, _, hb⟩;rw [strP_keys] at hp;exact ⟨v, rfl, FIN.out v ss _ w' hW hp hrow hb⟩
 have HC := hide hcall;clear hcall hm hS hf hB fin hab;go_enter Tryz.func27, Tryz.ntmps27;go_wp2_with fail
 refine (KS.out _).mono ?_;rintro e w1 ⟨rfl, rfl⟩;go_wp2_with fail
 refine HC.out.mono ?_;rintro e w2 ⟨v, rfl, h2⟩;go_wp2_with fail
 go_ret;exact ⟨v, rfl, h2⟩
end Go.Proofs.YtedlibkkeegnaaaGreat
