/- Maps whose keys are arrays: what a look-up and a store of a new key do. It names nothing of the program. -/
import Derived.Test.YtpjocddeiehckaaDoorPr1
import Derived.WideKeyArr
import Derived.WideKeyElems
import Derived.RangeFuncRecord
namespace Go.Proofs.YtpjocddeiehckaaDoor
open Go.RowKit Go.WideMaps
theorem mapM_some {α β : Type} {f : α → Option β} : ∀ (l : List α), (∀ a ∈ l, ∃ b, f a = some b) → ∃ bs, l.mapM f = some bs
  | [], _ => ⟨[], rfl⟩
  | a :: l, h => by
    obtain ⟨b, hb⟩ := h a List.mem_cons_self
    obtain ⟨bs, hbs⟩ := mapM_some l (fun x hx => h x (List.mem_cons_of_mem _ hx))
    exact ⟨b :: bs, by simp [List.mapM_cons, hb, hbs]⟩
section
variable {P : Program} {k e t : TypeId} {w : World} {b clock : Nat} {es : Array MapEntry}
theorem map_lookup (K : KeyLaw P k) (ht : P.underlying t = some (.map k e)) {z : Value} (hz : (zeroValue e).run P w = .ok z w) (hb : w.heap[b]? = some (.map es clock)) (hks : ∀ x ∈ es.toList, ∃ l, keyOf P k x.key = some l) {key : Value} {kl : Lit} (hkey : keyOf P k key = some kl) :
    ((Instr.findKey k key es.toList).run P w = .ok none w ∧ (Instr.lookup t (.map (some b)) key true).run P w = .ok (.tuple #[z, .bool false]) w) ∨
    ∃ x ∈ es.toList, (Instr.lookup t (.map (some b)) key true).run P w = .ok (.tuple #[x.val, .bool true]) w ∧ x.key = key := by
  rcases K.find w hkey es.toList hks with ⟨h1, h2⟩ | ⟨j, e0, h1, h2, h3⟩
  · exact Or.inl ⟨h1, by simp [Instr.lookup, run_underlying ht, MapKept.run_getObj_map hb, K.check w _ hkey, h1, hz, Result.andThen]⟩
  · exact Or.inr ⟨e0, List.mem_of_getElem? h2, by simp [Instr.lookup, run_underlying ht, MapKept.run_getObj_map hb, K.check w _ hkey, h1, Result.andThen], h3⟩
/-- Whether a key is found does not hang on anything but the map. -/
theorem find_none (K : KeyLaw P k) (hks : ∀ x ∈ es.toList, ∃ l, keyOf P k x.key = some l) {key : Value} {kl : Lit} (hkey : keyOf P k key = some kl) (h : (Instr.findKey k key es.toList).run P w = .ok none w) (w' : World) : (Instr.findKey k key es.toList).run P w' = .ok none w' := by
  rcases K.find w hkey es.toList hks with ⟨_, h2⟩ | ⟨j, e0, h1, _, _⟩
  · rcases K.find w' hkey es.toList hks with ⟨h1, _⟩ | ⟨j, e0, _, h3, h4⟩
    · exact h1
    · exact absurd h4 (h2 e0 (List.mem_of_getElem? h3))
  · rw [h] at h1; cases h1
theorem map_insert (K : KeyLaw P k) (ht : P.underlying t = some (.map k e)) (hb : w.heap[b]? = some (.map es clock)) {key : Value} {kl : Lit} (hkey : keyOf P k key = some kl) (hf : (Instr.findKey k key es.toList).run P w = .ok none w) (v : Value) :
    (Instr.mapUpdate t (.map (some b)) key v).run P w = .ok () (w.putObj b (.map (es.push { key, val := v, born := clock }) (clock + 1))) := by
  simp [Instr.mapUpdate, run_underlying ht, MapKept.run_getObj_map hb, K.check w _ hkey, hf, MapKept.run_setObj_map _ hb, Result.andThen, World.putObj]
end
end Go.Proofs.YtpjocddeiehckaaDoor
