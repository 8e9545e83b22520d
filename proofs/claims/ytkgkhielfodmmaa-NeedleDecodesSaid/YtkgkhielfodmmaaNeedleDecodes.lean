/- Whatever the bytes, needle.Decode answers as the document's own Decode does (the needle, how many bytes it takes, the error), keeps the bytes as they were, and what it answers is new memory. No conditions of ours. -/
import Derived.SizedLaws
import Derived.Test.YtkgkhielfodmmaaRows
import Derived.WalkKit
import Derived.ProofKit
import Derived.OpenShut
import Derived.ShutString
import Derived.ChangeOld
import Derived.Below
import Derived.Test.YtkgkhielfodmmaaOpenNdl
import Derived.Test.YtkgkhielfodmmaaWalkNdD
namespace Go.Proofs.Ytkgkhielfodmmaa
open Go.ChangeShapes Go.WideShapes Go.ChangeAt Go.RowKit
open Go.ChangeMaps (open_string shut_string)
set_option linter.unusedVariables false
theorem needleDecodes_own : ownKnob Try.prog.godebug = none := by kernel_rfl
theorem needleDecodes_laidOut : laidOutB Try.prog = true := by kernel_rfl
set_option maxRecDepth 100000 in
theorem needleDecodes_lifted (os : Os) (started : os.Started) (H : Type) (enc : TypeId × Value → H) :
    ReturnsInHanded {} Try.checked os 4 .any (Rows.needleDecodesSpec.pre6 enc Try.prog Try.f4 Rows.needleDecodesRow.domain false) (Rows.needleDecodesSpec.post enc Try.prog Try.f4 false true false false) := by
  refine returnsInHanded_of_change_sized (C := Try.checked) needleDecodes_own started (by kernel_rfl) Try.func4
    (ChangeSpec.witness6 (enc := enc) (C := Try.checked) false ⟨#[], #[.slice none 0 0], []⟩ 8 (by kernel_rfl) (by kernel_rfl) (by kernel_rfl) (by kernel_rfl)) ?_
  intro W base args ds gs before hval0 hW hcnd hsz0 _
  have hsz : (DataW.weightsEach Try.prog (Try.f4.params.toList ++ Rows.needleDecodesSpec.plain.varTypes Try.prog) (ds ++ gs)).all (· ≤ reachBytes) = true := hsz0
  clear hsz0
  have hval : ∀ (j : Nat) t v, Try.f4.params[j]? = some t → args[j]? = some v → Value.okWide Try.prog W .any base t v := hval0
  have hW' := hW
  obtain ⟨p, q, hA0, hV, rfl, hfz, hnd⟩ := hW
  have hA : DataW.TrodAll enc Try.prog W 0 (fun _ => true) true Try.f4.params.toList args.toList ds p := hA0
  rw [Try.params4] at hA hval hsz
  obtain ⟨v0, vs0, d0, ds0, p0, q0, hargs, rfl, rfl, h0, r0⟩ := trodAll_cons hA
  obtain ⟨rfl, rfl, rfl⟩ := trodAll_nil r0
  obtain rfl : args = #[v0] := by cases args; simp_all
  obtain ⟨rfl, rfl⟩ := trodVars_none hV
  obtain ⟨a0, len0, cap0, rfl⟩ := okWide_slice Try.underlying24 (hval 0 24 v0 rfl rfl)
  have k0 := h0
  have lt0 : ∀ x ∈ p0, x.block < W.heap.size := by obtain ⟨m, hm⟩ := k0; exact DataW.trod_lt m _ _ _ hm
  obtain ⟨x0, n0, y0, w0, l0⟩ : ∃ xs : List Nat, xs.length = len0 ∧ (∀ x ∈ xs, x < 256) ∧ IsB W (.slice a0 len0 cap0) xs ∧ len0 ≤ 140737488351232 := by
    obtain ⟨fuel, hf⟩ := h0
    have g : ∀ m ∈ d0.weights Try.prog 24, m ≤ reachBytes := fun m hm => by
      have := List.all_eq_true.1 hsz m (DataW.weights_mem_each (j := 0) (t := 24) rfl rfl m hm)
      simpa using this
    obtain ⟨a, l, c, zs, e, hr, hb⟩ := open_rowN (v := .slice a0 len0 cap0) (y := (d0, p0)) Try.underlying24 Try.underlying5 (by kernel_rfl) (bytes := 1) (by kernel_rfl) (by decide) (by simpa [Value.cells] using hf) g
    cases e
    obtain ⟨xs, g1, g2, g3, _⟩ := hr.isB
    exact ⟨xs, g1, g2, g3, hb⟩
  clear hA0 hval0
  refine (needleDecodes_walk a0 len0 cap0 x0 W w0 n0 y0 l0).mono fun e W' ⟨he, bel⟩ => ?_
  subst he
  exact ⟨_, rfl, _, _, _, [], _, [], hW', trodAll_mk1 (shut_bool Try.underlying4 _), (trodAll_cons_mk (Below.trod needleDecodes_laidOut (by kernel_rfl) (of_decide_eq_true (by kernel_rfl)) k0 bel lt0) trodAll_mk0), rfl, bel.frame _, fun h => by cases h⟩
theorem needleDecodes_over : Rows.needleDecodesRow.holds Try.pinned (OpenSpec.ofChange Rows.needleDecodesSpec) :=
  OpenClaim.holds_of_wide 4 Try.f4 rfl rfl rfl rfl rfl rfl rfl ⟨rfl, rfl, rfl, rfl, rfl⟩ rfl rfl rfl rfl rfl (by kernel_rfl) Try.func4 (by kernel_rfl)
    (of_decide_eq_true (by kernel_rfl)) (by unfold Func.isWrapper; first | (rw [if_pos (by decide +kernel)]; kernel_rfl) | (rw [if_neg (by decide +kernel)]; exact ⟨rfl, rfl⟩))
    (fun os started H enc _ => needleDecodes_lifted os started H enc)
theorem needleDecodes_proved : Rows.NeedleDecodesSaid := needleDecodes_over
#print axioms needleDecodes_proved
end Go.Proofs.Ytkgkhielfodmmaa
