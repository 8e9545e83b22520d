/- A shard as a file, and what any bytes say as one. -/
import Derived.SizedLaws
import Derived.Test.YtehgjkckhjggbaaRows
import Derived.WalkKit
import Derived.ProofKit
import Derived.OpenShut
import Derived.ShutString
import Derived.ChangeOld
import Derived.Below
import Derived.Test.YtehgjkckhjggbaaSf14
import Derived.Test.YtehgjkckhjggbaaSf21
namespace Go.Proofs.Ytehgjkckhjggbaa
open Go.ChangeShapes Go.WideShapes Go.ChangeAt Go.RowKit
open Go.ChangeMaps (open_string shut_string)
set_option linter.unusedVariables false
theorem stripFiles_own : ownKnob Try.prog.godebug = none := by kernel_rfl
theorem stripFiles_laidOut : laidOutB Try.prog = true := by kernel_rfl
set_option maxRecDepth 100000 in
theorem stripFiles_lifted (os : Os) (started : os.Started) (H : Type) (enc : TypeId × Value → H) :
    ReturnsInHanded {} Try.checked os 8 .any (Rows.stripFilesSpec.pre6 enc Try.prog Try.f8 Rows.stripFilesRow.domain false) (Rows.stripFilesSpec.post enc Try.prog Try.f8 false true false false) := by
  refine returnsInHanded_of_change_sized (C := Try.checked) stripFiles_own started (by kernel_rfl) Try.func8
    (ChangeSpec.witness6 (enc := enc) (C := Try.checked) false ⟨#[], #[.int .i64 0, .int .i64 0, .int .i64 0, .slice none 0 0, .slice none 0 0], []⟩ 8 (by kernel_rfl) (by kernel_rfl) (by kernel_rfl) (by kernel_rfl)) ?_
  intro W base args ds gs before hval0 hW hcnd hsz0 _
  have hsz : (DataW.weightsEach Try.prog (Try.f8.params.toList ++ Rows.stripFilesSpec.plain.varTypes Try.prog) (ds ++ gs)).all (· ≤ reachBytes) = true := hsz0
  clear hsz0
  have hval : ∀ (j : Nat) t v, Try.f8.params[j]? = some t → args[j]? = some v → Value.okWide Try.prog W .any base t v := hval0
  have hW' := hW
  obtain ⟨p, q, hA0, hV, rfl, hfz, hnd⟩ := hW
  have hA : DataW.TrodAll enc Try.prog W 0 (fun _ => true) true Try.f8.params.toList args.toList ds p := hA0
  rw [Try.params8] at hA hval hsz
  obtain ⟨v0, vs0, d0, ds0, p0, q0, hargs, rfl, rfl, h0, r0⟩ := trodAll_cons hA
  obtain ⟨v1, vs1, d1, ds1, p1, q1, rfl, rfl, rfl, h1, r1⟩ := trodAll_cons r0
  obtain ⟨v2, vs2, d2, ds2, p2, q2, rfl, rfl, rfl, h2, r2⟩ := trodAll_cons r1
  obtain ⟨v3, vs3, d3, ds3, p3, q3, rfl, rfl, rfl, h3, r3⟩ := trodAll_cons r2
  obtain ⟨v4, vs4, d4, ds4, p4, q4, rfl, rfl, rfl, h4, r4⟩ := trodAll_cons r3
  obtain ⟨rfl, rfl, rfl⟩ := trodAll_nil r4
  obtain rfl : args = #[v0, v1, v2, v3, v4] := by cases args; simp_all
  obtain ⟨rfl, rfl⟩ := trodVars_none hV
  obtain ⟨a0, rfl, rfl, rfl, w0⟩ := open_int Try.underlying3 (hval 0 3 v0 rfl rfl) h0
  obtain ⟨a1, rfl, rfl, rfl, w1⟩ := open_int Try.underlying3 (hval 1 3 v1 rfl rfl) h1
  obtain ⟨a2, rfl, rfl, rfl, w2⟩ := open_int Try.underlying3 (hval 2 3 v2 rfl rfl) h2
  obtain ⟨a3, len3, cap3, rfl⟩ := okWide_slice Try.underlying23 (hval 3 23 v3 rfl rfl)
  have k3 := h3
  have lt3 : ∀ x ∈ p3, x.block < W.heap.size := by obtain ⟨m, hm⟩ := k3; exact DataW.trod_lt m _ _ _ hm
  obtain ⟨x3, n3, y3, w3, l3⟩ : ∃ xs : List Nat, xs.length = len3 ∧ (∀ x ∈ xs, x < 256) ∧ IsB W (.slice a3 len3 cap3) xs ∧ len3 ≤ 140737488351232 := by
    obtain ⟨fuel, hf⟩ := h3
    have g : ∀ m ∈ d3.weights Try.prog 23, m ≤ reachBytes := fun m hm => by
      have := List.all_eq_true.1 hsz m (DataW.weights_mem_each (j := 3) (t := 23) rfl rfl m hm)
      simpa using this
    obtain ⟨a, l, c, zs, e, hr, hb⟩ := open_rowN (v := .slice a3 len3 cap3) (y := (d3, p3)) Try.underlying23 Try.underlying5 (by kernel_rfl) (bytes := 1) (by kernel_rfl) (by decide) (by simpa [Value.cells] using hf) g
    cases e
    obtain ⟨xs, g1, g2, g3, _⟩ := hr.isB
    exact ⟨xs, g1, g2, g3, hb⟩
  obtain ⟨a4, len4, cap4, rfl⟩ := okWide_slice Try.underlying23 (hval 4 23 v4 rfl rfl)
  have k4 := h4
  have lt4 : ∀ x ∈ p4, x.block < W.heap.size := by obtain ⟨m, hm⟩ := k4; exact DataW.trod_lt m _ _ _ hm
  obtain ⟨x4, n4, y4, w4, l4⟩ : ∃ xs : List Nat, xs.length = len4 ∧ (∀ x ∈ xs, x < 256) ∧ IsB W (.slice a4 len4 cap4) xs ∧ len4 ≤ 140737488351232 := by
    obtain ⟨fuel, hf⟩ := h4
    have g : ∀ m ∈ d4.weights Try.prog 23, m ≤ reachBytes := fun m hm => by
      have := List.all_eq_true.1 hsz m (DataW.weights_mem_each (j := 4) (t := 23) rfl rfl m hm)
      simpa using this
    obtain ⟨a, l, c, zs, e, hr, hb⟩ := open_rowN (v := .slice a4 len4 cap4) (y := (d4, p4)) Try.underlying23 Try.underlying5 (by kernel_rfl) (bytes := 1) (by kernel_rfl) (by decide) (by simpa [Value.cells] using hf) g
    cases e
    obtain ⟨xs, g1, g2, g3, _⟩ := hr.isB
    exact ⟨xs, g1, g2, g3, hb⟩
  clear hA0 hval0
  refine (stripFiles_walk a0 a1 a2 a3 len3 cap3 x3 a4 len4 cap4 x4 W w0 w1 w2 w3 n3 y3 l3 w4 n4 y4 l4).mono fun e W' ⟨he, bel⟩ => ?_
  subst he
  exact ⟨_, rfl, _, _, _, [], _, [], hW', trodAll_mk1 (shut_bool Try.underlying4 _), (trodAll_cons_mk (shut_int Try.underlying3 w0) (trodAll_cons_mk (shut_int Try.underlying3 w1) (trodAll_cons_mk (shut_int Try.underlying3 w2) (trodAll_cons_mk (Below.trod stripFiles_laidOut (by kernel_rfl) (of_decide_eq_true (by kernel_rfl)) k3 bel lt3) (trodAll_cons_mk (Below.trod stripFiles_laidOut (by kernel_rfl) (of_decide_eq_true (by kernel_rfl)) k4 bel lt4) trodAll_mk0))))), rfl, bel.frame _, fun h => by cases h⟩
theorem stripFiles_over : Rows.stripFilesRow.holds Try.pinned (OpenSpec.ofChange Rows.stripFilesSpec) :=
  OpenClaim.holds_of_wide 8 Try.f8 rfl rfl rfl rfl rfl rfl rfl ⟨rfl, rfl, rfl, rfl, rfl⟩ rfl rfl rfl rfl rfl (by kernel_rfl) Try.func8 (by kernel_rfl)
    (of_decide_eq_true (by kernel_rfl)) (by unfold Func.isWrapper; first | (rw [if_pos (by decide +kernel)]; kernel_rfl) | (rw [if_neg (by decide +kernel)]; exact ⟨rfl, rfl⟩))
    (fun os started H enc _ => stripFiles_lifted os started H enc)
theorem stripFiles_proved : Rows.StripFilesSaid := stripFiles_over
#print axioms stripFiles_proved
end Go.Proofs.Ytehgjkckhjggbaa
