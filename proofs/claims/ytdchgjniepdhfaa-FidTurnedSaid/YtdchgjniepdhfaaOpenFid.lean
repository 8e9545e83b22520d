/- How a file id that came in is opened: three numbers. -/
import Derived.Test.YtdchgjniepdhfaaFdText
import Derived.ProofKit
import Derived.OpenShut
import Derived.Lib.SmallJoins
namespace Go.Proofs.Ytdchgjniepdhfaa
open Go.ChangeShapes Go.WideShapes Go.ChangeAt Go.RowKit Go.Joins Go.Deep
theorem Try.cells_fid : Try.prog.cellsOf 25 = 3 := by kernel_rfl
set_option maxRecDepth 100000 in
theorem open_fid {H : Type} {enc : TypeId × Value → H} {w : World} {r : Reach} {b0 : Nat} {v : Value} {d : DataW H} {p : List MemPlace} (hv : Value.okWide Try.prog w r b0 25 v) (h : DataW.Trod enc Try.prog w 0 (fun _ => true) true 25 v d p) :
    ∃ (z : Int) (k c : Nat), v = fdV z k c ∧ (Lit.int .i64 z).wf = true ∧ k < 18446744073709551616 ∧ c < 4294967296 := by
  obtain ⟨v0, v1, v2, y0, y1, y2, n, rfl, rfl, _, h0, h1, h2⟩ := open_agg3 Try.underlying25 (by kernel_rfl) Try.cells_fid hv h
  obtain ⟨z, e0, _, k0⟩ := DataW.trod_int Try.underlying3 h0
  obtain ⟨k, e1, _, k1⟩ := DataW.trod_int Try.underlying22 h1
  obtain ⟨c, e2, _, k2⟩ := DataW.trod_int Try.underlying23 h2
  simp only [List.cons.injEq, and_true] at e0 e1 e2
  have b1 : 0 ≤ k ∧ k ≤ 18446744073709551615 := bounds_u64 k1
  have b2 : 0 ≤ c ∧ c ≤ 4294967295 := bounds_u32 k2
  subst e0; subst e1; subst e2
  refine ⟨z, k.toNat, c.toNat, ?_, k0, by omega, by omega⟩
  unfold fdV
  have x1 : ((k.toNat : Nat) : Int) = k := by omega
  have x2 : ((c.toNat : Nat) : Int) = c := by omega
  rw [x1, x2]
end Go.Proofs.Ytdchgjniepdhfaa
