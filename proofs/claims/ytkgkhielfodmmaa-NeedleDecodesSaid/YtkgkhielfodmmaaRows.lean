/-
  No cell of these rows narrows 'for every input' (looked for: loops, veiled, ifaces, maps, wideKeys, modest, calm, conditions, laid).
  DERIVED. THE GIVEN ROWS OF THIS SEAT. 5 by the template 'for every input the law returns true; each argument reads behind the call as it read before'; 0 by the template 'total and deterministic' (their statements: YtkgkhielfodmmaaTotals.lean).
  GIVEN WITH THE SEED: the statements are not yours to turn. If you find one false, say at which input.
  Laid BY PROGRAM, IN A SANDBOX (cutbox-rows.mjs): the forced cells as the released guide's own fill.sh prints them over the translation a88cc654025002a1… (all of the seat's roots in one cut). By AI agents, Wed Nov 11 2026. No macro, syntax, notation, axiom, sorry.
-/
import Derived.Test.YtkgkhielfodmmaaChecked
import GoSem.Claim
import GoSem.ClaimJoined
import GoSem.ClaimMapViews
import Derived.JoinedTies
import Derived.KernelRfl
namespace Go.Proofs.Ytkgkhielfodmmaa
/- THE CELL 'sum', in the pinned program and in every row, IS THE sha256 OF THE DUMP (.gsa) THAT YtkgkhielfodmmaaProg.lean LOADS. Nothing in Lean hashes anything: it is a label: what it is worth is what the hold of that sum in a sandbox is worth. -/
noncomputable def Try.pinned : Pinned := { name := "ytkgkhielfodmmaa", sum := "a88cc654025002a1a72fe7cc6596dc2f0377dc2e1291238142f88b69fa7c148b", checked := Try.checked }
namespace Rows
def none {H : Type} : Left H := { results := [], args := [] }

/-- 'garnerlaw11.NeedleEncodes': WHATEVER THE INPUT: true; the input reads as it did. -/
def needleEncodesSpec : ChangeSpec := { name := "needleEncodes", fn := fun _ => fun
  | [d] => { results := [.lit (.bool true)], args := [d] }
  | _ => none }
def needleEncodesRow : OpenClaim := { program := "ytkgkhielfodmmaa", sum := "a88cc654025002a1a72fe7cc6596dc2f0377dc2e1291238142f88b69fa7c148b", func := "garner/garnerlaw11.NeedleEncodes", spec := "needleEncodes", apart := false }
def NeedleEncodesSaid : Prop := needleEncodesRow.holds Try.pinned (OpenSpec.ofChange needleEncodesSpec)

/-- ITS FALSE NEIGHBOUR: 'it returns false'. Refute it at one input. -/
def needleEncodesWrong : ChangeSpec := { name := "needleEncodes", fn := fun _ => fun
  | [d] => { results := [.lit (.bool false)], args := [d] }
  | _ => none }
def NeedleEncodesWrongFalsely : Prop := needleEncodesRow.holds Try.pinned (OpenSpec.ofChange needleEncodesWrong)

/-- 'garnerlaw11.NeedleDecodes': WHATEVER THE INPUT: true; the input reads as it did. -/
def needleDecodesSpec : ChangeSpec := { name := "needleDecodes", fn := fun _ => fun
  | [d] => { results := [.lit (.bool true)], args := [d] }
  | _ => none }
def needleDecodesRow : OpenClaim := { program := "ytkgkhielfodmmaa", sum := "a88cc654025002a1a72fe7cc6596dc2f0377dc2e1291238142f88b69fa7c148b", func := "garner/garnerlaw11.NeedleDecodes", spec := "needleDecodes", apart := false }
def NeedleDecodesSaid : Prop := needleDecodesRow.holds Try.pinned (OpenSpec.ofChange needleDecodesSpec)

/-- ITS FALSE NEIGHBOUR: 'it returns false'. Refute it at one input. -/
def needleDecodesWrong : ChangeSpec := { name := "needleDecodes", fn := fun _ => fun
  | [d] => { results := [.lit (.bool false)], args := [d] }
  | _ => none }
def NeedleDecodesWrongFalsely : Prop := needleDecodesRow.holds Try.pinned (OpenSpec.ofChange needleDecodesWrong)

/-- 'garnerlaw11.NeedleBack': WHATEVER THE INPUT: true; the input reads as it did. -/
def needleBackSpec : ChangeSpec := { name := "needleBack", fn := fun _ => fun
  | [d1, d2, d3, d4] => { results := [.lit (.bool true)], args := [d1, d2, d3, d4] }
  | _ => none }
def needleBackRow : OpenClaim := { program := "ytkgkhielfodmmaa", sum := "a88cc654025002a1a72fe7cc6596dc2f0377dc2e1291238142f88b69fa7c148b", func := "garner/garnerlaw11.NeedleBack", spec := "needleBack", apart := false }
def NeedleBackSaid : Prop := needleBackRow.holds Try.pinned (OpenSpec.ofChange needleBackSpec)

/-- ITS FALSE NEIGHBOUR: 'it returns false'. Refute it at one input. -/
def needleBackWrong : ChangeSpec := { name := "needleBack", fn := fun _ => fun
  | [d1, d2, d3, d4] => { results := [.lit (.bool false)], args := [d1, d2, d3, d4] }
  | _ => none }
def NeedleBackWrongFalsely : Prop := needleBackRow.holds Try.pinned (OpenSpec.ofChange needleBackWrong)

/-- 'garnerlaw11.NeedleSizes': WHATEVER THE INPUT: true; the input reads as it did. -/
def needleSizesSpec : ChangeSpec := { name := "needleSizes", fn := fun _ => fun
  | [d] => { results := [.lit (.bool true)], args := [d] }
  | _ => none }
def needleSizesRow : OpenClaim := { program := "ytkgkhielfodmmaa", sum := "a88cc654025002a1a72fe7cc6596dc2f0377dc2e1291238142f88b69fa7c148b", func := "garner/garnerlaw11.NeedleSizes", spec := "needleSizes", apart := false }
def NeedleSizesSaid : Prop := needleSizesRow.holds Try.pinned (OpenSpec.ofChange needleSizesSpec)

/-- ITS FALSE NEIGHBOUR: 'it returns false'. Refute it at one input. -/
def needleSizesWrong : ChangeSpec := { name := "needleSizes", fn := fun _ => fun
  | [d] => { results := [.lit (.bool false)], args := [d] }
  | _ => none }
def NeedleSizesWrongFalsely : Prop := needleSizesRow.holds Try.pinned (OpenSpec.ofChange needleSizesWrong)

/-- 'garnerlaw11.NeedleCuts': WHATEVER THE INPUT: true; the input reads as it did. -/
def needleCutsSpec : ChangeSpec := { name := "needleCuts", fn := fun _ => fun
  | [d1, d2] => { results := [.lit (.bool true)], args := [d1, d2] }
  | _ => none }
def needleCutsRow : OpenClaim := { program := "ytkgkhielfodmmaa", sum := "a88cc654025002a1a72fe7cc6596dc2f0377dc2e1291238142f88b69fa7c148b", func := "garner/garnerlaw11.NeedleCuts", spec := "needleCuts", apart := false }
def NeedleCutsSaid : Prop := needleCutsRow.holds Try.pinned (OpenSpec.ofChange needleCutsSpec)

/-- ITS FALSE NEIGHBOUR: 'it returns false'. Refute it at one input. -/
def needleCutsWrong : ChangeSpec := { name := "needleCuts", fn := fun _ => fun
  | [d1, d2] => { results := [.lit (.bool false)], args := [d1, d2] }
  | _ => none }
def NeedleCutsWrongFalsely : Prop := needleCutsRow.holds Try.pinned (OpenSpec.ofChange needleCutsWrong)

/- THE SECOND FORM. 'bulk': how many values and letters a reading holds, each counted each time it is reached (what is shared counts as often as it is met; a slice's spare places count too). A statement '..UptoSaid' is the law's where the arguments, and the package variables that the reading takes, are together of bulk at most 1048576: NARROWER than '..Said'. Prove '..Said' where nothing that the law and all that it calls make is longer than what came in: it says more and counts as full. Else prove '..UptoSaid'. A law counts once. -/
mutual
def uptoBulk {H : Type} : DataW H → Nat
  | .lit (.string bytes) => bytes.length + 1
  | .lit _ => 1
  | .nil => 1
  | .ptr d => uptoBulk d + 1
  | .slice elems spare => uptoBulkAll elems + uptoBulkAll spare + 1
  | .agg parts => uptoBulkAll parts + 1
  | .iface _ d => uptoBulk d + 1
  | .map entries => uptoBulkEntries entries + 1
  | .held _ => 1
def uptoBulkAll {H : Type} : List (DataW H) → Nat
  | [] => 0
  | d :: r => uptoBulk d + uptoBulkAll r
def uptoBulkEntries {H : Type} : List (Lit × DataW H) → Nat
  | [] => 0
  | x :: r => uptoBulkEntry x + uptoBulkEntries r
def uptoBulkEntry {H : Type} : Lit × DataW H → Nat
  | (.string bytes, d) => bytes.length + uptoBulk d + 1
  | (_, d) => uptoBulk d + 1
 end
def uptoSmall : (H : Type) → List (DataW H) → Bool := fun _ ds => decide (uptoBulkAll ds ≤ 1048576)
def OpenSpec.upto (s : _root_.Go.ChangeSpec) : _root_.Go.OpenSpec := { _root_.Go.OpenSpec.ofChange s with cond := some uptoSmall }

/-- 'garnerlaw11.NeedleEncodes', WHERE WHAT IT READS IS OF BULK AT MOST 1048576: true; the input reads as it did. -/
def needleEncodesUptoRow : OpenClaim := { program := "ytkgkhielfodmmaa", sum := "a88cc654025002a1a72fe7cc6596dc2f0377dc2e1291238142f88b69fa7c148b", func := "garner/garnerlaw11.NeedleEncodes", spec := "needleEncodes", apart := false, narrowed := true }
def NeedleEncodesUptoSaid : Prop := needleEncodesUptoRow.holds Try.pinned (OpenSpec.upto needleEncodesSpec)

/-- 'garnerlaw11.NeedleDecodes', WHERE WHAT IT READS IS OF BULK AT MOST 1048576: true; the input reads as it did. -/
def needleDecodesUptoRow : OpenClaim := { program := "ytkgkhielfodmmaa", sum := "a88cc654025002a1a72fe7cc6596dc2f0377dc2e1291238142f88b69fa7c148b", func := "garner/garnerlaw11.NeedleDecodes", spec := "needleDecodes", apart := false, narrowed := true }
def NeedleDecodesUptoSaid : Prop := needleDecodesUptoRow.holds Try.pinned (OpenSpec.upto needleDecodesSpec)

/-- 'garnerlaw11.NeedleBack', WHERE WHAT IT READS IS OF BULK AT MOST 1048576: true; the input reads as it did. -/
def needleBackUptoRow : OpenClaim := { program := "ytkgkhielfodmmaa", sum := "a88cc654025002a1a72fe7cc6596dc2f0377dc2e1291238142f88b69fa7c148b", func := "garner/garnerlaw11.NeedleBack", spec := "needleBack", apart := false, narrowed := true }
def NeedleBackUptoSaid : Prop := needleBackUptoRow.holds Try.pinned (OpenSpec.upto needleBackSpec)

/-- 'garnerlaw11.NeedleSizes', WHERE WHAT IT READS IS OF BULK AT MOST 1048576: true; the input reads as it did. -/
def needleSizesUptoRow : OpenClaim := { program := "ytkgkhielfodmmaa", sum := "a88cc654025002a1a72fe7cc6596dc2f0377dc2e1291238142f88b69fa7c148b", func := "garner/garnerlaw11.NeedleSizes", spec := "needleSizes", apart := false, narrowed := true }
def NeedleSizesUptoSaid : Prop := needleSizesUptoRow.holds Try.pinned (OpenSpec.upto needleSizesSpec)

/-- 'garnerlaw11.NeedleCuts', WHERE WHAT IT READS IS OF BULK AT MOST 1048576: true; the input reads as it did. -/
def needleCutsUptoRow : OpenClaim := { program := "ytkgkhielfodmmaa", sum := "a88cc654025002a1a72fe7cc6596dc2f0377dc2e1291238142f88b69fa7c148b", func := "garner/garnerlaw11.NeedleCuts", spec := "needleCuts", apart := false, narrowed := true }
def NeedleCutsUptoSaid : Prop := needleCutsUptoRow.holds Try.pinned (OpenSpec.upto needleCutsSpec)

end Rows
end Go.Proofs.Ytkgkhielfodmmaa
