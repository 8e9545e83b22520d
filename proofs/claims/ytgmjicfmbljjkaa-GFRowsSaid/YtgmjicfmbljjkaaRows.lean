/-
  No cell of these rows narrows 'for every input' (looked for: loops, veiled, ifaces, maps, wideKeys, modest, calm, conditions, laid).
  DERIVED. THE GIVEN ROWS OF THIS SEAT. 5 by the template 'for every input the law returns true; each argument reads behind the call as it read before'; 0 by the template 'total and deterministic' (their statements: YtgmjicfmbljjkaaTotals.lean).
  GIVEN WITH THE SEED: the statements are not yours to turn. If you find one false, say at which input.
  Laid BY PROGRAM, IN A SANDBOX (cutbox-rows.mjs): the forced cells as the released guide's own fill.sh prints them over the translation 819ba2f85e8e37ee… (all of the seat's roots in one cut). By AI agents, Wed Nov 11 2026. No macro, syntax, notation, axiom, sorry.
-/
import Derived.Test.YtgmjicfmbljjkaaChecked
import GoSem.Claim
import GoSem.ClaimJoined
import GoSem.ClaimMapViews
import Derived.JoinedTies
import Derived.KernelRfl
namespace Go.Proofs.Ytgmjicfmbljjkaa
/- THE CELL 'sum', in the pinned program and in every row, IS THE sha256 OF THE DUMP (.gsa) THAT YtgmjicfmbljjkaaProg.lean LOADS. Nothing in Lean hashes anything: it is a label: what it is worth is what the hold of that sum in a sandbox is worth. -/
noncomputable def Try.pinned : Pinned := { name := "ytgmjicfmbljjkaa", sum := "819ba2f85e8e37eebd805a3f5a4cda3cde57db251b23a4a632f4124d9357c703", checked := Try.checked }
namespace Rows
def none {H : Type} : Left H := { results := [], args := [] }

/-- 'garnerlaw6.GFProducts': WHATEVER THE INPUT: true; the input reads as it did. -/
def gFProductsSpec : ChangeSpec := { name := "gFProducts", fn := fun _ => fun
  | [d1, d2] => { results := [.lit (.bool true)], args := [d1, d2] }
  | _ => none }
def gFProductsRow : OpenClaim := { program := "ytgmjicfmbljjkaa", sum := "819ba2f85e8e37eebd805a3f5a4cda3cde57db251b23a4a632f4124d9357c703", func := "garner/garnerlaw6.GFProducts", spec := "gFProducts", apart := false }
def GFProductsSaid : Prop := gFProductsRow.holds Try.pinned (OpenSpec.ofChange gFProductsSpec)

/-- ITS FALSE NEIGHBOUR: 'it returns false'. Refute it at one input. -/
def gFProductsWrong : ChangeSpec := { name := "gFProducts", fn := fun _ => fun
  | [d1, d2] => { results := [.lit (.bool false)], args := [d1, d2] }
  | _ => none }
def GFProductsWrongFalsely : Prop := gFProductsRow.holds Try.pinned (OpenSpec.ofChange gFProductsWrong)

/-- 'garnerlaw6.GFField': WHATEVER THE INPUT: true; the input reads as it did. -/
def gFFieldSpec : ChangeSpec := { name := "gFField", fn := fun _ => fun
  | [d1, d2, d3] => { results := [.lit (.bool true)], args := [d1, d2, d3] }
  | _ => none }
def gFFieldRow : OpenClaim := { program := "ytgmjicfmbljjkaa", sum := "819ba2f85e8e37eebd805a3f5a4cda3cde57db251b23a4a632f4124d9357c703", func := "garner/garnerlaw6.GFField", spec := "gFField", unfollowed := true, recurses := true, apart := false }
def GFFieldSaid : Prop := gFFieldRow.holds Try.pinned (OpenSpec.ofChange gFFieldSpec)

/-- ITS FALSE NEIGHBOUR: 'it returns false'. Refute it at one input. -/
def gFFieldWrong : ChangeSpec := { name := "gFField", fn := fun _ => fun
  | [d1, d2, d3] => { results := [.lit (.bool false)], args := [d1, d2, d3] }
  | _ => none }
def GFFieldWrongFalsely : Prop := gFFieldRow.holds Try.pinned (OpenSpec.ofChange gFFieldWrong)

/-- 'garnerlaw6.GFInverts': WHATEVER THE INPUT: true; the input reads as it did. -/
def gFInvertsSpec : ChangeSpec := { name := "gFInverts", fn := fun _ => fun
  | [d1, d2] => { results := [.lit (.bool true)], args := [d1, d2] }
  | _ => none }
def gFInvertsRow : OpenClaim := { program := "ytgmjicfmbljjkaa", sum := "819ba2f85e8e37eebd805a3f5a4cda3cde57db251b23a4a632f4124d9357c703", func := "garner/garnerlaw6.GFInverts", spec := "gFInverts", apart := false }
def GFInvertsSaid : Prop := gFInvertsRow.holds Try.pinned (OpenSpec.ofChange gFInvertsSpec)

/-- ITS FALSE NEIGHBOUR: 'it returns false'. Refute it at one input. -/
def gFInvertsWrong : ChangeSpec := { name := "gFInverts", fn := fun _ => fun
  | [d1, d2] => { results := [.lit (.bool false)], args := [d1, d2] }
  | _ => none }
def GFInvertsWrongFalsely : Prop := gFInvertsRow.holds Try.pinned (OpenSpec.ofChange gFInvertsWrong)

/-- 'garnerlaw6.GFPowers': WHATEVER THE INPUT: true; the input reads as it did. -/
def gFPowersSpec : ChangeSpec := { name := "gFPowers", fn := fun _ => fun
  | [d1, d2, d3] => { results := [.lit (.bool true)], args := [d1, d2, d3] }
  | _ => none }
def gFPowersRow : OpenClaim := { program := "ytgmjicfmbljjkaa", sum := "819ba2f85e8e37eebd805a3f5a4cda3cde57db251b23a4a632f4124d9357c703", func := "garner/garnerlaw6.GFPowers", spec := "gFPowers", apart := false }
def GFPowersSaid : Prop := gFPowersRow.holds Try.pinned (OpenSpec.ofChange gFPowersSpec)

/-- ITS FALSE NEIGHBOUR: 'it returns false'. Refute it at one input. -/
def gFPowersWrong : ChangeSpec := { name := "gFPowers", fn := fun _ => fun
  | [d1, d2, d3] => { results := [.lit (.bool false)], args := [d1, d2, d3] }
  | _ => none }
def GFPowersWrongFalsely : Prop := gFPowersRow.holds Try.pinned (OpenSpec.ofChange gFPowersWrong)

/-- 'garnerlaw6.GFRows': WHATEVER THE INPUT: true; the input reads as it did. -/
def gFRowsSpec : ChangeSpec := { name := "gFRows", fn := fun _ => fun
  | [d1, d2, d3] => { results := [.lit (.bool true)], args := [d1, d2, d3] }
  | _ => none }
def gFRowsRow : OpenClaim := { program := "ytgmjicfmbljjkaa", sum := "819ba2f85e8e37eebd805a3f5a4cda3cde57db251b23a4a632f4124d9357c703", func := "garner/garnerlaw6.GFRows", spec := "gFRows", apart := false }
def GFRowsSaid : Prop := gFRowsRow.holds Try.pinned (OpenSpec.ofChange gFRowsSpec)

/-- ITS FALSE NEIGHBOUR: 'it returns false'. Refute it at one input. -/
def gFRowsWrong : ChangeSpec := { name := "gFRows", fn := fun _ => fun
  | [d1, d2, d3] => { results := [.lit (.bool false)], args := [d1, d2, d3] }
  | _ => none }
def GFRowsWrongFalsely : Prop := gFRowsRow.holds Try.pinned (OpenSpec.ofChange gFRowsWrong)

/- THE SECOND FORM. 'bulk': how many values and letters a reading holds, each counted each time it is reached (what is shared counts as often as it is met; a slice's spare places count too). A statement '..UptoSaid' is the law's where the arguments, and the package variables that the reading takes, are together of bulk at most 1048576: NARROWER than '..Said'. Prove '..Said' where nothing that the law and all that it calls make is longer than what came in: it says more and counts as full. Else prove '..UptoSaid'. A law counts once. -/
mutual
def uptoBulk {H : Type} : DataW H → Nat
  | .lit (.string bytes) => bytes.length + 1
  | .lit _ => 1
  | .nil => 1
  | .ptr d => uptoBulk d + 1
  | .slice elems spare => uptoBulkAll elems + uptoBulkAll spare + 1
  | .agg parts => uptoBulkAll parts + 1
  | .iface _ d => uptoBulk d + 1
  | .map entries => uptoBulkEntries entries + 1
  | .held _ => 1
def uptoBulkAll {H : Type} : List (DataW H) → Nat
  | [] => 0
  | d :: r => uptoBulk d + uptoBulkAll r
def uptoBulkEntries {H : Type} : List (Lit × DataW H) → Nat
  | [] => 0
  | x :: r => uptoBulkEntry x + uptoBulkEntries r
def uptoBulkEntry {H : Type} : Lit × DataW H → Nat
  | (.string bytes, d) => bytes.length + uptoBulk d + 1
  | (_, d) => uptoBulk d + 1
 end
def uptoSmall : (H : Type) → List (DataW H) → Bool := fun _ ds => decide (uptoBulkAll ds ≤ 1048576)
def OpenSpec.upto (s : _root_.Go.ChangeSpec) : _root_.Go.OpenSpec := { _root_.Go.OpenSpec.ofChange s with cond := some uptoSmall }

/-- 'garnerlaw6.GFProducts', WHERE WHAT IT READS IS OF BULK AT MOST 1048576: true; the input reads as it did. -/
def gFProductsUptoRow : OpenClaim := { program := "ytgmjicfmbljjkaa", sum := "819ba2f85e8e37eebd805a3f5a4cda3cde57db251b23a4a632f4124d9357c703", func := "garner/garnerlaw6.GFProducts", spec := "gFProducts", apart := false, narrowed := true }
def GFProductsUptoSaid : Prop := gFProductsUptoRow.holds Try.pinned (OpenSpec.upto gFProductsSpec)

/-- 'garnerlaw6.GFField', WHERE WHAT IT READS IS OF BULK AT MOST 1048576: true; the input reads as it did. -/
def gFFieldUptoRow : OpenClaim := { program := "ytgmjicfmbljjkaa", sum := "819ba2f85e8e37eebd805a3f5a4cda3cde57db251b23a4a632f4124d9357c703", func := "garner/garnerlaw6.GFField", spec := "gFField", unfollowed := true, recurses := true, apart := false, narrowed := true }
def GFFieldUptoSaid : Prop := gFFieldUptoRow.holds Try.pinned (OpenSpec.upto gFFieldSpec)

/-- 'garnerlaw6.GFInverts', WHERE WHAT IT READS IS OF BULK AT MOST 1048576: true; the input reads as it did. -/
def gFInvertsUptoRow : OpenClaim := { program := "ytgmjicfmbljjkaa", sum := "819ba2f85e8e37eebd805a3f5a4cda3cde57db251b23a4a632f4124d9357c703", func := "garner/garnerlaw6.GFInverts", spec := "gFInverts", apart := false, narrowed := true }
def GFInvertsUptoSaid : Prop := gFInvertsUptoRow.holds Try.pinned (OpenSpec.upto gFInvertsSpec)

/-- 'garnerlaw6.GFPowers', WHERE WHAT IT READS IS OF BULK AT MOST 1048576: true; the input reads as it did. -/
def gFPowersUptoRow : OpenClaim := { program := "ytgmjicfmbljjkaa", sum := "819ba2f85e8e37eebd805a3f5a4cda3cde57db251b23a4a632f4124d9357c703", func := "garner/garnerlaw6.GFPowers", spec := "gFPowers", apart := false, narrowed := true }
def GFPowersUptoSaid : Prop := gFPowersUptoRow.holds Try.pinned (OpenSpec.upto gFPowersSpec)

/-- 'garnerlaw6.GFRows', WHERE WHAT IT READS IS OF BULK AT MOST 1048576: true; the input reads as it did. -/
def gFRowsUptoRow : OpenClaim := { program := "ytgmjicfmbljjkaa", sum := "819ba2f85e8e37eebd805a3f5a4cda3cde57db251b23a4a632f4124d9357c703", func := "garner/garnerlaw6.GFRows", spec := "gFRows", apart := false, narrowed := true }
def GFRowsUptoSaid : Prop := gFRowsUptoRow.holds Try.pinned (OpenSpec.upto gFRowsSpec)

end Rows
end Go.Proofs.Ytgmjicfmbljjkaa
