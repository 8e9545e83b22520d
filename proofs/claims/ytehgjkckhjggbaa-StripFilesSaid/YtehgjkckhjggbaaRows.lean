/-
  No cell of these rows narrows 'for every input' (looked for: loops, veiled, ifaces, maps, wideKeys, modest, calm, conditions, laid).
  DERIVED. THE GIVEN ROWS OF THIS SEAT. 7 by the template 'for every input the law returns true; each argument reads behind the call as it read before'; 0 by the template 'total and deterministic' (their statements: YtehgjkckhjggbaaTotals.lean).
  GIVEN WITH THE SEED: the statements are not yours to turn. If you find one false, say at which input.
  Laid BY PROGRAM, IN A SANDBOX (cutbox-rows.mjs): the forced cells as the released guide's own fill.sh prints them over the translation 7a4405aebf023a59… (all of the seat's roots in one cut). By AI agents, Wed Nov 11 2026. No macro, syntax, notation, axiom, sorry.
-/
import Derived.Test.YtehgjkckhjggbaaChecked
import GoSem.Claim
import GoSem.ClaimJoined
import GoSem.ClaimMapViews
import Derived.JoinedTies
import Derived.KernelRfl
namespace Go.Proofs.Ytehgjkckhjggbaa
/- THE CELL 'sum', in the pinned program and in every row, IS THE sha256 OF THE DUMP (.gsa) THAT YtehgjkckhjggbaaProg.lean LOADS. Nothing in Lean hashes anything: it is a label: what it is worth is what the hold of that sum in a sandbox is worth. -/
noncomputable def Try.pinned : Pinned := { name := "ytehgjkckhjggbaa", sum := "7a4405aebf023a5957fbe70a42ea50918767118d4b3c01b8d00a7396fd12d26a", checked := Try.checked }
namespace Rows
def none {H : Type} : Left H := { results := [], args := [] }

/-- 'garnerlaw12.VolumeKeeps': WHATEVER THE INPUT: true; the input reads as it did. -/
def volumeKeepsSpec : ChangeSpec := { name := "volumeKeeps", fn := fun _ => fun
  | [d1, d2, d3] => { results := [.lit (.bool true)], args := [d1, d2, d3] }
  | _ => none }
def volumeKeepsRow : OpenClaim := { program := "ytehgjkckhjggbaa", sum := "7a4405aebf023a5957fbe70a42ea50918767118d4b3c01b8d00a7396fd12d26a", func := "garner/garnerlaw12.VolumeKeeps", spec := "volumeKeeps", unfollowed := true, recurses := true, apart := false }
def VolumeKeepsSaid : Prop := volumeKeepsRow.holds Try.pinned (OpenSpec.ofChange volumeKeepsSpec)

/-- ITS FALSE NEIGHBOUR: 'it returns false'. Refute it at one input. -/
def volumeKeepsWrong : ChangeSpec := { name := "volumeKeeps", fn := fun _ => fun
  | [d1, d2, d3] => { results := [.lit (.bool false)], args := [d1, d2, d3] }
  | _ => none }
def VolumeKeepsWrongFalsely : Prop := volumeKeepsRow.holds Try.pinned (OpenSpec.ofChange volumeKeepsWrong)

/-- 'garnerlaw12.VolumeRots': WHATEVER THE INPUT: true; the input reads as it did. -/
def volumeRotsSpec : ChangeSpec := { name := "volumeRots", fn := fun _ => fun
  | [d1, d2, d3, d4] => { results := [.lit (.bool true)], args := [d1, d2, d3, d4] }
  | _ => none }
def volumeRotsRow : OpenClaim := { program := "ytehgjkckhjggbaa", sum := "7a4405aebf023a5957fbe70a42ea50918767118d4b3c01b8d00a7396fd12d26a", func := "garner/garnerlaw12.VolumeRots", spec := "volumeRots", unfollowed := true, recurses := true, apart := false }
def VolumeRotsSaid : Prop := volumeRotsRow.holds Try.pinned (OpenSpec.ofChange volumeRotsSpec)

/-- ITS FALSE NEIGHBOUR: 'it returns false'. Refute it at one input. -/
def volumeRotsWrong : ChangeSpec := { name := "volumeRots", fn := fun _ => fun
  | [d1, d2, d3, d4] => { results := [.lit (.bool false)], args := [d1, d2, d3, d4] }
  | _ => none }
def VolumeRotsWrongFalsely : Prop := volumeRotsRow.holds Try.pinned (OpenSpec.ofChange volumeRotsWrong)

/-- 'garnerlaw12.VolumeTwice': WHATEVER THE INPUT: true; the input reads as it did. -/
def volumeTwiceSpec : ChangeSpec := { name := "volumeTwice", fn := fun _ => fun
  | [d] => { results := [.lit (.bool true)], args := [d] }
  | _ => none }
def volumeTwiceRow : OpenClaim := { program := "ytehgjkckhjggbaa", sum := "7a4405aebf023a5957fbe70a42ea50918767118d4b3c01b8d00a7396fd12d26a", func := "garner/garnerlaw12.VolumeTwice", spec := "volumeTwice", unfollowed := true, recurses := true, apart := false }
def VolumeTwiceSaid : Prop := volumeTwiceRow.holds Try.pinned (OpenSpec.ofChange volumeTwiceSpec)

/-- ITS FALSE NEIGHBOUR: 'it returns false'. Refute it at one input. -/
def volumeTwiceWrong : ChangeSpec := { name := "volumeTwice", fn := fun _ => fun
  | [d] => { results := [.lit (.bool false)], args := [d] }
  | _ => none }
def VolumeTwiceWrongFalsely : Prop := volumeTwiceRow.holds Try.pinned (OpenSpec.ofChange volumeTwiceWrong)

/-- 'garnerlaw12.VolumeOfNothing': WHATEVER THE INPUT: true; the input reads as it did. -/
def volumeOfNothingSpec : ChangeSpec := { name := "volumeOfNothing", fn := fun _ => fun
  | [d1, d2] => { results := [.lit (.bool true)], args := [d1, d2] }
  | _ => none }
def volumeOfNothingRow : OpenClaim := { program := "ytehgjkckhjggbaa", sum := "7a4405aebf023a5957fbe70a42ea50918767118d4b3c01b8d00a7396fd12d26a", func := "garner/garnerlaw12.VolumeOfNothing", spec := "volumeOfNothing", unfollowed := true, recurses := true, apart := false }
def VolumeOfNothingSaid : Prop := volumeOfNothingRow.holds Try.pinned (OpenSpec.ofChange volumeOfNothingSpec)

/-- ITS FALSE NEIGHBOUR: 'it returns false'. Refute it at one input. -/
def volumeOfNothingWrong : ChangeSpec := { name := "volumeOfNothing", fn := fun _ => fun
  | [d1, d2] => { results := [.lit (.bool false)], args := [d1, d2] }
  | _ => none }
def VolumeOfNothingWrongFalsely : Prop := volumeOfNothingRow.holds Try.pinned (OpenSpec.ofChange volumeOfNothingWrong)

/-- 'garnerlaw14.StripCuts': WHATEVER THE INPUT: true; the input reads as it did. -/
def stripCutsSpec : ChangeSpec := { name := "stripCuts", fn := fun _ => fun
  | [d1, d2, d3] => { results := [.lit (.bool true)], args := [d1, d2, d3] }
  | _ => none }
def stripCutsRow : OpenClaim := { program := "ytehgjkckhjggbaa", sum := "7a4405aebf023a5957fbe70a42ea50918767118d4b3c01b8d00a7396fd12d26a", func := "garner/garnerlaw14.StripCuts", spec := "stripCuts", unfollowed := true, recurses := true, apart := false }
def StripCutsSaid : Prop := stripCutsRow.holds Try.pinned (OpenSpec.ofChange stripCutsSpec)

/-- ITS FALSE NEIGHBOUR: 'it returns false'. Refute it at one input. -/
def stripCutsWrong : ChangeSpec := { name := "stripCuts", fn := fun _ => fun
  | [d1, d2, d3] => { results := [.lit (.bool false)], args := [d1, d2, d3] }
  | _ => none }
def StripCutsWrongFalsely : Prop := stripCutsRow.holds Try.pinned (OpenSpec.ofChange stripCutsWrong)

/-- 'garnerlaw14.StripFiles': WHATEVER THE INPUT: true; the input reads as it did. -/
def stripFilesSpec : ChangeSpec := { name := "stripFiles", fn := fun _ => fun
  | [d1, d2, d3, d4, d5] => { results := [.lit (.bool true)], args := [d1, d2, d3, d4, d5] }
  | _ => none }
def stripFilesRow : OpenClaim := { program := "ytehgjkckhjggbaa", sum := "7a4405aebf023a5957fbe70a42ea50918767118d4b3c01b8d00a7396fd12d26a", func := "garner/garnerlaw14.StripFiles", spec := "stripFiles", unfollowed := true, recurses := true, apart := false }
def StripFilesSaid : Prop := stripFilesRow.holds Try.pinned (OpenSpec.ofChange stripFilesSpec)

/-- ITS FALSE NEIGHBOUR: 'it returns false'. Refute it at one input. -/
def stripFilesWrong : ChangeSpec := { name := "stripFiles", fn := fun _ => fun
  | [d1, d2, d3, d4, d5] => { results := [.lit (.bool false)], args := [d1, d2, d3, d4, d5] }
  | _ => none }
def StripFilesWrongFalsely : Prop := stripFilesRow.holds Try.pinned (OpenSpec.ofChange stripFilesWrong)

/-- 'garnerlaw14.StripRots': WHATEVER THE INPUT: true; the input reads as it did. -/
def stripRotsSpec : ChangeSpec := { name := "stripRots", fn := fun _ => fun
  | [d1, d2, d3] => { results := [.lit (.bool true)], args := [d1, d2, d3] }
  | _ => none }
def stripRotsRow : OpenClaim := { program := "ytehgjkckhjggbaa", sum := "7a4405aebf023a5957fbe70a42ea50918767118d4b3c01b8d00a7396fd12d26a", func := "garner/garnerlaw14.StripRots", spec := "stripRots", unfollowed := true, recurses := true, apart := false }
def StripRotsSaid : Prop := stripRotsRow.holds Try.pinned (OpenSpec.ofChange stripRotsSpec)

/-- ITS FALSE NEIGHBOUR: 'it returns false'. Refute it at one input. -/
def stripRotsWrong : ChangeSpec := { name := "stripRots", fn := fun _ => fun
  | [d1, d2, d3] => { results := [.lit (.bool false)], args := [d1, d2, d3] }
  | _ => none }
def StripRotsWrongFalsely : Prop := stripRotsRow.holds Try.pinned (OpenSpec.ofChange stripRotsWrong)

/- THE SECOND FORM. 'bulk': how many values and letters a reading holds, each counted each time it is reached (what is shared counts as often as it is met; a slice's spare places count too). A statement '..UptoSaid' is the law's where the arguments, and the package variables that the reading takes, are together of bulk at most 1048576: NARROWER than '..Said'. Prove '..Said' where nothing that the law and all that it calls make is longer than what came in: it says more and counts as full. Else prove '..UptoSaid'. A law counts once. -/
mutual
def uptoBulk {H : Type} : DataW H → Nat
  | .lit (.string bytes) => bytes.length + 1
  | .lit _ => 1
  | .nil => 1
  | .ptr d => uptoBulk d + 1
  | .slice elems spare => uptoBulkAll elems + uptoBulkAll spare + 1
  | .agg parts => uptoBulkAll parts + 1
  | .iface _ d => uptoBulk d + 1
  | .map entries => uptoBulkEntries entries + 1
  | .held _ => 1
def uptoBulkAll {H : Type} : List (DataW H) → Nat
  | [] => 0
  | d :: r => uptoBulk d + uptoBulkAll r
def uptoBulkEntries {H : Type} : List (Lit × DataW H) → Nat
  | [] => 0
  | x :: r => uptoBulkEntry x + uptoBulkEntries r
def uptoBulkEntry {H : Type} : Lit × DataW H → Nat
  | (.string bytes, d) => bytes.length + uptoBulk d + 1
  | (_, d) => uptoBulk d + 1
 end
def uptoSmall : (H : Type) → List (DataW H) → Bool := fun _ ds => decide (uptoBulkAll ds ≤ 1048576)
def OpenSpec.upto (s : _root_.Go.ChangeSpec) : _root_.Go.OpenSpec := { _root_.Go.OpenSpec.ofChange s with cond := some uptoSmall }

/-- 'garnerlaw12.VolumeKeeps', WHERE WHAT IT READS IS OF BULK AT MOST 1048576: true; the input reads as it did. -/
def volumeKeepsUptoRow : OpenClaim := { program := "ytehgjkckhjggbaa", sum := "7a4405aebf023a5957fbe70a42ea50918767118d4b3c01b8d00a7396fd12d26a", func := "garner/garnerlaw12.VolumeKeeps", spec := "volumeKeeps", unfollowed := true, recurses := true, apart := false, narrowed := true }
def VolumeKeepsUptoSaid : Prop := volumeKeepsUptoRow.holds Try.pinned (OpenSpec.upto volumeKeepsSpec)

/-- 'garnerlaw12.VolumeRots', WHERE WHAT IT READS IS OF BULK AT MOST 1048576: true; the input reads as it did. -/
def volumeRotsUptoRow : OpenClaim := { program := "ytehgjkckhjggbaa", sum := "7a4405aebf023a5957fbe70a42ea50918767118d4b3c01b8d00a7396fd12d26a", func := "garner/garnerlaw12.VolumeRots", spec := "volumeRots", unfollowed := true, recurses := true, apart := false, narrowed := true }
def VolumeRotsUptoSaid : Prop := volumeRotsUptoRow.holds Try.pinned (OpenSpec.upto volumeRotsSpec)

/-- 'garnerlaw12.VolumeTwice', WHERE WHAT IT READS IS OF BULK AT MOST 1048576: true; the input reads as it did. -/
def volumeTwiceUptoRow : OpenClaim := { program := "ytehgjkckhjggbaa", sum := "7a4405aebf023a5957fbe70a42ea50918767118d4b3c01b8d00a7396fd12d26a", func := "garner/garnerlaw12.VolumeTwice", spec := "volumeTwice", unfollowed := true, recurses := true, apart := false, narrowed := true }
def VolumeTwiceUptoSaid : Prop := volumeTwiceUptoRow.holds Try.pinned (OpenSpec.upto volumeTwiceSpec)

/-- 'garnerlaw12.VolumeOfNothing', WHERE WHAT IT READS IS OF BULK AT MOST 1048576: true; the input reads as it did. -/
def volumeOfNothingUptoRow : OpenClaim := { program := "ytehgjkckhjggbaa", sum := "7a4405aebf023a5957fbe70a42ea50918767118d4b3c01b8d00a7396fd12d26a", func := "garner/garnerlaw12.VolumeOfNothing", spec := "volumeOfNothing", unfollowed := true, recurses := true, apart := false, narrowed := true }
def VolumeOfNothingUptoSaid : Prop := volumeOfNothingUptoRow.holds Try.pinned (OpenSpec.upto volumeOfNothingSpec)

/-- 'garnerlaw14.StripCuts', WHERE WHAT IT READS IS OF BULK AT MOST 1048576: true; the input reads as it did. -/
def stripCutsUptoRow : OpenClaim := { program := "ytehgjkckhjggbaa", sum := "7a4405aebf023a5957fbe70a42ea50918767118d4b3c01b8d00a7396fd12d26a", func := "garner/garnerlaw14.StripCuts", spec := "stripCuts", unfollowed := true, recurses := true, apart := false, narrowed := true }
def StripCutsUptoSaid : Prop := stripCutsUptoRow.holds Try.pinned (OpenSpec.upto stripCutsSpec)

/-- 'garnerlaw14.StripFiles', WHERE WHAT IT READS IS OF BULK AT MOST 1048576: true; the input reads as it did. -/
def stripFilesUptoRow : OpenClaim := { program := "ytehgjkckhjggbaa", sum := "7a4405aebf023a5957fbe70a42ea50918767118d4b3c01b8d00a7396fd12d26a", func := "garner/garnerlaw14.StripFiles", spec := "stripFiles", unfollowed := true, recurses := true, apart := false, narrowed := true }
def StripFilesUptoSaid : Prop := stripFilesUptoRow.holds Try.pinned (OpenSpec.upto stripFilesSpec)

/-- 'garnerlaw14.StripRots', WHERE WHAT IT READS IS OF BULK AT MOST 1048576: true; the input reads as it did. -/
def stripRotsUptoRow : OpenClaim := { program := "ytehgjkckhjggbaa", sum := "7a4405aebf023a5957fbe70a42ea50918767118d4b3c01b8d00a7396fd12d26a", func := "garner/garnerlaw14.StripRots", spec := "stripRots", unfollowed := true, recurses := true, apart := false, narrowed := true }
def StripRotsUptoSaid : Prop := stripRotsUptoRow.holds Try.pinned (OpenSpec.upto stripRotsSpec)

end Rows
end Go.Proofs.Ytehgjkckhjggbaa
