/-
  No cell of these rows narrows 'for every input' (looked for: loops, veiled, ifaces, maps, wideKeys, modest, calm, conditions, laid).
  DERIVED. THE GIVEN ROWS OF THIS SEAT. 4 by the template 'for every input the law returns true; each argument reads behind the call as it read before'; 0 by the template 'total and deterministic' (their statements: YtdchgjniepdhfaaTotals.lean).
  GIVEN WITH THE SEED: the statements are not yours to turn. If you find one false, say at which input.
  Laid BY PROGRAM, IN A SANDBOX (cutbox-rows.mjs): the forced cells as the released guide's own fill.sh prints them over the translation a6fcb74d0d94adae… (all of the seat's roots in one cut). By AI agents, Wed Nov 11 2026. No macro, syntax, notation, axiom, sorry.
-/
import Derived.Test.YtdchgjniepdhfaaChecked
import GoSem.Claim
import GoSem.ClaimJoined
import GoSem.ClaimMapViews
import Derived.JoinedTies
import Derived.KernelRfl
namespace Go.Proofs.Ytdchgjniepdhfaa
/- THE CELL 'sum', in the pinned program and in every row, IS THE sha256 OF THE DUMP (.gsa) THAT YtdchgjniepdhfaaProg.lean LOADS. Nothing in Lean hashes anything: it is a label: what it is worth is what the hold of that sum in a sandbox is worth. -/
noncomputable def Try.pinned : Pinned := { name := "ytdchgjniepdhfaa", sum := "a6fcb74d0d94adae81182e47879952e28e91053d925f142315d397bda25c6566", checked := Try.checked }
namespace Rows
def none {H : Type} : Left H := { results := [], args := [] }

/-- 'garnerlaw15.FidTexts': WHATEVER THE INPUT: true; the input reads as it did. -/
def fidTextsSpec : ChangeSpec := { name := "fidTexts", fn := fun _ => fun
  | [d] => { results := [.lit (.bool true)], args := [d] }
  | _ => none }
def fidTextsRow : OpenClaim := { program := "ytdchgjniepdhfaa", sum := "a6fcb74d0d94adae81182e47879952e28e91053d925f142315d397bda25c6566", func := "garner/garnerlaw15.FidTexts", spec := "fidTexts", inPlace := ["internal/bytealg.IndexByteString", "internal/bytealg.IndexString"], named := ["internal/bytealg.MaxLen"], apart := false }
def FidTextsSaid : Prop := fidTextsRow.holds Try.pinned (OpenSpec.ofChange fidTextsSpec)

/-- ITS FALSE NEIGHBOUR: 'it returns false'. Refute it at one input. -/
def fidTextsWrong : ChangeSpec := { name := "fidTexts", fn := fun _ => fun
  | [d] => { results := [.lit (.bool false)], args := [d] }
  | _ => none }
def FidTextsWrongFalsely : Prop := fidTextsRow.holds Try.pinned (OpenSpec.ofChange fidTextsWrong)

/-- 'garnerlaw15.FidParses': WHATEVER THE INPUT: true; the input reads as it did. -/
def fidParsesSpec : ChangeSpec := { name := "fidParses", fn := fun _ => fun
  | [d] => { results := [.lit (.bool true)], args := [d] }
  | _ => none }
def fidParsesRow : OpenClaim := { program := "ytdchgjniepdhfaa", sum := "a6fcb74d0d94adae81182e47879952e28e91053d925f142315d397bda25c6566", func := "garner/garnerlaw15.FidParses", spec := "fidParses", inPlace := ["internal/bytealg.IndexByteString", "internal/bytealg.IndexString"], named := ["internal/bytealg.MaxLen"], apart := false }
def FidParsesSaid : Prop := fidParsesRow.holds Try.pinned (OpenSpec.ofChange fidParsesSpec)

/-- ITS FALSE NEIGHBOUR: 'it returns false'. Refute it at one input. -/
def fidParsesWrong : ChangeSpec := { name := "fidParses", fn := fun _ => fun
  | [d] => { results := [.lit (.bool false)], args := [d] }
  | _ => none }
def FidParsesWrongFalsely : Prop := fidParsesRow.holds Try.pinned (OpenSpec.ofChange fidParsesWrong)

/-- 'garnerlaw15.FidCookies': WHATEVER THE INPUT: true; the input reads as it did. -/
def fidCookiesSpec : ChangeSpec := { name := "fidCookies", fn := fun _ => fun
  | [d1, d2, d3, d4] => { results := [.lit (.bool true)], args := [d1, d2, d3, d4] }
  | _ => none }
def fidCookiesRow : OpenClaim := { program := "ytdchgjniepdhfaa", sum := "a6fcb74d0d94adae81182e47879952e28e91053d925f142315d397bda25c6566", func := "garner/garnerlaw15.FidCookies", spec := "fidCookies", apart := false }
def FidCookiesSaid : Prop := fidCookiesRow.holds Try.pinned (OpenSpec.ofChange fidCookiesSpec)

/-- ITS FALSE NEIGHBOUR: 'it returns false'. Refute it at one input. -/
def fidCookiesWrong : ChangeSpec := { name := "fidCookies", fn := fun _ => fun
  | [d1, d2, d3, d4] => { results := [.lit (.bool false)], args := [d1, d2, d3, d4] }
  | _ => none }
def FidCookiesWrongFalsely : Prop := fidCookiesRow.holds Try.pinned (OpenSpec.ofChange fidCookiesWrong)

/-- 'garnerlaw15.FidTurned': WHATEVER THE INPUT: true; the input reads as it did. -/
def fidTurnedSpec : ChangeSpec := { name := "fidTurned", fn := fun _ => fun
  | [d1, d2, d3] => { results := [.lit (.bool true)], args := [d1, d2, d3] }
  | _ => none }
def fidTurnedRow : OpenClaim := { program := "ytdchgjniepdhfaa", sum := "a6fcb74d0d94adae81182e47879952e28e91053d925f142315d397bda25c6566", func := "garner/garnerlaw15.FidTurned", spec := "fidTurned", inPlace := ["internal/bytealg.IndexByteString", "internal/bytealg.IndexString"], named := ["internal/bytealg.MaxLen"], apart := false }
def FidTurnedSaid : Prop := fidTurnedRow.holds Try.pinned (OpenSpec.ofChange fidTurnedSpec)

/-- ITS FALSE NEIGHBOUR: 'it returns false'. Refute it at one input. -/
def fidTurnedWrong : ChangeSpec := { name := "fidTurned", fn := fun _ => fun
  | [d1, d2, d3] => { results := [.lit (.bool false)], args := [d1, d2, d3] }
  | _ => none }
def FidTurnedWrongFalsely : Prop := fidTurnedRow.holds Try.pinned (OpenSpec.ofChange fidTurnedWrong)

/- THE SECOND FORM. 'bulk': how many values and letters a reading holds, each counted each time it is reached (what is shared counts as often as it is met; a slice's spare places count too). A statement '..UptoSaid' is the law's where the arguments, and the package variables that the reading takes, are together of bulk at most 1048576: NARROWER than '..Said'. Prove '..Said' where nothing that the law and all that it calls make is longer than what came in: it says more and counts as full. Else prove '..UptoSaid'. A law counts once. -/
mutual
def uptoBulk {H : Type} : DataW H → Nat
  | .lit (.string bytes) => bytes.length + 1
  | .lit _ => 1
  | .nil => 1
  | .ptr d => uptoBulk d + 1
  | .slice elems spare => uptoBulkAll elems + uptoBulkAll spare + 1
  | .agg parts => uptoBulkAll parts + 1
  | .iface _ d => uptoBulk d + 1
  | .map entries => uptoBulkEntries entries + 1
  | .held _ => 1
def uptoBulkAll {H : Type} : List (DataW H) → Nat
  | [] => 0
  | d :: r => uptoBulk d + uptoBulkAll r
def uptoBulkEntries {H : Type} : List (Lit × DataW H) → Nat
  | [] => 0
  | x :: r => uptoBulkEntry x + uptoBulkEntries r
def uptoBulkEntry {H : Type} : Lit × DataW H → Nat
  | (.string bytes, d) => bytes.length + uptoBulk d + 1
  | (_, d) => uptoBulk d + 1
 end
def uptoSmall : (H : Type) → List (DataW H) → Bool := fun _ ds => decide (uptoBulkAll ds ≤ 1048576)
def OpenSpec.upto (s : _root_.Go.ChangeSpec) : _root_.Go.OpenSpec := { _root_.Go.OpenSpec.ofChange s with cond := some uptoSmall }

/-- 'garnerlaw15.FidTexts', WHERE WHAT IT READS IS OF BULK AT MOST 1048576: true; the input reads as it did. -/
def fidTextsUptoRow : OpenClaim := { program := "ytdchgjniepdhfaa", sum := "a6fcb74d0d94adae81182e47879952e28e91053d925f142315d397bda25c6566", func := "garner/garnerlaw15.FidTexts", spec := "fidTexts", inPlace := ["internal/bytealg.IndexByteString", "internal/bytealg.IndexString"], named := ["internal/bytealg.MaxLen"], apart := false, narrowed := true }
def FidTextsUptoSaid : Prop := fidTextsUptoRow.holds Try.pinned (OpenSpec.upto fidTextsSpec)

/-- 'garnerlaw15.FidParses', WHERE WHAT IT READS IS OF BULK AT MOST 1048576: true; the input reads as it did. -/
def fidParsesUptoRow : OpenClaim := { program := "ytdchgjniepdhfaa", sum := "a6fcb74d0d94adae81182e47879952e28e91053d925f142315d397bda25c6566", func := "garner/garnerlaw15.FidParses", spec := "fidParses", inPlace := ["internal/bytealg.IndexByteString", "internal/bytealg.IndexString"], named := ["internal/bytealg.MaxLen"], apart := false, narrowed := true }
def FidParsesUptoSaid : Prop := fidParsesUptoRow.holds Try.pinned (OpenSpec.upto fidParsesSpec)

/-- 'garnerlaw15.FidCookies', WHERE WHAT IT READS IS OF BULK AT MOST 1048576: true; the input reads as it did. -/
def fidCookiesUptoRow : OpenClaim := { program := "ytdchgjniepdhfaa", sum := "a6fcb74d0d94adae81182e47879952e28e91053d925f142315d397bda25c6566", func := "garner/garnerlaw15.FidCookies", spec := "fidCookies", apart := false, narrowed := true }
def FidCookiesUptoSaid : Prop := fidCookiesUptoRow.holds Try.pinned (OpenSpec.upto fidCookiesSpec)

/-- 'garnerlaw15.FidTurned', WHERE WHAT IT READS IS OF BULK AT MOST 1048576: true; the input reads as it did. -/
def fidTurnedUptoRow : OpenClaim := { program := "ytdchgjniepdhfaa", sum := "a6fcb74d0d94adae81182e47879952e28e91053d925f142315d397bda25c6566", func := "garner/garnerlaw15.FidTurned", spec := "fidTurned", inPlace := ["internal/bytealg.IndexByteString", "internal/bytealg.IndexString"], named := ["internal/bytealg.MaxLen"], apart := false, narrowed := true }
def FidTurnedUptoSaid : Prop := fidTurnedUptoRow.holds Try.pinned (OpenSpec.upto fidTurnedSpec)

end Rows
end Go.Proofs.Ytdchgjniepdhfaa
