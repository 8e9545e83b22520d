/-
  DERIVED. GIVEN WITH THE SEED: THE CARDS: each row of YtpjocddeiehckaaDoorRows.lean that lists a variable, with what it lists TIED to the program's text (the seventh form; the later family's looks); each row that meets fmt, with fmt's text TOLD by the authors' own Lean function (tested against real Go, not proved from fmt's source: count such statements apart). THE CARD IS WHAT COUNTS. Prove the row's statement (the work); the ties are given (YtpjocddeiehckaaDoorTie.lean); close each card by the builder's one call (the guide's Derived/Test/ToyasCard.lean, 'card_holds'). Laid BY PROGRAM, IN A SANDBOX (cutbox-door.mjs). By AI agents, Wed Nov 11 2026. No macro, syntax, notation, axiom, sorry.
-/
import Derived.Test.YtpjocddeiehckaaDoorRows
import GoSem.ClaimSeven
namespace Go.Proofs.YtpjocddeiehckaaDoor
namespace Rows

/-- THE TIED CARD OF 'garnerlaw8.ShardMends'. -/
def shardMendsCard : Claim7 := { stood := { row := shardMendsRow, standIns := [], harness := (true, "c3405fe8eaf92d41284b5f40cfe2d375c68161844bf05ebf69e8a93f961e7e84"), looks := false }, kinds := [], alts := [], laidByText := true, laidKinds := [.data, .data], laidTests := true, laidLooks := .later }
def ShardMendsCardSaid : Prop := Claim7.holds Tryd.pinned (.plain (OpenSpec.ofChange shardMendsSpec)) shardMendsCard

/-- THE TIED CARD OF 'garnerlaw8.ShardLost'. -/
def shardLostCard : Claim7 := { stood := { row := shardLostRow, standIns := [], harness := (true, "c3405fe8eaf92d41284b5f40cfe2d375c68161844bf05ebf69e8a93f961e7e84"), looks := false }, kinds := [], alts := [], laidByText := true, laidKinds := [.data, .data], laidTests := true, laidLooks := .later }
def ShardLostCardSaid : Prop := Claim7.holds Tryd.pinned (.plain (OpenSpec.ofChange shardLostSpec)) shardLostCard

/-- THE TIED CARD OF 'garnerlaw8.ShardRights'. -/
def shardRightsCard : Claim7 := { stood := { row := shardRightsRow, standIns := [], harness := (true, "c3405fe8eaf92d41284b5f40cfe2d375c68161844bf05ebf69e8a93f961e7e84"), looks := false }, kinds := [], alts := [], laidByText := true, laidKinds := [.data, .data], laidTests := true, laidLooks := .later }
def ShardRightsCardSaid : Prop := Claim7.holds Tryd.pinned (.plain (OpenSpec.ofChange shardRightsSpec)) shardRightsCard

/-- THE TIED CARD OF 'garnerlaw8.ShardWrong'. -/
def shardWrongCard : Claim7 := { stood := { row := shardWrongRow, standIns := [], harness := (true, "c3405fe8eaf92d41284b5f40cfe2d375c68161844bf05ebf69e8a93f961e7e84"), looks := false }, kinds := [], alts := [], laidByText := true, laidKinds := [.data, .data], laidTests := true, laidLooks := .later }
def ShardWrongCardSaid : Prop := Claim7.holds Tryd.pinned (.plain (OpenSpec.ofChange shardWrongSpec)) shardWrongCard

/-- THE TIED CARD OF 'garnerlaw8.ShardTooFew'. -/
def shardTooFewCard : Claim7 := { stood := { row := shardTooFewRow, standIns := [], harness := (true, "c3405fe8eaf92d41284b5f40cfe2d375c68161844bf05ebf69e8a93f961e7e84"), looks := false }, kinds := [], alts := [], laidByText := true, laidKinds := [.data, .data], laidTests := true, laidLooks := .later }
def ShardTooFewCardSaid : Prop := Claim7.holds Tryd.pinned (.plain (OpenSpec.ofChange shardTooFewSpec)) shardTooFewCard

/-- THE SECOND FORM's CARD OF 'garnerlaw8.ShardMends'. -/
def shardMendsUptoCard : Claim7 := { stood := { row := shardMendsUptoRow, standIns := [], harness := (true, "c3405fe8eaf92d41284b5f40cfe2d375c68161844bf05ebf69e8a93f961e7e84"), looks := false }, kinds := [], alts := [], laidByText := true, laidKinds := [.data, .data], laidTests := true, laidLooks := .later }
def ShardMendsUptoCardSaid : Prop := Claim7.holds Tryd.pinned (.plain (OpenSpec.upto shardMendsSpec)) shardMendsUptoCard

/-- THE SECOND FORM's CARD OF 'garnerlaw8.ShardLost'. -/
def shardLostUptoCard : Claim7 := { stood := { row := shardLostUptoRow, standIns := [], harness := (true, "c3405fe8eaf92d41284b5f40cfe2d375c68161844bf05ebf69e8a93f961e7e84"), looks := false }, kinds := [], alts := [], laidByText := true, laidKinds := [.data, .data], laidTests := true, laidLooks := .later }
def ShardLostUptoCardSaid : Prop := Claim7.holds Tryd.pinned (.plain (OpenSpec.upto shardLostSpec)) shardLostUptoCard

/-- THE SECOND FORM's CARD OF 'garnerlaw8.ShardRights'. -/
def shardRightsUptoCard : Claim7 := { stood := { row := shardRightsUptoRow, standIns := [], harness := (true, "c3405fe8eaf92d41284b5f40cfe2d375c68161844bf05ebf69e8a93f961e7e84"), looks := false }, kinds := [], alts := [], laidByText := true, laidKinds := [.data, .data], laidTests := true, laidLooks := .later }
def ShardRightsUptoCardSaid : Prop := Claim7.holds Tryd.pinned (.plain (OpenSpec.upto shardRightsSpec)) shardRightsUptoCard

/-- THE SECOND FORM's CARD OF 'garnerlaw8.ShardWrong'. -/
def shardWrongUptoCard : Claim7 := { stood := { row := shardWrongUptoRow, standIns := [], harness := (true, "c3405fe8eaf92d41284b5f40cfe2d375c68161844bf05ebf69e8a93f961e7e84"), looks := false }, kinds := [], alts := [], laidByText := true, laidKinds := [.data, .data], laidTests := true, laidLooks := .later }
def ShardWrongUptoCardSaid : Prop := Claim7.holds Tryd.pinned (.plain (OpenSpec.upto shardWrongSpec)) shardWrongUptoCard

/-- THE SECOND FORM's CARD OF 'garnerlaw8.ShardTooFew'. -/
def shardTooFewUptoCard : Claim7 := { stood := { row := shardTooFewUptoRow, standIns := [], harness := (true, "c3405fe8eaf92d41284b5f40cfe2d375c68161844bf05ebf69e8a93f961e7e84"), looks := false }, kinds := [], alts := [], laidByText := true, laidKinds := [.data, .data], laidTests := true, laidLooks := .later }
def ShardTooFewUptoCardSaid : Prop := Claim7.holds Tryd.pinned (.plain (OpenSpec.upto shardTooFewSpec)) shardTooFewUptoCard
end Rows
end Go.Proofs.YtpjocddeiehckaaDoor
