/-
  DERIVED. GIVEN WITH THE SEED: THE CARDS: each row of YtkkhmgcjaehnkaaDoorRows.lean that lists a variable, with what it lists TIED to the program's text (the seventh form; the later family's looks); each row that meets fmt, with fmt's text TOLD by the authors' own Lean function (tested against real Go, not proved from fmt's source: count such statements apart). THE CARD IS WHAT COUNTS. Prove the row's statement (the work); the ties are given (YtkkhmgcjaehnkaaDoorTie.lean); close each card by the builder's one call (the guide's Derived/Test/ToyasCard.lean, 'card_holds'). Laid BY PROGRAM, IN A SANDBOX (cutbox-door.mjs). By AI agents, Wed Nov 11 2026. No macro, syntax, notation, axiom, sorry.
-/
import Derived.Test.YtkkhmgcjaehnkaaDoorRows
import GoSem.ClaimSeven
namespace Go.Proofs.YtkkhmgcjaehnkaaDoor
namespace Rows

/-- THE TIED CARD OF 'cleanroomlaw03.RatioTextMatchesReference'. -/
def ratioTextMatchesReferenceCard : Claim7 := { stood := { row := ratioTextMatchesReferenceRow, standIns := [], harness := (true, "be06207694e4fcdff55409dc57674d71c751be72bb377918f61c7cec94062bb1"), looks := true }, kinds := [], alts := [], laidByText := true, laidKinds := [.data, .data, .data, .sentinel, .sentinel, .sentinel], laidTests := true, laidLooks := .later }
def RatioTextMatchesReferenceCardSaid : Prop := Claim7.holds Tryd.pinned (.plain (OpenSpec.ofChange ratioTextMatchesReferenceSpec)) ratioTextMatchesReferenceCard

/-- THE TIED CARD OF 'cleanroomlaw03.RatioText'. -/
def ratioTextCard : Claim7 := { stood := { row := ratioTextRow, standIns := [], harness := (true, "be06207694e4fcdff55409dc57674d71c751be72bb377918f61c7cec94062bb1"), looks := true }, kinds := [], alts := [], laidByText := true, laidKinds := [.data, .data, .data, .sentinel, .sentinel, .sentinel], laidTests := true, laidLooks := .later }
def RatioTextCardSaid : Prop := Claim7.holds Tryd.pinned (.plain (OpenSpec.ofChange ratioTextSpec)) ratioTextCard

/-- THE SECOND FORM's CARD OF 'cleanroomlaw03.RatioTextMatchesReference'. -/
def ratioTextMatchesReferenceUptoCard : Claim7 := { stood := { row := ratioTextMatchesReferenceUptoRow, standIns := [], harness := (true, "be06207694e4fcdff55409dc57674d71c751be72bb377918f61c7cec94062bb1"), looks := true }, kinds := [], alts := [], laidByText := true, laidKinds := [.data, .data, .data, .sentinel, .sentinel, .sentinel], laidTests := true, laidLooks := .later }
def RatioTextMatchesReferenceUptoCardSaid : Prop := Claim7.holds Tryd.pinned (.plain (OpenSpec.upto ratioTextMatchesReferenceSpec)) ratioTextMatchesReferenceUptoCard

/-- THE SECOND FORM's CARD OF 'cleanroomlaw03.RatioText'. -/
def ratioTextUptoCard : Claim7 := { stood := { row := ratioTextUptoRow, standIns := [], harness := (true, "be06207694e4fcdff55409dc57674d71c751be72bb377918f61c7cec94062bb1"), looks := true }, kinds := [], alts := [], laidByText := true, laidKinds := [.data, .data, .data, .sentinel, .sentinel, .sentinel], laidTests := true, laidLooks := .later }
def RatioTextUptoCardSaid : Prop := Claim7.holds Tryd.pinned (.plain (OpenSpec.upto ratioTextSpec)) ratioTextUptoCard
end Rows
end Go.Proofs.YtkkhmgcjaehnkaaDoor
