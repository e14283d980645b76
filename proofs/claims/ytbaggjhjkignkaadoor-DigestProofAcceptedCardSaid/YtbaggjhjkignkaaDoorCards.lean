/-
  DERIVED. GIVEN WITH THE SEED: THE CARDS: each row of YtbaggjhjkignkaaDoorRows.lean that lists a variable, with what it lists TIED to the program's text (the seventh form; the later family's looks); each row that meets fmt, with fmt's text TOLD by the authors' own Lean function (tested against real Go, not proved from fmt's source: count such statements apart). THE CARD IS WHAT COUNTS. Prove the row's statement (the work); the ties are given (YtbaggjhjkignkaaDoorTie.lean); close each card by the builder's one call (the guide's Derived/Test/ToyasCard.lean, 'card_holds'). Laid BY PROGRAM, IN A SANDBOX (cutbox-door.mjs). By AI agents, Wed Nov 11 2026. No macro, syntax, notation, axiom, sorry.
-/
import Derived.Test.YtbaggjhjkignkaaDoorRows
import GoSem.ClaimSeven
namespace Go.Proofs.YtbaggjhjkignkaaDoor
namespace Rows

/-- THE TIED CARD OF 'cleanroomlaw02.DigestSumMatchesReference'. -/
def digestSumMatchesReferenceCard : Claim7 := { stood := { row := digestSumMatchesReferenceRow, standIns := [], harness := (true, "21a0ff8803a2bd69584128f59a485096786879e48f07e6fa64800c6dbba9ddd1"), looks := false }, kinds := [], alts := [], laidByText := true, laidKinds := [.data], laidTests := true, laidLooks := .later }
def DigestSumMatchesReferenceCardSaid : Prop := Claim7.holds Tryd.pinned (.plain (OpenSpec.ofChange digestSumMatchesReferenceSpec)) digestSumMatchesReferenceCard

/-- THE TIED CARD OF 'cleanroomlaw02.DigestTreeMatchesReference'. -/
def digestTreeMatchesReferenceCard : Claim7 := { stood := { row := digestTreeMatchesReferenceRow, standIns := [], harness := (true, "21a0ff8803a2bd69584128f59a485096786879e48f07e6fa64800c6dbba9ddd1"), looks := false }, kinds := [], alts := [], laidByText := true, laidKinds := [.data], laidTests := true, laidLooks := .later }
def DigestTreeMatchesReferenceCardSaid : Prop := Claim7.holds Tryd.pinned (.plain (OpenSpec.ofChange digestTreeMatchesReferenceSpec)) digestTreeMatchesReferenceCard

/-- THE TIED CARD OF 'cleanroomlaw02.DigestProofAccepted'. -/
def digestProofAcceptedCard : Claim7 := { stood := { row := digestProofAcceptedRow, standIns := [], harness := (true, "21a0ff8803a2bd69584128f59a485096786879e48f07e6fa64800c6dbba9ddd1"), looks := false }, kinds := [], alts := [], laidByText := true, laidKinds := [.data], laidTests := true, laidLooks := .later }
def DigestProofAcceptedCardSaid : Prop := Claim7.holds Tryd.pinned (.plain (OpenSpec.ofChange digestProofAcceptedSpec)) digestProofAcceptedCard

/-- THE SECOND FORM's CARD OF 'cleanroomlaw02.DigestSumMatchesReference'. -/
def digestSumMatchesReferenceUptoCard : Claim7 := { stood := { row := digestSumMatchesReferenceUptoRow, standIns := [], harness := (true, "21a0ff8803a2bd69584128f59a485096786879e48f07e6fa64800c6dbba9ddd1"), looks := false }, kinds := [], alts := [], laidByText := true, laidKinds := [.data], laidTests := true, laidLooks := .later }
def DigestSumMatchesReferenceUptoCardSaid : Prop := Claim7.holds Tryd.pinned (.plain (OpenSpec.upto digestSumMatchesReferenceSpec)) digestSumMatchesReferenceUptoCard

/-- THE SECOND FORM's CARD OF 'cleanroomlaw02.DigestTreeMatchesReference'. -/
def digestTreeMatchesReferenceUptoCard : Claim7 := { stood := { row := digestTreeMatchesReferenceUptoRow, standIns := [], harness := (true, "21a0ff8803a2bd69584128f59a485096786879e48f07e6fa64800c6dbba9ddd1"), looks := false }, kinds := [], alts := [], laidByText := true, laidKinds := [.data], laidTests := true, laidLooks := .later }
def DigestTreeMatchesReferenceUptoCardSaid : Prop := Claim7.holds Tryd.pinned (.plain (OpenSpec.upto digestTreeMatchesReferenceSpec)) digestTreeMatchesReferenceUptoCard

/-- THE SECOND FORM's CARD OF 'cleanroomlaw02.DigestProofAccepted'. -/
def digestProofAcceptedUptoCard : Claim7 := { stood := { row := digestProofAcceptedUptoRow, standIns := [], harness := (true, "21a0ff8803a2bd69584128f59a485096786879e48f07e6fa64800c6dbba9ddd1"), looks := false }, kinds := [], alts := [], laidByText := true, laidKinds := [.data], laidTests := true, laidLooks := .later }
def DigestProofAcceptedUptoCardSaid : Prop := Claim7.holds Tryd.pinned (.plain (OpenSpec.upto digestProofAcceptedSpec)) digestProofAcceptedUptoCard
end Rows
end Go.Proofs.YtbaggjhjkignkaaDoor
