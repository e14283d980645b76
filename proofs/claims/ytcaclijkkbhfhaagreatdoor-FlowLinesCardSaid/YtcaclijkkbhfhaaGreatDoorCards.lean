/-
  DERIVED. GIVEN WITH THE SEED: THE CARDS: each row of YtcaclijkkbhfhaaGreatDoorRows.lean that lists a variable, with what it lists TIED to the program's text (the seventh form; the later family's looks); each row that meets fmt, with fmt's text TOLD by the authors' own Lean function (tested against real Go, not proved from fmt's source: count such statements apart). THE CARD IS WHAT COUNTS. Prove the row's statement (the work); the ties are given (YtcaclijkkbhfhaaGreatDoorTie.lean); close each card by the builder's one call (the guide's Derived/Test/ToyasCard.lean, 'card_holds'). Laid BY PROGRAM, IN A SANDBOX (cutbox-door.mjs). By AI agents, Wed Nov 11 2026. No macro, syntax, notation, axiom, sorry.
-/
import Derived.Test.YtcaclijkkbhfhaaGreatDoorRows
import GoSem.ClaimSeven
namespace Go.Proofs.YtcaclijkkbhfhaaGreatDoor
namespace Rows

/-- THE TIED CARD OF 'cleanroomlaw04.FlowMatchesReference'. -/
def flowMatchesReferenceCard : Claim7 := { stood := { row := flowMatchesReferenceRow, standIns := [], harness := (true, "54d22a3704d57da643c9da2072f7bab5ac1228b6ad2adaa7c2e52531c8a60f40"), looks := true }, kinds := [], alts := [], laidByText := true, laidKinds := [.data, .data, .data, .data, .sentinel, .sentinel, .sentinel, .pinned], laidTests := true, laidLooks := .later }
def FlowMatchesReferenceCardSaid : Prop := Claim7.holds Tryz.pinned (.plain (OpenSpec.ofChange flowMatchesReferenceSpec)) flowMatchesReferenceCard

/-- THE TIED CARD OF 'cleanroomlaw04.FlowParseMatchesReference'. -/
def flowParseMatchesReferenceCard : Claim7 := { stood := { row := flowParseMatchesReferenceRow, standIns := [], harness := (true, "54d22a3704d57da643c9da2072f7bab5ac1228b6ad2adaa7c2e52531c8a60f40"), looks := true }, kinds := [], alts := [], laidByText := true, laidKinds := [.data, .data, .data, .data, .sentinel, .sentinel, .sentinel, .pinned], laidTests := true, laidLooks := .later }
def FlowParseMatchesReferenceCardSaid : Prop := Claim7.holds Tryz.pinned (.plain (OpenSpec.ofChange flowParseMatchesReferenceSpec)) flowParseMatchesReferenceCard

/-- THE TIED CARD OF 'cleanroomlaw04.FlowRoundTrip'. -/
def flowRoundTripCard : Claim7 := { stood := { row := flowRoundTripRow, standIns := [], harness := (true, "54d22a3704d57da643c9da2072f7bab5ac1228b6ad2adaa7c2e52531c8a60f40"), looks := true }, kinds := [], alts := [], laidByText := true, laidKinds := [.data, .data, .data, .data, .sentinel, .sentinel, .sentinel, .pinned], laidTests := true, laidLooks := .later }
def FlowRoundTripCardSaid : Prop := Claim7.holds Tryz.pinned (.plain (OpenSpec.ofChange flowRoundTripSpec)) flowRoundTripCard

/-- THE TIED CARD OF 'cleanroomlaw04.FlowParsedAgain'. -/
def flowParsedAgainCard : Claim7 := { stood := { row := flowParsedAgainRow, standIns := [], harness := (true, "54d22a3704d57da643c9da2072f7bab5ac1228b6ad2adaa7c2e52531c8a60f40"), looks := true }, kinds := [], alts := [], laidByText := true, laidKinds := [.data, .data, .data, .data, .sentinel, .sentinel, .sentinel, .pinned], laidTests := true, laidLooks := .later }
def FlowParsedAgainCardSaid : Prop := Claim7.holds Tryz.pinned (.plain (OpenSpec.ofChange flowParsedAgainSpec)) flowParsedAgainCard

/-- THE TIED CARD OF 'cleanroomlaw04.FlowDistinct'. -/
def flowDistinctCard : Claim7 := { stood := { row := flowDistinctRow, standIns := [], harness := (true, "54d22a3704d57da643c9da2072f7bab5ac1228b6ad2adaa7c2e52531c8a60f40"), looks := true }, kinds := [], alts := [], laidByText := true, laidKinds := [.data, .data, .data, .data, .sentinel, .sentinel, .sentinel, .pinned], laidTests := true, laidLooks := .later }
def FlowDistinctCardSaid : Prop := Claim7.holds Tryz.pinned (.plain (OpenSpec.ofChange flowDistinctSpec)) flowDistinctCard

/-- THE TIED CARD OF 'cleanroomlaw04.FlowLines'. -/
def flowLinesCard : Claim7 := { stood := { row := flowLinesRow, standIns := [], harness := (true, "54d22a3704d57da643c9da2072f7bab5ac1228b6ad2adaa7c2e52531c8a60f40"), looks := true }, kinds := [], alts := [], laidByText := true, laidKinds := [.data, .data, .data, .data, .sentinel, .sentinel, .sentinel, .pinned], laidTests := true, laidLooks := .later }
def FlowLinesCardSaid : Prop := Claim7.holds Tryz.pinned (.plain (OpenSpec.ofChange flowLinesSpec)) flowLinesCard

/-- THE TIED CARD OF 'cleanroomlaw04.FlowFirstError'. -/
def flowFirstErrorCard : Claim7 := { stood := { row := flowFirstErrorRow, standIns := [], harness := (true, "54d22a3704d57da643c9da2072f7bab5ac1228b6ad2adaa7c2e52531c8a60f40"), looks := true }, kinds := [], alts := [], laidByText := true, laidKinds := [.data, .data, .data, .data, .sentinel, .sentinel, .sentinel, .pinned], laidTests := true, laidLooks := .later }
def FlowFirstErrorCardSaid : Prop := Claim7.holds Tryz.pinned (.plain (OpenSpec.ofChange flowFirstErrorSpec)) flowFirstErrorCard

/-- THE TIED CARD OF 'cleanroomlaw04.FlowParts'. -/
def flowPartsCard : Claim7 := { stood := { row := flowPartsRow, standIns := [], harness := (true, "54d22a3704d57da643c9da2072f7bab5ac1228b6ad2adaa7c2e52531c8a60f40"), looks := true }, kinds := [], alts := [], laidByText := true, laidKinds := [.data, .data, .data, .data, .sentinel, .sentinel, .sentinel, .pinned], laidTests := true, laidLooks := .later }
def FlowPartsCardSaid : Prop := Claim7.holds Tryz.pinned (.plain (OpenSpec.ofChange flowPartsSpec)) flowPartsCard

/-- THE SECOND FORM's CARD OF 'cleanroomlaw04.FlowMatchesReference'. -/
def flowMatchesReferenceUptoCard : Claim7 := { stood := { row := flowMatchesReferenceUptoRow, standIns := [], harness := (true, "54d22a3704d57da643c9da2072f7bab5ac1228b6ad2adaa7c2e52531c8a60f40"), looks := true }, kinds := [], alts := [], laidByText := true, laidKinds := [.data, .data, .data, .data, .sentinel, .sentinel, .sentinel, .pinned], laidTests := true, laidLooks := .later }
def FlowMatchesReferenceUptoCardSaid : Prop := Claim7.holds Tryz.pinned (.plain (OpenSpec.upto flowMatchesReferenceSpec)) flowMatchesReferenceUptoCard

/-- THE SECOND FORM's CARD OF 'cleanroomlaw04.FlowParseMatchesReference'. -/
def flowParseMatchesReferenceUptoCard : Claim7 := { stood := { row := flowParseMatchesReferenceUptoRow, standIns := [], harness := (true, "54d22a3704d57da643c9da2072f7bab5ac1228b6ad2adaa7c2e52531c8a60f40"), looks := true }, kinds := [], alts := [], laidByText := true, laidKinds := [.data, .data, .data, .data, .sentinel, .sentinel, .sentinel, .pinned], laidTests := true, laidLooks := .later }
def FlowParseMatchesReferenceUptoCardSaid : Prop := Claim7.holds Tryz.pinned (.plain (OpenSpec.upto flowParseMatchesReferenceSpec)) flowParseMatchesReferenceUptoCard

/-- THE SECOND FORM's CARD OF 'cleanroomlaw04.FlowRoundTrip'. -/
def flowRoundTripUptoCard : Claim7 := { stood := { row := flowRoundTripUptoRow, standIns := [], harness := (true, "54d22a3704d57da643c9da2072f7bab5ac1228b6ad2adaa7c2e52531c8a60f40"), looks := true }, kinds := [], alts := [], laidByText := true, laidKinds := [.data, .data, .data, .data, .sentinel, .sentinel, .sentinel, .pinned], laidTests := true, laidLooks := .later }
def FlowRoundTripUptoCardSaid : Prop := Claim7.holds Tryz.pinned (.plain (OpenSpec.upto flowRoundTripSpec)) flowRoundTripUptoCard

/-- THE SECOND FORM's CARD OF 'cleanroomlaw04.FlowParsedAgain'. -/
def flowParsedAgainUptoCard : Claim7 := { stood := { row := flowParsedAgainUptoRow, standIns := [], harness := (true, "54d22a3704d57da643c9da2072f7bab5ac1228b6ad2adaa7c2e52531c8a60f40"), looks := true }, kinds := [], alts := [], laidByText := true, laidKinds := [.data, .data, .data, .data, .sentinel, .sentinel, .sentinel, .pinned], laidTests := true, laidLooks := .later }
def FlowParsedAgainUptoCardSaid : Prop := Claim7.holds Tryz.pinned (.plain (OpenSpec.upto flowParsedAgainSpec)) flowParsedAgainUptoCard

/-- THE SECOND FORM's CARD OF 'cleanroomlaw04.FlowDistinct'. -/
def flowDistinctUptoCard : Claim7 := { stood := { row := flowDistinctUptoRow, standIns := [], harness := (true, "54d22a3704d57da643c9da2072f7bab5ac1228b6ad2adaa7c2e52531c8a60f40"), looks := true }, kinds := [], alts := [], laidByText := true, laidKinds := [.data, .data, .data, .data, .sentinel, .sentinel, .sentinel, .pinned], laidTests := true, laidLooks := .later }
def FlowDistinctUptoCardSaid : Prop := Claim7.holds Tryz.pinned (.plain (OpenSpec.upto flowDistinctSpec)) flowDistinctUptoCard

/-- THE SECOND FORM's CARD OF 'cleanroomlaw04.FlowLines'. -/
def flowLinesUptoCard : Claim7 := { stood := { row := flowLinesUptoRow, standIns := [], harness := (true, "54d22a3704d57da643c9da2072f7bab5ac1228b6ad2adaa7c2e52531c8a60f40"), looks := true }, kinds := [], alts := [], laidByText := true, laidKinds := [.data, .data, .data, .data, .sentinel, .sentinel, .sentinel, .pinned], laidTests := true, laidLooks := .later }
def FlowLinesUptoCardSaid : Prop := Claim7.holds Tryz.pinned (.plain (OpenSpec.upto flowLinesSpec)) flowLinesUptoCard

/-- THE SECOND FORM's CARD OF 'cleanroomlaw04.FlowFirstError'. -/
def flowFirstErrorUptoCard : Claim7 := { stood := { row := flowFirstErrorUptoRow, standIns := [], harness := (true, "54d22a3704d57da643c9da2072f7bab5ac1228b6ad2adaa7c2e52531c8a60f40"), looks := true }, kinds := [], alts := [], laidByText := true, laidKinds := [.data, .data, .data, .data, .sentinel, .sentinel, .sentinel, .pinned], laidTests := true, laidLooks := .later }
def FlowFirstErrorUptoCardSaid : Prop := Claim7.holds Tryz.pinned (.plain (OpenSpec.upto flowFirstErrorSpec)) flowFirstErrorUptoCard

/-- THE SECOND FORM's CARD OF 'cleanroomlaw04.FlowParts'. -/
def flowPartsUptoCard : Claim7 := { stood := { row := flowPartsUptoRow, standIns := [], harness := (true, "54d22a3704d57da643c9da2072f7bab5ac1228b6ad2adaa7c2e52531c8a60f40"), looks := true }, kinds := [], alts := [], laidByText := true, laidKinds := [.data, .data, .data, .data, .sentinel, .sentinel, .sentinel, .pinned], laidTests := true, laidLooks := .later }
def FlowPartsUptoCardSaid : Prop := Claim7.holds Tryz.pinned (.plain (OpenSpec.upto flowPartsSpec)) flowPartsUptoCard
end Rows
end Go.Proofs.YtcaclijkkbhfhaaGreatDoor
