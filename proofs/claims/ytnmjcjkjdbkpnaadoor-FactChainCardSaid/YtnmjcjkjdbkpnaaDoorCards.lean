/-
  DERIVED. GIVEN WITH THE SEED: THE CARDS: each row of YtnmjcjkjdbkpnaaDoorRows.lean that lists a variable, with what it lists TIED to the program's text (the seventh form; the later family's looks); each row that meets fmt, with fmt's text TOLD by the authors' own Lean function (tested against real Go, not proved from fmt's source: count such statements apart). THE CARD IS WHAT COUNTS. Prove the row's statement (the work); the ties are given (YtnmjcjkjdbkpnaaDoorTie.lean); close each card by the builder's one call (the guide's Derived/Test/ToyasCard.lean, 'card_holds'). Laid BY PROGRAM, IN A SANDBOX (cutbox-door.mjs). By AI agents, Wed Nov 11 2026. No macro, syntax, notation, axiom, sorry.
-/
import Derived.Test.YtnmjcjkjdbkpnaaDoorRows
import GoSem.ClaimSeven
namespace Go.Proofs.YtnmjcjkjdbkpnaaDoor
namespace Rows

/-- THE TIED CARD OF 'cleanroomlaw15.FactMatchesReference'. -/
def factMatchesReferenceCard : Claim7 := { stood := { row := factMatchesReferenceRow, standIns := [], harness := (true, "81123d834efc65f47aa86fd33809678e0ab7f5d1aa8017a9b2a34f92bf9c5de5"), looks := true }, kinds := [], alts := [], laidByText := true, laidKinds := [.data], laidTests := true, laidLooks := .later }
def FactMatchesReferenceCardSaid : Prop := Claim7.holds Tryd.pinned (.plain (OpenSpec.ofChange factMatchesReferenceSpec)) factMatchesReferenceCard

/-- THE TIED CARD OF 'cleanroomlaw15.FactDecodeMatchesReference'. -/
def factDecodeMatchesReferenceCard : Claim7 := { stood := { row := factDecodeMatchesReferenceRow, standIns := [], harness := (true, "81123d834efc65f47aa86fd33809678e0ab7f5d1aa8017a9b2a34f92bf9c5de5"), looks := true }, kinds := [], alts := [], laidByText := true, laidKinds := [.data], laidTests := true, laidLooks := .later }
def FactDecodeMatchesReferenceCardSaid : Prop := Claim7.holds Tryd.pinned (.plain (OpenSpec.ofChange factDecodeMatchesReferenceSpec)) factDecodeMatchesReferenceCard

/-- THE TIED CARD OF 'cleanroomlaw15.FactRoundTrip'. -/
def factRoundTripCard : Claim7 := { stood := { row := factRoundTripRow, standIns := [], harness := (true, "81123d834efc65f47aa86fd33809678e0ab7f5d1aa8017a9b2a34f92bf9c5de5"), looks := true }, kinds := [], alts := [], laidByText := true, laidKinds := [.data], laidTests := true, laidLooks := .later }
def FactRoundTripCardSaid : Prop := Claim7.holds Tryd.pinned (.plain (OpenSpec.ofChange factRoundTripSpec)) factRoundTripCard

/-- THE TIED CARD OF 'cleanroomlaw15.FactDecodedAgain'. -/
def factDecodedAgainCard : Claim7 := { stood := { row := factDecodedAgainRow, standIns := [], harness := (true, "81123d834efc65f47aa86fd33809678e0ab7f5d1aa8017a9b2a34f92bf9c5de5"), looks := true }, kinds := [], alts := [], laidByText := true, laidKinds := [.data], laidTests := true, laidLooks := .later }
def FactDecodedAgainCardSaid : Prop := Claim7.holds Tryd.pinned (.plain (OpenSpec.ofChange factDecodedAgainSpec)) factDecodedAgainCard

/-- THE TIED CARD OF 'cleanroomlaw15.FactPrefixes'. -/
def factPrefixesCard : Claim7 := { stood := { row := factPrefixesRow, standIns := [], harness := (true, "81123d834efc65f47aa86fd33809678e0ab7f5d1aa8017a9b2a34f92bf9c5de5"), looks := true }, kinds := [], alts := [], laidByText := true, laidKinds := [.data], laidTests := true, laidLooks := .later }
def FactPrefixesCardSaid : Prop := Claim7.holds Tryd.pinned (.plain (OpenSpec.ofChange factPrefixesSpec)) factPrefixesCard

/-- THE TIED CARD OF 'cleanroomlaw15.FactKeys'. -/
def factKeysCard : Claim7 := { stood := { row := factKeysRow, standIns := [], harness := (true, "81123d834efc65f47aa86fd33809678e0ab7f5d1aa8017a9b2a34f92bf9c5de5"), looks := true }, kinds := [], alts := [], laidByText := true, laidKinds := [.data], laidTests := true, laidLooks := .later }
def FactKeysCardSaid : Prop := Claim7.holds Tryd.pinned (.plain (OpenSpec.ofChange factKeysSpec)) factKeysCard

/-- THE TIED CARD OF 'cleanroomlaw15.FactPrevails'. -/
def factPrevailsCard : Claim7 := { stood := { row := factPrevailsRow, standIns := [], harness := (true, "81123d834efc65f47aa86fd33809678e0ab7f5d1aa8017a9b2a34f92bf9c5de5"), looks := true }, kinds := [], alts := [], laidByText := true, laidKinds := [.data], laidTests := true, laidLooks := .later }
def FactPrevailsCardSaid : Prop := Claim7.holds Tryd.pinned (.plain (OpenSpec.ofChange factPrevailsSpec)) factPrevailsCard

/-- THE TIED CARD OF 'cleanroomlaw15.FactChain'. -/
def factChainCard : Claim7 := { stood := { row := factChainRow, standIns := [], harness := (true, "81123d834efc65f47aa86fd33809678e0ab7f5d1aa8017a9b2a34f92bf9c5de5"), looks := true }, kinds := [], alts := [], laidByText := true, laidKinds := [.data], laidTests := true, laidLooks := .later }
def FactChainCardSaid : Prop := Claim7.holds Tryd.pinned (.plain (OpenSpec.ofChange factChainSpec)) factChainCard

/-- THE TIED CARD OF 'cleanroomlaw15.FactHeads'. -/
def factHeadsCard : Claim7 := { stood := { row := factHeadsRow, standIns := [], harness := (true, "81123d834efc65f47aa86fd33809678e0ab7f5d1aa8017a9b2a34f92bf9c5de5"), looks := true }, kinds := [], alts := [], laidByText := true, laidKinds := [.data], laidTests := true, laidLooks := .later }
def FactHeadsCardSaid : Prop := Claim7.holds Tryd.pinned (.plain (OpenSpec.ofChange factHeadsSpec)) factHeadsCard

/-- THE SECOND FORM's CARD OF 'cleanroomlaw15.FactMatchesReference'. -/
def factMatchesReferenceUptoCard : Claim7 := { stood := { row := factMatchesReferenceUptoRow, standIns := [], harness := (true, "81123d834efc65f47aa86fd33809678e0ab7f5d1aa8017a9b2a34f92bf9c5de5"), looks := true }, kinds := [], alts := [], laidByText := true, laidKinds := [.data], laidTests := true, laidLooks := .later }
def FactMatchesReferenceUptoCardSaid : Prop := Claim7.holds Tryd.pinned (.plain (OpenSpec.upto factMatchesReferenceSpec)) factMatchesReferenceUptoCard

/-- THE SECOND FORM's CARD OF 'cleanroomlaw15.FactDecodeMatchesReference'. -/
def factDecodeMatchesReferenceUptoCard : Claim7 := { stood := { row := factDecodeMatchesReferenceUptoRow, standIns := [], harness := (true, "81123d834efc65f47aa86fd33809678e0ab7f5d1aa8017a9b2a34f92bf9c5de5"), looks := true }, kinds := [], alts := [], laidByText := true, laidKinds := [.data], laidTests := true, laidLooks := .later }
def FactDecodeMatchesReferenceUptoCardSaid : Prop := Claim7.holds Tryd.pinned (.plain (OpenSpec.upto factDecodeMatchesReferenceSpec)) factDecodeMatchesReferenceUptoCard

/-- THE SECOND FORM's CARD OF 'cleanroomlaw15.FactRoundTrip'. -/
def factRoundTripUptoCard : Claim7 := { stood := { row := factRoundTripUptoRow, standIns := [], harness := (true, "81123d834efc65f47aa86fd33809678e0ab7f5d1aa8017a9b2a34f92bf9c5de5"), looks := true }, kinds := [], alts := [], laidByText := true, laidKinds := [.data], laidTests := true, laidLooks := .later }
def FactRoundTripUptoCardSaid : Prop := Claim7.holds Tryd.pinned (.plain (OpenSpec.upto factRoundTripSpec)) factRoundTripUptoCard

/-- THE SECOND FORM's CARD OF 'cleanroomlaw15.FactDecodedAgain'. -/
def factDecodedAgainUptoCard : Claim7 := { stood := { row := factDecodedAgainUptoRow, standIns := [], harness := (true, "81123d834efc65f47aa86fd33809678e0ab7f5d1aa8017a9b2a34f92bf9c5de5"), looks := true }, kinds := [], alts := [], laidByText := true, laidKinds := [.data], laidTests := true, laidLooks := .later }
def FactDecodedAgainUptoCardSaid : Prop := Claim7.holds Tryd.pinned (.plain (OpenSpec.upto factDecodedAgainSpec)) factDecodedAgainUptoCard

/-- THE SECOND FORM's CARD OF 'cleanroomlaw15.FactPrefixes'. -/
def factPrefixesUptoCard : Claim7 := { stood := { row := factPrefixesUptoRow, standIns := [], harness := (true, "81123d834efc65f47aa86fd33809678e0ab7f5d1aa8017a9b2a34f92bf9c5de5"), looks := true }, kinds := [], alts := [], laidByText := true, laidKinds := [.data], laidTests := true, laidLooks := .later }
def FactPrefixesUptoCardSaid : Prop := Claim7.holds Tryd.pinned (.plain (OpenSpec.upto factPrefixesSpec)) factPrefixesUptoCard

/-- THE SECOND FORM's CARD OF 'cleanroomlaw15.FactKeys'. -/
def factKeysUptoCard : Claim7 := { stood := { row := factKeysUptoRow, standIns := [], harness := (true, "81123d834efc65f47aa86fd33809678e0ab7f5d1aa8017a9b2a34f92bf9c5de5"), looks := true }, kinds := [], alts := [], laidByText := true, laidKinds := [.data], laidTests := true, laidLooks := .later }
def FactKeysUptoCardSaid : Prop := Claim7.holds Tryd.pinned (.plain (OpenSpec.upto factKeysSpec)) factKeysUptoCard

/-- THE SECOND FORM's CARD OF 'cleanroomlaw15.FactPrevails'. -/
def factPrevailsUptoCard : Claim7 := { stood := { row := factPrevailsUptoRow, standIns := [], harness := (true, "81123d834efc65f47aa86fd33809678e0ab7f5d1aa8017a9b2a34f92bf9c5de5"), looks := true }, kinds := [], alts := [], laidByText := true, laidKinds := [.data], laidTests := true, laidLooks := .later }
def FactPrevailsUptoCardSaid : Prop := Claim7.holds Tryd.pinned (.plain (OpenSpec.upto factPrevailsSpec)) factPrevailsUptoCard

/-- THE SECOND FORM's CARD OF 'cleanroomlaw15.FactChain'. -/
def factChainUptoCard : Claim7 := { stood := { row := factChainUptoRow, standIns := [], harness := (true, "81123d834efc65f47aa86fd33809678e0ab7f5d1aa8017a9b2a34f92bf9c5de5"), looks := true }, kinds := [], alts := [], laidByText := true, laidKinds := [.data], laidTests := true, laidLooks := .later }
def FactChainUptoCardSaid : Prop := Claim7.holds Tryd.pinned (.plain (OpenSpec.upto factChainSpec)) factChainUptoCard

/-- THE SECOND FORM's CARD OF 'cleanroomlaw15.FactHeads'. -/
def factHeadsUptoCard : Claim7 := { stood := { row := factHeadsUptoRow, standIns := [], harness := (true, "81123d834efc65f47aa86fd33809678e0ab7f5d1aa8017a9b2a34f92bf9c5de5"), looks := true }, kinds := [], alts := [], laidByText := true, laidKinds := [.data], laidTests := true, laidLooks := .later }
def FactHeadsUptoCardSaid : Prop := Claim7.holds Tryd.pinned (.plain (OpenSpec.upto factHeadsSpec)) factHeadsUptoCard
end Rows
end Go.Proofs.YtnmjcjkjdbkpnaaDoor
