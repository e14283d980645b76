/-
  DERIVED. GIVEN WITH THE SEED: THE CARDS: each row of YtihohjgjklcnlaaDoorRows.lean that lists a variable, with what it lists TIED to the program's text (the seventh form; the later family's looks); each row that meets fmt, with fmt's text TOLD by the authors' own Lean function (tested against real Go, not proved from fmt's source: count such statements apart). THE CARD IS WHAT COUNTS. Prove the row's statement (the work); the ties are given (YtihohjgjklcnlaaDoorTie.lean); close each card by the builder's one call (the guide's Derived/Test/ToyasCard.lean, 'card_holds'). Laid BY PROGRAM, IN A SANDBOX (cutbox-door.mjs). By AI agents, Wed Nov 11 2026. No macro, syntax, notation, axiom, sorry.
-/
import Derived.Test.YtihohjgjklcnlaaDoorRows
import GoSem.ClaimSeven
namespace Go.Proofs.YtihohjgjklcnlaaDoor
namespace Rows

/-- THE TIED CARD OF 'cleanroomlaw09.CertifySafe'. -/
def certifySafeCard : Claim7 := { stood := { row := certifySafeRow, standIns := [], harness := (true, "5525114c7adf425dbb03f7f3d5bfd400766d8dc32cebf7ba860010d8e3e61684"), looks := true }, kinds := [], alts := [], laidByText := true, laidKinds := [.data], laidTests := true, laidLooks := .later }
def CertifySafeCardSaid : Prop := Claim7.holds Tryd.pinned (.plain (OpenSpec.ofChange certifySafeSpec)) certifySafeCard

/-- THE TIED CARD OF 'cleanroomlaw09.CertifyUnsafe'. -/
def certifyUnsafeCard : Claim7 := { stood := { row := certifyUnsafeRow, standIns := [], harness := (true, "5525114c7adf425dbb03f7f3d5bfd400766d8dc32cebf7ba860010d8e3e61684"), looks := true }, kinds := [], alts := [], laidByText := true, laidKinds := [.data], laidTests := true, laidLooks := .later }
def CertifyUnsafeCardSaid : Prop := Claim7.holds Tryd.pinned (.plain (OpenSpec.ofChange certifyUnsafeSpec)) certifyUnsafeCard

/-- THE TIED CARD OF 'cleanroomlaw09.CertifyTight'. -/
def certifyTightCard : Claim7 := { stood := { row := certifyTightRow, standIns := [], harness := (true, "5525114c7adf425dbb03f7f3d5bfd400766d8dc32cebf7ba860010d8e3e61684"), looks := true }, kinds := [], alts := [], laidByText := true, laidKinds := [.data], laidTests := true, laidLooks := .later }
def CertifyTightCardSaid : Prop := Claim7.holds Tryd.pinned (.plain (OpenSpec.ofChange certifyTightSpec)) certifyTightCard

/-- THE TIED CARD OF 'cleanroomlaw09.CertifyNarrower'. -/
def certifyNarrowerCard : Claim7 := { stood := { row := certifyNarrowerRow, standIns := [], harness := (true, "5525114c7adf425dbb03f7f3d5bfd400766d8dc32cebf7ba860010d8e3e61684"), looks := true }, kinds := [], alts := [], laidByText := true, laidKinds := [.data], laidTests := true, laidLooks := .later }
def CertifyNarrowerCardSaid : Prop := Claim7.holds Tryd.pinned (.plain (OpenSpec.ofChange certifyNarrowerSpec)) certifyNarrowerCard

/-- THE TIED CARD OF 'cleanroomlaw09.CertifySlack'. -/
def certifySlackCard : Claim7 := { stood := { row := certifySlackRow, standIns := [], harness := (true, "5525114c7adf425dbb03f7f3d5bfd400766d8dc32cebf7ba860010d8e3e61684"), looks := true }, kinds := [], alts := [], laidByText := true, laidKinds := [.data], laidTests := true, laidLooks := .later }
def CertifySlackCardSaid : Prop := Claim7.holds Tryd.pinned (.plain (OpenSpec.ofChange certifySlackSpec)) certifySlackCard

/-- THE TIED CARD OF 'cleanroomlaw09.CertifyRoundTrip'. -/
def certifyRoundTripCard : Claim7 := { stood := { row := certifyRoundTripRow, standIns := [], harness := (true, "5525114c7adf425dbb03f7f3d5bfd400766d8dc32cebf7ba860010d8e3e61684"), looks := true }, kinds := [], alts := [], laidByText := true, laidKinds := [.data], laidTests := true, laidLooks := .later }
def CertifyRoundTripCardSaid : Prop := Claim7.holds Tryd.pinned (.plain (OpenSpec.ofChange certifyRoundTripSpec)) certifyRoundTripCard

/-- THE TIED CARD OF 'cleanroomlaw09.CertifyBooked'. -/
def certifyBookedCard : Claim7 := { stood := { row := certifyBookedRow, standIns := [], harness := (true, "5525114c7adf425dbb03f7f3d5bfd400766d8dc32cebf7ba860010d8e3e61684"), looks := true }, kinds := [], alts := [], laidByText := true, laidKinds := [.data], laidTests := true, laidLooks := .later }
def CertifyBookedCardSaid : Prop := Claim7.holds Tryd.pinned (.plain (OpenSpec.ofChange certifyBookedSpec)) certifyBookedCard

/-- THE SECOND FORM's CARD OF 'cleanroomlaw09.CertifySafe'. -/
def certifySafeUptoCard : Claim7 := { stood := { row := certifySafeUptoRow, standIns := [], harness := (true, "5525114c7adf425dbb03f7f3d5bfd400766d8dc32cebf7ba860010d8e3e61684"), looks := true }, kinds := [], alts := [], laidByText := true, laidKinds := [.data], laidTests := true, laidLooks := .later }
def CertifySafeUptoCardSaid : Prop := Claim7.holds Tryd.pinned (.plain (OpenSpec.upto certifySafeSpec)) certifySafeUptoCard

/-- THE SECOND FORM's CARD OF 'cleanroomlaw09.CertifyUnsafe'. -/
def certifyUnsafeUptoCard : Claim7 := { stood := { row := certifyUnsafeUptoRow, standIns := [], harness := (true, "5525114c7adf425dbb03f7f3d5bfd400766d8dc32cebf7ba860010d8e3e61684"), looks := true }, kinds := [], alts := [], laidByText := true, laidKinds := [.data], laidTests := true, laidLooks := .later }
def CertifyUnsafeUptoCardSaid : Prop := Claim7.holds Tryd.pinned (.plain (OpenSpec.upto certifyUnsafeSpec)) certifyUnsafeUptoCard

/-- THE SECOND FORM's CARD OF 'cleanroomlaw09.CertifyTight'. -/
def certifyTightUptoCard : Claim7 := { stood := { row := certifyTightUptoRow, standIns := [], harness := (true, "5525114c7adf425dbb03f7f3d5bfd400766d8dc32cebf7ba860010d8e3e61684"), looks := true }, kinds := [], alts := [], laidByText := true, laidKinds := [.data], laidTests := true, laidLooks := .later }
def CertifyTightUptoCardSaid : Prop := Claim7.holds Tryd.pinned (.plain (OpenSpec.upto certifyTightSpec)) certifyTightUptoCard

/-- THE SECOND FORM's CARD OF 'cleanroomlaw09.CertifyNarrower'. -/
def certifyNarrowerUptoCard : Claim7 := { stood := { row := certifyNarrowerUptoRow, standIns := [], harness := (true, "5525114c7adf425dbb03f7f3d5bfd400766d8dc32cebf7ba860010d8e3e61684"), looks := true }, kinds := [], alts := [], laidByText := true, laidKinds := [.data], laidTests := true, laidLooks := .later }
def CertifyNarrowerUptoCardSaid : Prop := Claim7.holds Tryd.pinned (.plain (OpenSpec.upto certifyNarrowerSpec)) certifyNarrowerUptoCard

/-- THE SECOND FORM's CARD OF 'cleanroomlaw09.CertifySlack'. -/
def certifySlackUptoCard : Claim7 := { stood := { row := certifySlackUptoRow, standIns := [], harness := (true, "5525114c7adf425dbb03f7f3d5bfd400766d8dc32cebf7ba860010d8e3e61684"), looks := true }, kinds := [], alts := [], laidByText := true, laidKinds := [.data], laidTests := true, laidLooks := .later }
def CertifySlackUptoCardSaid : Prop := Claim7.holds Tryd.pinned (.plain (OpenSpec.upto certifySlackSpec)) certifySlackUptoCard

/-- THE SECOND FORM's CARD OF 'cleanroomlaw09.CertifyRoundTrip'. -/
def certifyRoundTripUptoCard : Claim7 := { stood := { row := certifyRoundTripUptoRow, standIns := [], harness := (true, "5525114c7adf425dbb03f7f3d5bfd400766d8dc32cebf7ba860010d8e3e61684"), looks := true }, kinds := [], alts := [], laidByText := true, laidKinds := [.data], laidTests := true, laidLooks := .later }
def CertifyRoundTripUptoCardSaid : Prop := Claim7.holds Tryd.pinned (.plain (OpenSpec.upto certifyRoundTripSpec)) certifyRoundTripUptoCard

/-- THE SECOND FORM's CARD OF 'cleanroomlaw09.CertifyBooked'. -/
def certifyBookedUptoCard : Claim7 := { stood := { row := certifyBookedUptoRow, standIns := [], harness := (true, "5525114c7adf425dbb03f7f3d5bfd400766d8dc32cebf7ba860010d8e3e61684"), looks := true }, kinds := [], alts := [], laidByText := true, laidKinds := [.data], laidTests := true, laidLooks := .later }
def CertifyBookedUptoCardSaid : Prop := Claim7.holds Tryd.pinned (.plain (OpenSpec.upto certifyBookedSpec)) certifyBookedUptoCard
end Rows
end Go.Proofs.YtihohjgjklcnlaaDoor
