/-
  No cell of these rows narrows 'for every input' (looked for: loops, veiled, ifaces, maps, wideKeys, modest, calm, conditions, laid).
  DERIVED. THE GIVEN ROWS OF THIS SEAT. 7 by the template 'for every input the law returns true; each argument reads behind the call as it read before'; 0 by the template 'total and deterministic' (their statements: YtealfgeeigffbaaTotals.lean).
  GIVEN WITH THE SEED: the statements are not yours to turn. If you find one false, say at which input.
  Laid BY PROGRAM, IN A SANDBOX (cutbox-rows.mjs): the forced cells as the released guide's own fill.sh prints them over the translation 140eaa467a2a8d2c… (all of the seat's roots in one cut). By AI agents, Wed Nov 11 2026. No macro, syntax, notation, axiom, sorry.
-/
import Derived.Test.YtealfgeeigffbaaChecked
import GoSem.Claim
import GoSem.ClaimJoined
import GoSem.ClaimMapViews
import Derived.JoinedTies
import Derived.KernelRfl
namespace Go.Proofs.Ytealfgeeigffbaa
/- THE CELL 'sum', in the pinned program and in every row, IS THE sha256 OF THE DUMP (.gsa) THAT YtealfgeeigffbaaProg.lean LOADS. Nothing in Lean hashes anything: it is a label: what it is worth is what the hold of that sum in a sandbox is worth. -/
noncomputable def Try.pinned : Pinned := { name := "ytealfgeeigffbaa", sum := "140eaa467a2a8d2cb0c23fbed8dcd312be73c340e983278bbca656fcc9b8de7a", checked := Try.checked }
namespace Rows
def none {H : Type} : Left H := { results := [], args := [] }

/-- 'cleanroomlaw07.CalendarMatchesReference': WHATEVER THE INPUT: true; the input reads as it did. -/
def calendarMatchesReferenceSpec : ChangeSpec := { name := "calendarMatchesReference", fn := fun _ => fun
  | [d1, d2, d3, d4] => { results := [.lit (.bool true)], args := [d1, d2, d3, d4] }
  | _ => none }
def calendarMatchesReferenceRow : OpenClaim := { program := "ytealfgeeigffbaa", sum := "140eaa467a2a8d2cb0c23fbed8dcd312be73c340e983278bbca656fcc9b8de7a", func := "cleanroom/cleanroomlaw07.CalendarMatchesReference", spec := "calendarMatchesReference", unfollowed := true, recurses := true, apart := false }
def CalendarMatchesReferenceSaid : Prop := calendarMatchesReferenceRow.holds Try.pinned (OpenSpec.ofChange calendarMatchesReferenceSpec)

/-- ITS FALSE NEIGHBOUR: 'it returns false'. Refute it at one input. -/
def calendarMatchesReferenceWrong : ChangeSpec := { name := "calendarMatchesReference", fn := fun _ => fun
  | [d1, d2, d3, d4] => { results := [.lit (.bool false)], args := [d1, d2, d3, d4] }
  | _ => none }
def CalendarMatchesReferenceWrongFalsely : Prop := calendarMatchesReferenceRow.holds Try.pinned (OpenSpec.ofChange calendarMatchesReferenceWrong)

/-- 'cleanroomlaw07.CalendarExclusive': WHATEVER THE INPUT: true; the input reads as it did. -/
def calendarExclusiveSpec : ChangeSpec := { name := "calendarExclusive", fn := fun _ => fun
  | [d1, d2] => { results := [.lit (.bool true)], args := [d1, d2] }
  | _ => none }
def calendarExclusiveRow : OpenClaim := { program := "ytealfgeeigffbaa", sum := "140eaa467a2a8d2cb0c23fbed8dcd312be73c340e983278bbca656fcc9b8de7a", func := "cleanroom/cleanroomlaw07.CalendarExclusive", spec := "calendarExclusive", unfollowed := true, recurses := true, apart := false }
def CalendarExclusiveSaid : Prop := calendarExclusiveRow.holds Try.pinned (OpenSpec.ofChange calendarExclusiveSpec)

/-- ITS FALSE NEIGHBOUR: 'it returns false'. Refute it at one input. -/
def calendarExclusiveWrong : ChangeSpec := { name := "calendarExclusive", fn := fun _ => fun
  | [d1, d2] => { results := [.lit (.bool false)], args := [d1, d2] }
  | _ => none }
def CalendarExclusiveWrongFalsely : Prop := calendarExclusiveRow.holds Try.pinned (OpenSpec.ofChange calendarExclusiveWrong)

/-- 'cleanroomlaw07.CalendarFirst': WHATEVER THE INPUT: true; the input reads as it did. -/
def calendarFirstSpec : ChangeSpec := { name := "calendarFirst", fn := fun _ => fun
  | [d1, d2, d3, d4, d5] => { results := [.lit (.bool true)], args := [d1, d2, d3, d4, d5] }
  | _ => none }
def calendarFirstRow : OpenClaim := { program := "ytealfgeeigffbaa", sum := "140eaa467a2a8d2cb0c23fbed8dcd312be73c340e983278bbca656fcc9b8de7a", func := "cleanroom/cleanroomlaw07.CalendarFirst", spec := "calendarFirst", unfollowed := true, recurses := true, apart := false }
def CalendarFirstSaid : Prop := calendarFirstRow.holds Try.pinned (OpenSpec.ofChange calendarFirstSpec)

/-- ITS FALSE NEIGHBOUR: 'it returns false'. Refute it at one input. -/
def calendarFirstWrong : ChangeSpec := { name := "calendarFirst", fn := fun _ => fun
  | [d1, d2, d3, d4, d5] => { results := [.lit (.bool false)], args := [d1, d2, d3, d4, d5] }
  | _ => none }
def CalendarFirstWrongFalsely : Prop := calendarFirstRow.holds Try.pinned (OpenSpec.ofChange calendarFirstWrong)

/-- 'cleanroomlaw07.CalendarOrder': WHATEVER THE INPUT: true; the input reads as it did. -/
def calendarOrderSpec : ChangeSpec := { name := "calendarOrder", fn := fun _ => fun
  | [d1, d2] => { results := [.lit (.bool true)], args := [d1, d2] }
  | _ => none }
def calendarOrderRow : OpenClaim := { program := "ytealfgeeigffbaa", sum := "140eaa467a2a8d2cb0c23fbed8dcd312be73c340e983278bbca656fcc9b8de7a", func := "cleanroom/cleanroomlaw07.CalendarOrder", spec := "calendarOrder", unfollowed := true, recurses := true, apart := false }
def CalendarOrderSaid : Prop := calendarOrderRow.holds Try.pinned (OpenSpec.ofChange calendarOrderSpec)

/-- ITS FALSE NEIGHBOUR: 'it returns false'. Refute it at one input. -/
def calendarOrderWrong : ChangeSpec := { name := "calendarOrder", fn := fun _ => fun
  | [d1, d2] => { results := [.lit (.bool false)], args := [d1, d2] }
  | _ => none }
def CalendarOrderWrongFalsely : Prop := calendarOrderRow.holds Try.pinned (OpenSpec.ofChange calendarOrderWrong)

/-- 'cleanroomlaw07.CalendarFreed': WHATEVER THE INPUT: true; the input reads as it did. -/
def calendarFreedSpec : ChangeSpec := { name := "calendarFreed", fn := fun _ => fun
  | [d1, d2] => { results := [.lit (.bool true)], args := [d1, d2] }
  | _ => none }
def calendarFreedRow : OpenClaim := { program := "ytealfgeeigffbaa", sum := "140eaa467a2a8d2cb0c23fbed8dcd312be73c340e983278bbca656fcc9b8de7a", func := "cleanroom/cleanroomlaw07.CalendarFreed", spec := "calendarFreed", unfollowed := true, recurses := true, apart := false }
def CalendarFreedSaid : Prop := calendarFreedRow.holds Try.pinned (OpenSpec.ofChange calendarFreedSpec)

/-- ITS FALSE NEIGHBOUR: 'it returns false'. Refute it at one input. -/
def calendarFreedWrong : ChangeSpec := { name := "calendarFreed", fn := fun _ => fun
  | [d1, d2] => { results := [.lit (.bool false)], args := [d1, d2] }
  | _ => none }
def CalendarFreedWrongFalsely : Prop := calendarFreedRow.holds Try.pinned (OpenSpec.ofChange calendarFreedWrong)

/-- 'cleanroomlaw07.CalendarApart': WHATEVER THE INPUT: true; the input reads as it did. -/
def calendarApartSpec : ChangeSpec := { name := "calendarApart", fn := fun _ => fun
  | [d1, d2, d3, d4] => { results := [.lit (.bool true)], args := [d1, d2, d3, d4] }
  | _ => none }
def calendarApartRow : OpenClaim := { program := "ytealfgeeigffbaa", sum := "140eaa467a2a8d2cb0c23fbed8dcd312be73c340e983278bbca656fcc9b8de7a", func := "cleanroom/cleanroomlaw07.CalendarApart", spec := "calendarApart", unfollowed := true, recurses := true, apart := false }
def CalendarApartSaid : Prop := calendarApartRow.holds Try.pinned (OpenSpec.ofChange calendarApartSpec)

/-- ITS FALSE NEIGHBOUR: 'it returns false'. Refute it at one input. -/
def calendarApartWrong : ChangeSpec := { name := "calendarApart", fn := fun _ => fun
  | [d1, d2, d3, d4] => { results := [.lit (.bool false)], args := [d1, d2, d3, d4] }
  | _ => none }
def CalendarApartWrongFalsely : Prop := calendarApartRow.holds Try.pinned (OpenSpec.ofChange calendarApartWrong)

/-- 'cleanroomlaw07.CalendarClone': WHATEVER THE INPUT: true; the input reads as it did. -/
def calendarCloneSpec : ChangeSpec := { name := "calendarClone", fn := fun _ => fun
  | [d1, d2] => { results := [.lit (.bool true)], args := [d1, d2] }
  | _ => none }
def calendarCloneRow : OpenClaim := { program := "ytealfgeeigffbaa", sum := "140eaa467a2a8d2cb0c23fbed8dcd312be73c340e983278bbca656fcc9b8de7a", func := "cleanroom/cleanroomlaw07.CalendarClone", spec := "calendarClone", unfollowed := true, recurses := true, apart := false }
def CalendarCloneSaid : Prop := calendarCloneRow.holds Try.pinned (OpenSpec.ofChange calendarCloneSpec)

/-- ITS FALSE NEIGHBOUR: 'it returns false'. Refute it at one input. -/
def calendarCloneWrong : ChangeSpec := { name := "calendarClone", fn := fun _ => fun
  | [d1, d2] => { results := [.lit (.bool false)], args := [d1, d2] }
  | _ => none }
def CalendarCloneWrongFalsely : Prop := calendarCloneRow.holds Try.pinned (OpenSpec.ofChange calendarCloneWrong)

/- THE SECOND FORM. 'bulk': how many values and letters a reading holds, each counted each time it is reached (what is shared counts as often as it is met; a slice's spare places count too). A statement '..UptoSaid' is the law's where the arguments, and the package variables that the reading takes, are together of bulk at most 1048576: NARROWER than '..Said'. Prove '..Said' where nothing that the law and all that it calls make is longer than what came in: it says more and counts as full. Else prove '..UptoSaid'. A law counts once. -/
mutual
def uptoBulk {H : Type} : DataW H → Nat
  | .lit (.string bytes) => bytes.length + 1
  | .lit _ => 1
  | .nil => 1
  | .ptr d => uptoBulk d + 1
  | .slice elems spare => uptoBulkAll elems + uptoBulkAll spare + 1
  | .agg parts => uptoBulkAll parts + 1
  | .iface _ d => uptoBulk d + 1
  | .map entries => uptoBulkEntries entries + 1
  | .held _ => 1
def uptoBulkAll {H : Type} : List (DataW H) → Nat
  | [] => 0
  | d :: r => uptoBulk d + uptoBulkAll r
def uptoBulkEntries {H : Type} : List (Lit × DataW H) → Nat
  | [] => 0
  | x :: r => uptoBulkEntry x + uptoBulkEntries r
def uptoBulkEntry {H : Type} : Lit × DataW H → Nat
  | (.string bytes, d) => bytes.length + uptoBulk d + 1
  | (_, d) => uptoBulk d + 1
 end
def uptoSmall : (H : Type) → List (DataW H) → Bool := fun _ ds => decide (uptoBulkAll ds ≤ 1048576)
def OpenSpec.upto (s : _root_.Go.ChangeSpec) : _root_.Go.OpenSpec := { _root_.Go.OpenSpec.ofChange s with cond := some uptoSmall }

/-- 'cleanroomlaw07.CalendarMatchesReference', WHERE WHAT IT READS IS OF BULK AT MOST 1048576: true; the input reads as it did. -/
def calendarMatchesReferenceUptoRow : OpenClaim := { program := "ytealfgeeigffbaa", sum := "140eaa467a2a8d2cb0c23fbed8dcd312be73c340e983278bbca656fcc9b8de7a", func := "cleanroom/cleanroomlaw07.CalendarMatchesReference", spec := "calendarMatchesReference", unfollowed := true, recurses := true, apart := false, narrowed := true }
def CalendarMatchesReferenceUptoSaid : Prop := calendarMatchesReferenceUptoRow.holds Try.pinned (OpenSpec.upto calendarMatchesReferenceSpec)

/-- 'cleanroomlaw07.CalendarExclusive', WHERE WHAT IT READS IS OF BULK AT MOST 1048576: true; the input reads as it did. -/
def calendarExclusiveUptoRow : OpenClaim := { program := "ytealfgeeigffbaa", sum := "140eaa467a2a8d2cb0c23fbed8dcd312be73c340e983278bbca656fcc9b8de7a", func := "cleanroom/cleanroomlaw07.CalendarExclusive", spec := "calendarExclusive", unfollowed := true, recurses := true, apart := false, narrowed := true }
def CalendarExclusiveUptoSaid : Prop := calendarExclusiveUptoRow.holds Try.pinned (OpenSpec.upto calendarExclusiveSpec)

/-- 'cleanroomlaw07.CalendarFirst', WHERE WHAT IT READS IS OF BULK AT MOST 1048576: true; the input reads as it did. -/
def calendarFirstUptoRow : OpenClaim := { program := "ytealfgeeigffbaa", sum := "140eaa467a2a8d2cb0c23fbed8dcd312be73c340e983278bbca656fcc9b8de7a", func := "cleanroom/cleanroomlaw07.CalendarFirst", spec := "calendarFirst", unfollowed := true, recurses := true, apart := false, narrowed := true }
def CalendarFirstUptoSaid : Prop := calendarFirstUptoRow.holds Try.pinned (OpenSpec.upto calendarFirstSpec)

/-- 'cleanroomlaw07.CalendarOrder', WHERE WHAT IT READS IS OF BULK AT MOST 1048576: true; the input reads as it did. -/
def calendarOrderUptoRow : OpenClaim := { program := "ytealfgeeigffbaa", sum := "140eaa467a2a8d2cb0c23fbed8dcd312be73c340e983278bbca656fcc9b8de7a", func := "cleanroom/cleanroomlaw07.CalendarOrder", spec := "calendarOrder", unfollowed := true, recurses := true, apart := false, narrowed := true }
def CalendarOrderUptoSaid : Prop := calendarOrderUptoRow.holds Try.pinned (OpenSpec.upto calendarOrderSpec)

/-- 'cleanroomlaw07.CalendarFreed', WHERE WHAT IT READS IS OF BULK AT MOST 1048576: true; the input reads as it did. -/
def calendarFreedUptoRow : OpenClaim := { program := "ytealfgeeigffbaa", sum := "140eaa467a2a8d2cb0c23fbed8dcd312be73c340e983278bbca656fcc9b8de7a", func := "cleanroom/cleanroomlaw07.CalendarFreed", spec := "calendarFreed", unfollowed := true, recurses := true, apart := false, narrowed := true }
def CalendarFreedUptoSaid : Prop := calendarFreedUptoRow.holds Try.pinned (OpenSpec.upto calendarFreedSpec)

/-- 'cleanroomlaw07.CalendarApart', WHERE WHAT IT READS IS OF BULK AT MOST 1048576: true; the input reads as it did. -/
def calendarApartUptoRow : OpenClaim := { program := "ytealfgeeigffbaa", sum := "140eaa467a2a8d2cb0c23fbed8dcd312be73c340e983278bbca656fcc9b8de7a", func := "cleanroom/cleanroomlaw07.CalendarApart", spec := "calendarApart", unfollowed := true, recurses := true, apart := false, narrowed := true }
def CalendarApartUptoSaid : Prop := calendarApartUptoRow.holds Try.pinned (OpenSpec.upto calendarApartSpec)

/-- 'cleanroomlaw07.CalendarClone', WHERE WHAT IT READS IS OF BULK AT MOST 1048576: true; the input reads as it did. -/
def calendarCloneUptoRow : OpenClaim := { program := "ytealfgeeigffbaa", sum := "140eaa467a2a8d2cb0c23fbed8dcd312be73c340e983278bbca656fcc9b8de7a", func := "cleanroom/cleanroomlaw07.CalendarClone", spec := "calendarClone", unfollowed := true, recurses := true, apart := false, narrowed := true }
def CalendarCloneUptoSaid : Prop := calendarCloneUptoRow.holds Try.pinned (OpenSpec.upto calendarCloneSpec)

end Rows
end Go.Proofs.Ytealfgeeigffbaa
