/-
  No cell of these rows narrows 'for every input' (looked for: loops, veiled, ifaces, maps, wideKeys, modest, calm, conditions, laid).
  DERIVED. THE GIVEN ROWS OF THIS SEAT. 8 by the template 'for every input the law returns true; each argument reads behind the call as it read before'; 0 by the template 'total and deterministic' (their statements: YtjdhjlhcdpekbaaTotals.lean).
  GIVEN WITH THE SEED: the statements are not yours to turn. If you find one false, say at which input.
  Laid BY PROGRAM, IN A SANDBOX (cutbox-rows.mjs): the forced cells as the released guide's own fill.sh prints them over the translation d0796c48b245f06a… (all of the seat's roots in one cut). By AI agents, Wed Nov 11 2026. No macro, syntax, notation, axiom, sorry.
-/
import Derived.Test.YtjdhjlhcdpekbaaChecked
import GoSem.Claim
import GoSem.ClaimJoined
import GoSem.ClaimMapViews
import Derived.JoinedTies
import Derived.KernelRfl
namespace Go.Proofs.Ytjdhjlhcdpekbaa
/- THE CELL 'sum', in the pinned program and in every row, IS THE sha256 OF THE DUMP (.gsa) THAT YtjdhjlhcdpekbaaProg.lean LOADS. Nothing in Lean hashes anything: it is a label: what it is worth is what the hold of that sum in a sandbox is worth. -/
noncomputable def Try.pinned : Pinned := { name := "ytjdhjlhcdpekbaa", sum := "d0796c48b245f06a308a7d94d8f492c98a45b64bac4ac2f1215752ce9b75dc6f", checked := Try.checked }
namespace Rows
def none {H : Type} : Left H := { results := [], args := [] }

/-- 'cleanroomlaw11.DispatchMatchesReference': WHATEVER THE INPUT: true; the input reads as it did. -/
def dispatchMatchesReferenceSpec : ChangeSpec := { name := "dispatchMatchesReference", fn := fun _ => fun
  | [d1, d2, d3, d4, d5, d6, d7, d8] => { results := [.lit (.bool true)], args := [d1, d2, d3, d4, d5, d6, d7, d8] }
  | _ => none }
def dispatchMatchesReferenceRow : OpenClaim := { program := "ytjdhjlhcdpekbaa", sum := "d0796c48b245f06a308a7d94d8f492c98a45b64bac4ac2f1215752ce9b75dc6f", func := "cleanroom/cleanroomlaw11.DispatchMatchesReference", spec := "dispatchMatchesReference", unfollowed := true, recurses := true, apart := false }
def DispatchMatchesReferenceSaid : Prop := dispatchMatchesReferenceRow.holds Try.pinned (OpenSpec.ofChange dispatchMatchesReferenceSpec)

/-- ITS FALSE NEIGHBOUR: 'it returns false'. Refute it at one input. -/
def dispatchMatchesReferenceWrong : ChangeSpec := { name := "dispatchMatchesReference", fn := fun _ => fun
  | [d1, d2, d3, d4, d5, d6, d7, d8] => { results := [.lit (.bool false)], args := [d1, d2, d3, d4, d5, d6, d7, d8] }
  | _ => none }
def DispatchMatchesReferenceWrongFalsely : Prop := dispatchMatchesReferenceRow.holds Try.pinned (OpenSpec.ofChange dispatchMatchesReferenceWrong)

/-- 'cleanroomlaw11.DispatchReserved': WHATEVER THE INPUT: true; the input reads as it did. -/
def dispatchReservedSpec : ChangeSpec := { name := "dispatchReserved", fn := fun _ => fun
  | [d1, d2, d3, d4] => { results := [.lit (.bool true)], args := [d1, d2, d3, d4] }
  | _ => none }
def dispatchReservedRow : OpenClaim := { program := "ytjdhjlhcdpekbaa", sum := "d0796c48b245f06a308a7d94d8f492c98a45b64bac4ac2f1215752ce9b75dc6f", func := "cleanroom/cleanroomlaw11.DispatchReserved", spec := "dispatchReserved", unfollowed := true, recurses := true, apart := false }
def DispatchReservedSaid : Prop := dispatchReservedRow.holds Try.pinned (OpenSpec.ofChange dispatchReservedSpec)

/-- ITS FALSE NEIGHBOUR: 'it returns false'. Refute it at one input. -/
def dispatchReservedWrong : ChangeSpec := { name := "dispatchReserved", fn := fun _ => fun
  | [d1, d2, d3, d4] => { results := [.lit (.bool false)], args := [d1, d2, d3, d4] }
  | _ => none }
def DispatchReservedWrongFalsely : Prop := dispatchReservedRow.holds Try.pinned (OpenSpec.ofChange dispatchReservedWrong)

/-- 'cleanroomlaw11.DispatchPlans': WHATEVER THE INPUT: true; the input reads as it did. -/
def dispatchPlansSpec : ChangeSpec := { name := "dispatchPlans", fn := fun _ => fun
  | [d1, d2, d3, d4, d5, d6, d7] => { results := [.lit (.bool true)], args := [d1, d2, d3, d4, d5, d6, d7] }
  | _ => none }
def dispatchPlansRow : OpenClaim := { program := "ytjdhjlhcdpekbaa", sum := "d0796c48b245f06a308a7d94d8f492c98a45b64bac4ac2f1215752ce9b75dc6f", func := "cleanroom/cleanroomlaw11.DispatchPlans", spec := "dispatchPlans", unfollowed := true, recurses := true, apart := false }
def DispatchPlansSaid : Prop := dispatchPlansRow.holds Try.pinned (OpenSpec.ofChange dispatchPlansSpec)

/-- ITS FALSE NEIGHBOUR: 'it returns false'. Refute it at one input. -/
def dispatchPlansWrong : ChangeSpec := { name := "dispatchPlans", fn := fun _ => fun
  | [d1, d2, d3, d4, d5, d6, d7] => { results := [.lit (.bool false)], args := [d1, d2, d3, d4, d5, d6, d7] }
  | _ => none }
def DispatchPlansWrongFalsely : Prop := dispatchPlansRow.holds Try.pinned (OpenSpec.ofChange dispatchPlansWrong)

/-- 'cleanroomlaw11.DispatchFirst': WHATEVER THE INPUT: true; the input reads as it did. -/
def dispatchFirstSpec : ChangeSpec := { name := "dispatchFirst", fn := fun _ => fun
  | [d1, d2, d3, d4, d5, d6] => { results := [.lit (.bool true)], args := [d1, d2, d3, d4, d5, d6] }
  | _ => none }
def dispatchFirstRow : OpenClaim := { program := "ytjdhjlhcdpekbaa", sum := "d0796c48b245f06a308a7d94d8f492c98a45b64bac4ac2f1215752ce9b75dc6f", func := "cleanroom/cleanroomlaw11.DispatchFirst", spec := "dispatchFirst", unfollowed := true, recurses := true, apart := false }
def DispatchFirstSaid : Prop := dispatchFirstRow.holds Try.pinned (OpenSpec.ofChange dispatchFirstSpec)

/-- ITS FALSE NEIGHBOUR: 'it returns false'. Refute it at one input. -/
def dispatchFirstWrong : ChangeSpec := { name := "dispatchFirst", fn := fun _ => fun
  | [d1, d2, d3, d4, d5, d6] => { results := [.lit (.bool false)], args := [d1, d2, d3, d4, d5, d6] }
  | _ => none }
def DispatchFirstWrongFalsely : Prop := dispatchFirstRow.holds Try.pinned (OpenSpec.ofChange dispatchFirstWrong)

/-- 'cleanroomlaw11.DispatchOrdered': WHATEVER THE INPUT: true; the input reads as it did. -/
def dispatchOrderedSpec : ChangeSpec := { name := "dispatchOrdered", fn := fun _ => fun
  | [d1, d2, d3] => { results := [.lit (.bool true)], args := [d1, d2, d3] }
  | _ => none }
def dispatchOrderedRow : OpenClaim := { program := "ytjdhjlhcdpekbaa", sum := "d0796c48b245f06a308a7d94d8f492c98a45b64bac4ac2f1215752ce9b75dc6f", func := "cleanroom/cleanroomlaw11.DispatchOrdered", spec := "dispatchOrdered", unfollowed := true, recurses := true, apart := false }
def DispatchOrderedSaid : Prop := dispatchOrderedRow.holds Try.pinned (OpenSpec.ofChange dispatchOrderedSpec)

/-- ITS FALSE NEIGHBOUR: 'it returns false'. Refute it at one input. -/
def dispatchOrderedWrong : ChangeSpec := { name := "dispatchOrdered", fn := fun _ => fun
  | [d1, d2, d3] => { results := [.lit (.bool false)], args := [d1, d2, d3] }
  | _ => none }
def DispatchOrderedWrongFalsely : Prop := dispatchOrderedRow.holds Try.pinned (OpenSpec.ofChange dispatchOrderedWrong)

/-- 'cleanroomlaw11.DispatchOthers': WHATEVER THE INPUT: true; the input reads as it did. -/
def dispatchOthersSpec : ChangeSpec := { name := "dispatchOthers", fn := fun _ => fun
  | [d1, d2, d3, d4, d5, d6, d7] => { results := [.lit (.bool true)], args := [d1, d2, d3, d4, d5, d6, d7] }
  | _ => none }
def dispatchOthersRow : OpenClaim := { program := "ytjdhjlhcdpekbaa", sum := "d0796c48b245f06a308a7d94d8f492c98a45b64bac4ac2f1215752ce9b75dc6f", func := "cleanroom/cleanroomlaw11.DispatchOthers", spec := "dispatchOthers", unfollowed := true, recurses := true, apart := false }
def DispatchOthersSaid : Prop := dispatchOthersRow.holds Try.pinned (OpenSpec.ofChange dispatchOthersSpec)

/-- ITS FALSE NEIGHBOUR: 'it returns false'. Refute it at one input. -/
def dispatchOthersWrong : ChangeSpec := { name := "dispatchOthers", fn := fun _ => fun
  | [d1, d2, d3, d4, d5, d6, d7] => { results := [.lit (.bool false)], args := [d1, d2, d3, d4, d5, d6, d7] }
  | _ => none }
def DispatchOthersWrongFalsely : Prop := dispatchOthersRow.holds Try.pinned (OpenSpec.ofChange dispatchOthersWrong)

/-- 'cleanroomlaw11.DispatchBatch': WHATEVER THE INPUT: true; the input reads as it did. -/
def dispatchBatchSpec : ChangeSpec := { name := "dispatchBatch", fn := fun _ => fun
  | [d1, d2] => { results := [.lit (.bool true)], args := [d1, d2] }
  | _ => none }
def dispatchBatchRow : OpenClaim := { program := "ytjdhjlhcdpekbaa", sum := "d0796c48b245f06a308a7d94d8f492c98a45b64bac4ac2f1215752ce9b75dc6f", func := "cleanroom/cleanroomlaw11.DispatchBatch", spec := "dispatchBatch", unfollowed := true, recurses := true, apart := false }
def DispatchBatchSaid : Prop := dispatchBatchRow.holds Try.pinned (OpenSpec.ofChange dispatchBatchSpec)

/-- ITS FALSE NEIGHBOUR: 'it returns false'. Refute it at one input. -/
def dispatchBatchWrong : ChangeSpec := { name := "dispatchBatch", fn := fun _ => fun
  | [d1, d2] => { results := [.lit (.bool false)], args := [d1, d2] }
  | _ => none }
def DispatchBatchWrongFalsely : Prop := dispatchBatchRow.holds Try.pinned (OpenSpec.ofChange dispatchBatchWrong)

/-- 'cleanroomlaw11.DispatchAll': WHATEVER THE INPUT: true; the input reads as it did. -/
def dispatchAllSpec : ChangeSpec := { name := "dispatchAll", fn := fun _ => fun
  | [d1, d2, d3] => { results := [.lit (.bool true)], args := [d1, d2, d3] }
  | _ => none }
def dispatchAllRow : OpenClaim := { program := "ytjdhjlhcdpekbaa", sum := "d0796c48b245f06a308a7d94d8f492c98a45b64bac4ac2f1215752ce9b75dc6f", func := "cleanroom/cleanroomlaw11.DispatchAll", spec := "dispatchAll", unfollowed := true, recurses := true, apart := false }
def DispatchAllSaid : Prop := dispatchAllRow.holds Try.pinned (OpenSpec.ofChange dispatchAllSpec)

/-- ITS FALSE NEIGHBOUR: 'it returns false'. Refute it at one input. -/
def dispatchAllWrong : ChangeSpec := { name := "dispatchAll", fn := fun _ => fun
  | [d1, d2, d3] => { results := [.lit (.bool false)], args := [d1, d2, d3] }
  | _ => none }
def DispatchAllWrongFalsely : Prop := dispatchAllRow.holds Try.pinned (OpenSpec.ofChange dispatchAllWrong)

/- THE SECOND FORM. 'bulk': how many values and letters a reading holds, each counted each time it is reached (what is shared counts as often as it is met; a slice's spare places count too). A statement '..UptoSaid' is the law's where the arguments, and the package variables that the reading takes, are together of bulk at most 1048576: NARROWER than '..Said'. Prove '..Said' where nothing that the law and all that it calls make is longer than what came in: it says more and counts as full. Else prove '..UptoSaid'. A law counts once. -/
mutual
def uptoBulk {H : Type} : DataW H → Nat
  | .lit (.string bytes) => bytes.length + 1
  | .lit _ => 1
  | .nil => 1
  | .ptr d => uptoBulk d + 1
  | .slice elems spare => uptoBulkAll elems + uptoBulkAll spare + 1
  | .agg parts => uptoBulkAll parts + 1
  | .iface _ d => uptoBulk d + 1
  | .map entries => uptoBulkEntries entries + 1
  | .held _ => 1
def uptoBulkAll {H : Type} : List (DataW H) → Nat
  | [] => 0
  | d :: r => uptoBulk d + uptoBulkAll r
def uptoBulkEntries {H : Type} : List (Lit × DataW H) → Nat
  | [] => 0
  | x :: r => uptoBulkEntry x + uptoBulkEntries r
def uptoBulkEntry {H : Type} : Lit × DataW H → Nat
  | (.string bytes, d) => bytes.length + uptoBulk d + 1
  | (_, d) => uptoBulk d + 1
 end
def uptoSmall : (H : Type) → List (DataW H) → Bool := fun _ ds => decide (uptoBulkAll ds ≤ 1048576)
def OpenSpec.upto (s : _root_.Go.ChangeSpec) : _root_.Go.OpenSpec := { _root_.Go.OpenSpec.ofChange s with cond := some uptoSmall }

/-- 'cleanroomlaw11.DispatchMatchesReference', WHERE WHAT IT READS IS OF BULK AT MOST 1048576: true; the input reads as it did. -/
def dispatchMatchesReferenceUptoRow : OpenClaim := { program := "ytjdhjlhcdpekbaa", sum := "d0796c48b245f06a308a7d94d8f492c98a45b64bac4ac2f1215752ce9b75dc6f", func := "cleanroom/cleanroomlaw11.DispatchMatchesReference", spec := "dispatchMatchesReference", unfollowed := true, recurses := true, apart := false, narrowed := true }
def DispatchMatchesReferenceUptoSaid : Prop := dispatchMatchesReferenceUptoRow.holds Try.pinned (OpenSpec.upto dispatchMatchesReferenceSpec)

/-- 'cleanroomlaw11.DispatchReserved', WHERE WHAT IT READS IS OF BULK AT MOST 1048576: true; the input reads as it did. -/
def dispatchReservedUptoRow : OpenClaim := { program := "ytjdhjlhcdpekbaa", sum := "d0796c48b245f06a308a7d94d8f492c98a45b64bac4ac2f1215752ce9b75dc6f", func := "cleanroom/cleanroomlaw11.DispatchReserved", spec := "dispatchReserved", unfollowed := true, recurses := true, apart := false, narrowed := true }
def DispatchReservedUptoSaid : Prop := dispatchReservedUptoRow.holds Try.pinned (OpenSpec.upto dispatchReservedSpec)

/-- 'cleanroomlaw11.DispatchPlans', WHERE WHAT IT READS IS OF BULK AT MOST 1048576: true; the input reads as it did. -/
def dispatchPlansUptoRow : OpenClaim := { program := "ytjdhjlhcdpekbaa", sum := "d0796c48b245f06a308a7d94d8f492c98a45b64bac4ac2f1215752ce9b75dc6f", func := "cleanroom/cleanroomlaw11.DispatchPlans", spec := "dispatchPlans", unfollowed := true, recurses := true, apart := false, narrowed := true }
def DispatchPlansUptoSaid : Prop := dispatchPlansUptoRow.holds Try.pinned (OpenSpec.upto dispatchPlansSpec)

/-- 'cleanroomlaw11.DispatchFirst', WHERE WHAT IT READS IS OF BULK AT MOST 1048576: true; the input reads as it did. -/
def dispatchFirstUptoRow : OpenClaim := { program := "ytjdhjlhcdpekbaa", sum := "d0796c48b245f06a308a7d94d8f492c98a45b64bac4ac2f1215752ce9b75dc6f", func := "cleanroom/cleanroomlaw11.DispatchFirst", spec := "dispatchFirst", unfollowed := true, recurses := true, apart := false, narrowed := true }
def DispatchFirstUptoSaid : Prop := dispatchFirstUptoRow.holds Try.pinned (OpenSpec.upto dispatchFirstSpec)

/-- 'cleanroomlaw11.DispatchOrdered', WHERE WHAT IT READS IS OF BULK AT MOST 1048576: true; the input reads as it did. -/
def dispatchOrderedUptoRow : OpenClaim := { program := "ytjdhjlhcdpekbaa", sum := "d0796c48b245f06a308a7d94d8f492c98a45b64bac4ac2f1215752ce9b75dc6f", func := "cleanroom/cleanroomlaw11.DispatchOrdered", spec := "dispatchOrdered", unfollowed := true, recurses := true, apart := false, narrowed := true }
def DispatchOrderedUptoSaid : Prop := dispatchOrderedUptoRow.holds Try.pinned (OpenSpec.upto dispatchOrderedSpec)

/-- 'cleanroomlaw11.DispatchOthers', WHERE WHAT IT READS IS OF BULK AT MOST 1048576: true; the input reads as it did. -/
def dispatchOthersUptoRow : OpenClaim := { program := "ytjdhjlhcdpekbaa", sum := "d0796c48b245f06a308a7d94d8f492c98a45b64bac4ac2f1215752ce9b75dc6f", func := "cleanroom/cleanroomlaw11.DispatchOthers", spec := "dispatchOthers", unfollowed := true, recurses := true, apart := false, narrowed := true }
def DispatchOthersUptoSaid : Prop := dispatchOthersUptoRow.holds Try.pinned (OpenSpec.upto dispatchOthersSpec)

/-- 'cleanroomlaw11.DispatchBatch', WHERE WHAT IT READS IS OF BULK AT MOST 1048576: true; the input reads as it did. -/
def dispatchBatchUptoRow : OpenClaim := { program := "ytjdhjlhcdpekbaa", sum := "d0796c48b245f06a308a7d94d8f492c98a45b64bac4ac2f1215752ce9b75dc6f", func := "cleanroom/cleanroomlaw11.DispatchBatch", spec := "dispatchBatch", unfollowed := true, recurses := true, apart := false, narrowed := true }
def DispatchBatchUptoSaid : Prop := dispatchBatchUptoRow.holds Try.pinned (OpenSpec.upto dispatchBatchSpec)

/-- 'cleanroomlaw11.DispatchAll', WHERE WHAT IT READS IS OF BULK AT MOST 1048576: true; the input reads as it did. -/
def dispatchAllUptoRow : OpenClaim := { program := "ytjdhjlhcdpekbaa", sum := "d0796c48b245f06a308a7d94d8f492c98a45b64bac4ac2f1215752ce9b75dc6f", func := "cleanroom/cleanroomlaw11.DispatchAll", spec := "dispatchAll", unfollowed := true, recurses := true, apart := false, narrowed := true }
def DispatchAllUptoSaid : Prop := dispatchAllUptoRow.holds Try.pinned (OpenSpec.upto dispatchAllSpec)

end Rows
end Go.Proofs.Ytjdhjlhcdpekbaa
