/-
  No cell of these rows narrows 'for every input' (looked for: loops, veiled, ifaces, maps, wideKeys, modest, calm, conditions, laid).
  DERIVED. THE GIVEN ROWS OF THIS SEAT. 8 by the template 'for every input the law returns true; each argument reads behind the call as it read before'; 0 by the template 'total and deterministic' (their statements: YtngpkipblcihaaaTotals.lean).
  GIVEN WITH THE SEED: the statements are not yours to turn. If you find one false, say at which input.
  Laid BY PROGRAM, IN A SANDBOX (cutbox-rows.mjs): the forced cells as the released guide's own fill.sh prints them over the translation 12ec77ce8ad86f0d… (all of the seat's roots in one cut). By AI agents, Wed Nov 11 2026. No macro, syntax, notation, axiom, sorry.
-/
import Derived.Test.YtngpkipblcihaaaChecked
import GoSem.Claim
import GoSem.ClaimJoined
import GoSem.ClaimMapViews
import Derived.JoinedTies
import Derived.KernelRfl
namespace Go.Proofs.Ytngpkipblcihaaa
/- THE CELL 'sum', in the pinned program and in every row, IS THE sha256 OF THE DUMP (.gsa) THAT YtngpkipblcihaaaProg.lean LOADS. Nothing in Lean hashes anything: it is a label: what it is worth is what the hold of that sum in a sandbox is worth. -/
noncomputable def Try.pinned : Pinned := { name := "ytngpkipblcihaaa", sum := "12ec77ce8ad86f0d8c02c27fd961d90302acae9fcf5a3626e2d4cbd2c80cf988", checked := Try.checked }
namespace Rows
def none {H : Type} : Left H := { results := [], args := [] }

/-- 'cleanroomlaw08.PlanKept': WHATEVER THE INPUT: true; the input reads as it did. -/
def planKeptSpec : ChangeSpec := { name := "planKept", fn := fun _ => fun
  | [d1, d2, d3, d4] => { results := [.lit (.bool true)], args := [d1, d2, d3, d4] }
  | _ => none }
def planKeptRow : OpenClaim := { program := "ytngpkipblcihaaa", sum := "12ec77ce8ad86f0d8c02c27fd961d90302acae9fcf5a3626e2d4cbd2c80cf988", func := "cleanroom/cleanroomlaw08.PlanKept", spec := "planKept", unfollowed := true, recurses := true, apart := false }
def PlanKeptSaid : Prop := planKeptRow.holds Try.pinned (OpenSpec.ofChange planKeptSpec)

/-- ITS FALSE NEIGHBOUR: 'it returns false'. Refute it at one input. -/
def planKeptWrong : ChangeSpec := { name := "planKept", fn := fun _ => fun
  | [d1, d2, d3, d4] => { results := [.lit (.bool false)], args := [d1, d2, d3, d4] }
  | _ => none }
def PlanKeptWrongFalsely : Prop := planKeptRow.holds Try.pinned (OpenSpec.ofChange planKeptWrong)

/-- 'cleanroomlaw08.PlanLate': WHATEVER THE INPUT: true; the input reads as it did. -/
def planLateSpec : ChangeSpec := { name := "planLate", fn := fun _ => fun
  | [d1, d2, d3, d4] => { results := [.lit (.bool true)], args := [d1, d2, d3, d4] }
  | _ => none }
def planLateRow : OpenClaim := { program := "ytngpkipblcihaaa", sum := "12ec77ce8ad86f0d8c02c27fd961d90302acae9fcf5a3626e2d4cbd2c80cf988", func := "cleanroom/cleanroomlaw08.PlanLate", spec := "planLate", unfollowed := true, recurses := true, apart := false }
def PlanLateSaid : Prop := planLateRow.holds Try.pinned (OpenSpec.ofChange planLateSpec)

/-- ITS FALSE NEIGHBOUR: 'it returns false'. Refute it at one input. -/
def planLateWrong : ChangeSpec := { name := "planLate", fn := fun _ => fun
  | [d1, d2, d3, d4] => { results := [.lit (.bool false)], args := [d1, d2, d3, d4] }
  | _ => none }
def PlanLateWrongFalsely : Prop := planLateRow.holds Try.pinned (OpenSpec.ofChange planLateWrong)

/-- 'cleanroomlaw08.PlanShorter': WHATEVER THE INPUT: true; the input reads as it did. -/
def planShorterSpec : ChangeSpec := { name := "planShorter", fn := fun _ => fun
  | [d1, d2, d3, d4, d5] => { results := [.lit (.bool true)], args := [d1, d2, d3, d4, d5] }
  | _ => none }
def planShorterRow : OpenClaim := { program := "ytngpkipblcihaaa", sum := "12ec77ce8ad86f0d8c02c27fd961d90302acae9fcf5a3626e2d4cbd2c80cf988", func := "cleanroom/cleanroomlaw08.PlanShorter", spec := "planShorter", unfollowed := true, recurses := true, apart := false }
def PlanShorterSaid : Prop := planShorterRow.holds Try.pinned (OpenSpec.ofChange planShorterSpec)

/-- ITS FALSE NEIGHBOUR: 'it returns false'. Refute it at one input. -/
def planShorterWrong : ChangeSpec := { name := "planShorter", fn := fun _ => fun
  | [d1, d2, d3, d4, d5] => { results := [.lit (.bool false)], args := [d1, d2, d3, d4, d5] }
  | _ => none }
def PlanShorterWrongFalsely : Prop := planShorterRow.holds Try.pinned (OpenSpec.ofChange planShorterWrong)

/-- 'cleanroomlaw08.PlanFailures': WHATEVER THE INPUT: true; the input reads as it did. -/
def planFailuresSpec : ChangeSpec := { name := "planFailures", fn := fun _ => fun
  | [d1, d2, d3, d4, d5] => { results := [.lit (.bool true)], args := [d1, d2, d3, d4, d5] }
  | _ => none }
def planFailuresRow : OpenClaim := { program := "ytngpkipblcihaaa", sum := "12ec77ce8ad86f0d8c02c27fd961d90302acae9fcf5a3626e2d4cbd2c80cf988", func := "cleanroom/cleanroomlaw08.PlanFailures", spec := "planFailures", unfollowed := true, recurses := true, apart := false }
def PlanFailuresSaid : Prop := planFailuresRow.holds Try.pinned (OpenSpec.ofChange planFailuresSpec)

/-- ITS FALSE NEIGHBOUR: 'it returns false'. Refute it at one input. -/
def planFailuresWrong : ChangeSpec := { name := "planFailures", fn := fun _ => fun
  | [d1, d2, d3, d4, d5] => { results := [.lit (.bool false)], args := [d1, d2, d3, d4, d5] }
  | _ => none }
def PlanFailuresWrongFalsely : Prop := planFailuresRow.holds Try.pinned (OpenSpec.ofChange planFailuresWrong)

/-- 'cleanroomlaw08.PlanShift': WHATEVER THE INPUT: true; the input reads as it did. -/
def planShiftSpec : ChangeSpec := { name := "planShift", fn := fun _ => fun
  | [d1, d2, d3, d4, d5] => { results := [.lit (.bool true)], args := [d1, d2, d3, d4, d5] }
  | _ => none }
def planShiftRow : OpenClaim := { program := "ytngpkipblcihaaa", sum := "12ec77ce8ad86f0d8c02c27fd961d90302acae9fcf5a3626e2d4cbd2c80cf988", func := "cleanroom/cleanroomlaw08.PlanShift", spec := "planShift", unfollowed := true, recurses := true, apart := false }
def PlanShiftSaid : Prop := planShiftRow.holds Try.pinned (OpenSpec.ofChange planShiftSpec)

/-- ITS FALSE NEIGHBOUR: 'it returns false'. Refute it at one input. -/
def planShiftWrong : ChangeSpec := { name := "planShift", fn := fun _ => fun
  | [d1, d2, d3, d4, d5] => { results := [.lit (.bool false)], args := [d1, d2, d3, d4, d5] }
  | _ => none }
def PlanShiftWrongFalsely : Prop := planShiftRow.holds Try.pinned (OpenSpec.ofChange planShiftWrong)

/-- 'cleanroomlaw08.PlanBooked': WHATEVER THE INPUT: true; the input reads as it did. -/
def planBookedSpec : ChangeSpec := { name := "planBooked", fn := fun _ => fun
  | [d1, d2, d3, d4, d5] => { results := [.lit (.bool true)], args := [d1, d2, d3, d4, d5] }
  | _ => none }
def planBookedRow : OpenClaim := { program := "ytngpkipblcihaaa", sum := "12ec77ce8ad86f0d8c02c27fd961d90302acae9fcf5a3626e2d4cbd2c80cf988", func := "cleanroom/cleanroomlaw08.PlanBooked", spec := "planBooked", unfollowed := true, recurses := true, apart := false }
def PlanBookedSaid : Prop := planBookedRow.holds Try.pinned (OpenSpec.ofChange planBookedSpec)

/-- ITS FALSE NEIGHBOUR: 'it returns false'. Refute it at one input. -/
def planBookedWrong : ChangeSpec := { name := "planBooked", fn := fun _ => fun
  | [d1, d2, d3, d4, d5] => { results := [.lit (.bool false)], args := [d1, d2, d3, d4, d5] }
  | _ => none }
def PlanBookedWrongFalsely : Prop := planBookedRow.holds Try.pinned (OpenSpec.ofChange planBookedWrong)

/-- 'cleanroomlaw08.PlanRefuses': WHATEVER THE INPUT: true; the input reads as it did. -/
def planRefusesSpec : ChangeSpec := { name := "planRefuses", fn := fun _ => fun
  | [d1, d2, d3, d4] => { results := [.lit (.bool true)], args := [d1, d2, d3, d4] }
  | _ => none }
def planRefusesRow : OpenClaim := { program := "ytngpkipblcihaaa", sum := "12ec77ce8ad86f0d8c02c27fd961d90302acae9fcf5a3626e2d4cbd2c80cf988", func := "cleanroom/cleanroomlaw08.PlanRefuses", spec := "planRefuses", unfollowed := true, recurses := true, apart := false }
def PlanRefusesSaid : Prop := planRefusesRow.holds Try.pinned (OpenSpec.ofChange planRefusesSpec)

/-- ITS FALSE NEIGHBOUR: 'it returns false'. Refute it at one input. -/
def planRefusesWrong : ChangeSpec := { name := "planRefuses", fn := fun _ => fun
  | [d1, d2, d3, d4] => { results := [.lit (.bool false)], args := [d1, d2, d3, d4] }
  | _ => none }
def PlanRefusesWrongFalsely : Prop := planRefusesRow.holds Try.pinned (OpenSpec.ofChange planRefusesWrong)

/-- 'cleanroomlaw08.PlanSame': WHATEVER THE INPUT: true; the input reads as it did. -/
def planSameSpec : ChangeSpec := { name := "planSame", fn := fun _ => fun
  | [d1, d2, d3] => { results := [.lit (.bool true)], args := [d1, d2, d3] }
  | _ => none }
def planSameRow : OpenClaim := { program := "ytngpkipblcihaaa", sum := "12ec77ce8ad86f0d8c02c27fd961d90302acae9fcf5a3626e2d4cbd2c80cf988", func := "cleanroom/cleanroomlaw08.PlanSame", spec := "planSame", unfollowed := true, recurses := true, apart := false }
def PlanSameSaid : Prop := planSameRow.holds Try.pinned (OpenSpec.ofChange planSameSpec)

/-- ITS FALSE NEIGHBOUR: 'it returns false'. Refute it at one input. -/
def planSameWrong : ChangeSpec := { name := "planSame", fn := fun _ => fun
  | [d1, d2, d3] => { results := [.lit (.bool false)], args := [d1, d2, d3] }
  | _ => none }
def PlanSameWrongFalsely : Prop := planSameRow.holds Try.pinned (OpenSpec.ofChange planSameWrong)

/- THE SECOND FORM. 'bulk': how many values and letters a reading holds, each counted each time it is reached (what is shared counts as often as it is met; a slice's spare places count too). A statement '..UptoSaid' is the law's where the arguments, and the package variables that the reading takes, are together of bulk at most 1048576: NARROWER than '..Said'. Prove '..Said' where nothing that the law and all that it calls make is longer than what came in: it says more and counts as full. Else prove '..UptoSaid'. A law counts once. -/
mutual
def uptoBulk {H : Type} : DataW H → Nat
  | .lit (.string bytes) => bytes.length + 1
  | .lit _ => 1
  | .nil => 1
  | .ptr d => uptoBulk d + 1
  | .slice elems spare => uptoBulkAll elems + uptoBulkAll spare + 1
  | .agg parts => uptoBulkAll parts + 1
  | .iface _ d => uptoBulk d + 1
  | .map entries => uptoBulkEntries entries + 1
  | .held _ => 1
def uptoBulkAll {H : Type} : List (DataW H) → Nat
  | [] => 0
  | d :: r => uptoBulk d + uptoBulkAll r
def uptoBulkEntries {H : Type} : List (Lit × DataW H) → Nat
  | [] => 0
  | x :: r => uptoBulkEntry x + uptoBulkEntries r
def uptoBulkEntry {H : Type} : Lit × DataW H → Nat
  | (.string bytes, d) => bytes.length + uptoBulk d + 1
  | (_, d) => uptoBulk d + 1
 end
def uptoSmall : (H : Type) → List (DataW H) → Bool := fun _ ds => decide (uptoBulkAll ds ≤ 1048576)
def OpenSpec.upto (s : _root_.Go.ChangeSpec) : _root_.Go.OpenSpec := { _root_.Go.OpenSpec.ofChange s with cond := some uptoSmall }

/-- 'cleanroomlaw08.PlanKept', WHERE WHAT IT READS IS OF BULK AT MOST 1048576: true; the input reads as it did. -/
def planKeptUptoRow : OpenClaim := { program := "ytngpkipblcihaaa", sum := "12ec77ce8ad86f0d8c02c27fd961d90302acae9fcf5a3626e2d4cbd2c80cf988", func := "cleanroom/cleanroomlaw08.PlanKept", spec := "planKept", unfollowed := true, recurses := true, apart := false, narrowed := true }
def PlanKeptUptoSaid : Prop := planKeptUptoRow.holds Try.pinned (OpenSpec.upto planKeptSpec)

/-- 'cleanroomlaw08.PlanLate', WHERE WHAT IT READS IS OF BULK AT MOST 1048576: true; the input reads as it did. -/
def planLateUptoRow : OpenClaim := { program := "ytngpkipblcihaaa", sum := "12ec77ce8ad86f0d8c02c27fd961d90302acae9fcf5a3626e2d4cbd2c80cf988", func := "cleanroom/cleanroomlaw08.PlanLate", spec := "planLate", unfollowed := true, recurses := true, apart := false, narrowed := true }
def PlanLateUptoSaid : Prop := planLateUptoRow.holds Try.pinned (OpenSpec.upto planLateSpec)

/-- 'cleanroomlaw08.PlanShorter', WHERE WHAT IT READS IS OF BULK AT MOST 1048576: true; the input reads as it did. -/
def planShorterUptoRow : OpenClaim := { program := "ytngpkipblcihaaa", sum := "12ec77ce8ad86f0d8c02c27fd961d90302acae9fcf5a3626e2d4cbd2c80cf988", func := "cleanroom/cleanroomlaw08.PlanShorter", spec := "planShorter", unfollowed := true, recurses := true, apart := false, narrowed := true }
def PlanShorterUptoSaid : Prop := planShorterUptoRow.holds Try.pinned (OpenSpec.upto planShorterSpec)

/-- 'cleanroomlaw08.PlanFailures', WHERE WHAT IT READS IS OF BULK AT MOST 1048576: true; the input reads as it did. -/
def planFailuresUptoRow : OpenClaim := { program := "ytngpkipblcihaaa", sum := "12ec77ce8ad86f0d8c02c27fd961d90302acae9fcf5a3626e2d4cbd2c80cf988", func := "cleanroom/cleanroomlaw08.PlanFailures", spec := "planFailures", unfollowed := true, recurses := true, apart := false, narrowed := true }
def PlanFailuresUptoSaid : Prop := planFailuresUptoRow.holds Try.pinned (OpenSpec.upto planFailuresSpec)

/-- 'cleanroomlaw08.PlanShift', WHERE WHAT IT READS IS OF BULK AT MOST 1048576: true; the input reads as it did. -/
def planShiftUptoRow : OpenClaim := { program := "ytngpkipblcihaaa", sum := "12ec77ce8ad86f0d8c02c27fd961d90302acae9fcf5a3626e2d4cbd2c80cf988", func := "cleanroom/cleanroomlaw08.PlanShift", spec := "planShift", unfollowed := true, recurses := true, apart := false, narrowed := true }
def PlanShiftUptoSaid : Prop := planShiftUptoRow.holds Try.pinned (OpenSpec.upto planShiftSpec)

/-- 'cleanroomlaw08.PlanBooked', WHERE WHAT IT READS IS OF BULK AT MOST 1048576: true; the input reads as it did. -/
def planBookedUptoRow : OpenClaim := { program := "ytngpkipblcihaaa", sum := "12ec77ce8ad86f0d8c02c27fd961d90302acae9fcf5a3626e2d4cbd2c80cf988", func := "cleanroom/cleanroomlaw08.PlanBooked", spec := "planBooked", unfollowed := true, recurses := true, apart := false, narrowed := true }
def PlanBookedUptoSaid : Prop := planBookedUptoRow.holds Try.pinned (OpenSpec.upto planBookedSpec)

/-- 'cleanroomlaw08.PlanRefuses', WHERE WHAT IT READS IS OF BULK AT MOST 1048576: true; the input reads as it did. -/
def planRefusesUptoRow : OpenClaim := { program := "ytngpkipblcihaaa", sum := "12ec77ce8ad86f0d8c02c27fd961d90302acae9fcf5a3626e2d4cbd2c80cf988", func := "cleanroom/cleanroomlaw08.PlanRefuses", spec := "planRefuses", unfollowed := true, recurses := true, apart := false, narrowed := true }
def PlanRefusesUptoSaid : Prop := planRefusesUptoRow.holds Try.pinned (OpenSpec.upto planRefusesSpec)

/-- 'cleanroomlaw08.PlanSame', WHERE WHAT IT READS IS OF BULK AT MOST 1048576: true; the input reads as it did. -/
def planSameUptoRow : OpenClaim := { program := "ytngpkipblcihaaa", sum := "12ec77ce8ad86f0d8c02c27fd961d90302acae9fcf5a3626e2d4cbd2c80cf988", func := "cleanroom/cleanroomlaw08.PlanSame", spec := "planSame", unfollowed := true, recurses := true, apart := false, narrowed := true }
def PlanSameUptoSaid : Prop := planSameUptoRow.holds Try.pinned (OpenSpec.upto planSameSpec)

end Rows
end Go.Proofs.Ytngpkipblcihaaa
