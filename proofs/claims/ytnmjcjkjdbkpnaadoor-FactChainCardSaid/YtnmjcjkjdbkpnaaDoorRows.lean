/-
  NARROWER THAN 'FOR EVERY INPUT', by the rows' own cells (each row's printed sentence says how): FactMatchesReference: laid · FactDecodeMatchesReference: laid · FactRoundTrip: laid · FactDecodedAgain: laid · FactPrefixes: laid · FactKeys: laid · FactPrevails: laid · FactChain: laid · FactHeads: laid.
  DERIVED. THE GIVEN ROWS OF THIS SEAT. 9 by the template 'for every input the law returns true; each argument reads behind the call as it read before'; 0 by the template 'total and deterministic' (their statements: YtnmjcjkjdbkpnaaDoorTotals.lean).
  GIVEN WITH THE SEED: the statements are not yours to turn. If you find one false, say at which input.
  Laid BY PROGRAM, IN A SANDBOX (cutbox-rows.mjs): the forced cells as the released guide's own fill.sh prints them over the translation 2e60fe37cdd6451b… (all of the seat's roots in one cut). By AI agents, Wed Nov 11 2026. No macro, syntax, notation, axiom, sorry.
-/
import Derived.Test.YtnmjcjkjdbkpnaaDoorChecked
import GoSem.Claim
import GoSem.ClaimJoined
import GoSem.ClaimMapViews
import Derived.JoinedTies
import Derived.KernelRfl
namespace Go.Proofs.YtnmjcjkjdbkpnaaDoor
/- THE CELL 'sum', in the pinned program and in every row, IS THE sha256 OF THE DUMP (.gsa) THAT YtnmjcjkjdbkpnaaDoorProg.lean LOADS. Nothing in Lean hashes anything: it is a label: what it is worth is what the hold of that sum in a sandbox is worth. -/
noncomputable def Tryd.pinned : Pinned := { name := "ytnmjcjkjdbkpnaadoor", sum := "2e60fe37cdd6451bda740f81800ffeadf1d996e68384d9ec877a81488e488c94", checked := Tryd.checked }
namespace Rows
def none {H : Type} : Left H := { results := [], args := [] }

/- WHAT THE LISTED PACKAGE-LEVEL VARIABLES READ AS WHEN THE CALL BEGINS. Each datum BY PROGRAM (the guide's laid-datum.mjs) off the statement by which the dump's own 'gosem.cut.vars' lays the variable. In a bare row this is a premise. The card (YtnmjcjkjdbkpnaaDoorCards.lean) ties it to the program's text. -/
def laid_cleanroom_fact_usual {H : Type} : DataW H := .agg [.agg [.lit (.int .i64 1), .lit (.int .i64 1000000)], .agg [.lit (.int .i64 1), .lit (.int .i64 1000000)], .agg [.lit (.int .i64 1), .lit (.int .i64 1000000)], .agg [.lit (.int .i64 1), .lit (.int .i64 1000000)], .agg [.lit (.int .i64 1), .lit (.int .i64 1000000)], .agg [.lit (.int .i64 0), .lit (.int .i64 59)], .agg [.lit (.int .i64 0), .lit (.int .i64 3)], .agg [.lit (.int .i64 0), .lit (.int .i64 39)], .agg [.lit (.int .i64 1), .lit (.int .i64 1000000)], .agg [.lit (.int .i64 1), .lit (.int .i64 1000000)], .agg [.lit (.int .i64 0), .lit (.int .i64 1000000)], .agg [.lit (.int .i64 0), .lit (.int .i64 1000000)], .agg [.lit (.int .i64 (-1000000)), .lit (.int .i64 1000000)], .agg [.lit (.int .i64 1), .lit (.int .i64 255)]]

/-- 'cleanroomlaw15.FactMatchesReference': WHATEVER THE INPUT: true; the input reads as it did. -/
def factMatchesReferenceSpec : ChangeSpec := { name := "factMatchesReference", fn := fun _ => fun
  | [d1, d2] => { results := [.lit (.bool true)], args := [d1, d2] }
  | _ => none }
def factMatchesReferenceRow : OpenClaim := { program := "ytnmjcjkjdbkpnaadoor", sum := "2e60fe37cdd6451bda740f81800ffeadf1d996e68384d9ec877a81488e488c94", func := "cleanroom/cleanroomlaw15.FactMatchesReference", spec := "factMatchesReference", inPlace := ["internal/abi.NoEscape"], unfollowed := true, recurses := true, named := ["cleanroom/fact.usual"], apart := false, laid := [("cleanroom/fact.usual", laid_cleanroom_fact_usual)] }
def FactMatchesReferenceSaid : Prop := factMatchesReferenceRow.holds Tryd.pinned (OpenSpec.ofChange factMatchesReferenceSpec)

/-- ITS FALSE NEIGHBOUR: 'it returns false'. Refute it at one input. -/
def factMatchesReferenceWrong : ChangeSpec := { name := "factMatchesReference", fn := fun _ => fun
  | [d1, d2] => { results := [.lit (.bool false)], args := [d1, d2] }
  | _ => none }
def FactMatchesReferenceWrongFalsely : Prop := factMatchesReferenceRow.holds Tryd.pinned (OpenSpec.ofChange factMatchesReferenceWrong)

/-- 'cleanroomlaw15.FactDecodeMatchesReference': WHATEVER THE INPUT: true; the input reads as it did. -/
def factDecodeMatchesReferenceSpec : ChangeSpec := { name := "factDecodeMatchesReference", fn := fun _ => fun
  | [d] => { results := [.lit (.bool true)], args := [d] }
  | _ => none }
def factDecodeMatchesReferenceRow : OpenClaim := { program := "ytnmjcjkjdbkpnaadoor", sum := "2e60fe37cdd6451bda740f81800ffeadf1d996e68384d9ec877a81488e488c94", func := "cleanroom/cleanroomlaw15.FactDecodeMatchesReference", spec := "factDecodeMatchesReference", inPlace := ["internal/abi.NoEscape"], unfollowed := true, recurses := true, named := ["cleanroom/fact.usual"], apart := false, laid := [("cleanroom/fact.usual", laid_cleanroom_fact_usual)] }
def FactDecodeMatchesReferenceSaid : Prop := factDecodeMatchesReferenceRow.holds Tryd.pinned (OpenSpec.ofChange factDecodeMatchesReferenceSpec)

/-- ITS FALSE NEIGHBOUR: 'it returns false'. Refute it at one input. -/
def factDecodeMatchesReferenceWrong : ChangeSpec := { name := "factDecodeMatchesReference", fn := fun _ => fun
  | [d] => { results := [.lit (.bool false)], args := [d] }
  | _ => none }
def FactDecodeMatchesReferenceWrongFalsely : Prop := factDecodeMatchesReferenceRow.holds Tryd.pinned (OpenSpec.ofChange factDecodeMatchesReferenceWrong)

/-- 'cleanroomlaw15.FactRoundTrip': WHATEVER THE INPUT: true; the input reads as it did. -/
def factRoundTripSpec : ChangeSpec := { name := "factRoundTrip", fn := fun _ => fun
  | [d] => { results := [.lit (.bool true)], args := [d] }
  | _ => none }
def factRoundTripRow : OpenClaim := { program := "ytnmjcjkjdbkpnaadoor", sum := "2e60fe37cdd6451bda740f81800ffeadf1d996e68384d9ec877a81488e488c94", func := "cleanroom/cleanroomlaw15.FactRoundTrip", spec := "factRoundTrip", inPlace := ["internal/abi.NoEscape"], unfollowed := true, recurses := true, named := ["cleanroom/fact.usual"], apart := false, laid := [("cleanroom/fact.usual", laid_cleanroom_fact_usual)] }
def FactRoundTripSaid : Prop := factRoundTripRow.holds Tryd.pinned (OpenSpec.ofChange factRoundTripSpec)

/-- ITS FALSE NEIGHBOUR: 'it returns false'. Refute it at one input. -/
def factRoundTripWrong : ChangeSpec := { name := "factRoundTrip", fn := fun _ => fun
  | [d] => { results := [.lit (.bool false)], args := [d] }
  | _ => none }
def FactRoundTripWrongFalsely : Prop := factRoundTripRow.holds Tryd.pinned (OpenSpec.ofChange factRoundTripWrong)

/-- 'cleanroomlaw15.FactDecodedAgain': WHATEVER THE INPUT: true; the input reads as it did. -/
def factDecodedAgainSpec : ChangeSpec := { name := "factDecodedAgain", fn := fun _ => fun
  | [d] => { results := [.lit (.bool true)], args := [d] }
  | _ => none }
def factDecodedAgainRow : OpenClaim := { program := "ytnmjcjkjdbkpnaadoor", sum := "2e60fe37cdd6451bda740f81800ffeadf1d996e68384d9ec877a81488e488c94", func := "cleanroom/cleanroomlaw15.FactDecodedAgain", spec := "factDecodedAgain", inPlace := ["internal/abi.NoEscape"], unfollowed := true, recurses := true, named := ["cleanroom/fact.usual"], apart := false, laid := [("cleanroom/fact.usual", laid_cleanroom_fact_usual)] }
def FactDecodedAgainSaid : Prop := factDecodedAgainRow.holds Tryd.pinned (OpenSpec.ofChange factDecodedAgainSpec)

/-- ITS FALSE NEIGHBOUR: 'it returns false'. Refute it at one input. -/
def factDecodedAgainWrong : ChangeSpec := { name := "factDecodedAgain", fn := fun _ => fun
  | [d] => { results := [.lit (.bool false)], args := [d] }
  | _ => none }
def FactDecodedAgainWrongFalsely : Prop := factDecodedAgainRow.holds Tryd.pinned (OpenSpec.ofChange factDecodedAgainWrong)

/-- 'cleanroomlaw15.FactPrefixes': WHATEVER THE INPUT: true; the input reads as it did. -/
def factPrefixesSpec : ChangeSpec := { name := "factPrefixes", fn := fun _ => fun
  | [d1, d2] => { results := [.lit (.bool true)], args := [d1, d2] }
  | _ => none }
def factPrefixesRow : OpenClaim := { program := "ytnmjcjkjdbkpnaadoor", sum := "2e60fe37cdd6451bda740f81800ffeadf1d996e68384d9ec877a81488e488c94", func := "cleanroom/cleanroomlaw15.FactPrefixes", spec := "factPrefixes", inPlace := ["internal/abi.NoEscape"], unfollowed := true, recurses := true, named := ["cleanroom/fact.usual"], apart := false, laid := [("cleanroom/fact.usual", laid_cleanroom_fact_usual)] }
def FactPrefixesSaid : Prop := factPrefixesRow.holds Tryd.pinned (OpenSpec.ofChange factPrefixesSpec)

/-- ITS FALSE NEIGHBOUR: 'it returns false'. Refute it at one input. -/
def factPrefixesWrong : ChangeSpec := { name := "factPrefixes", fn := fun _ => fun
  | [d1, d2] => { results := [.lit (.bool false)], args := [d1, d2] }
  | _ => none }
def FactPrefixesWrongFalsely : Prop := factPrefixesRow.holds Tryd.pinned (OpenSpec.ofChange factPrefixesWrong)

/-- 'cleanroomlaw15.FactKeys': WHATEVER THE INPUT: true; the input reads as it did. -/
def factKeysSpec : ChangeSpec := { name := "factKeys", fn := fun _ => fun
  | [d1, d2, d3] => { results := [.lit (.bool true)], args := [d1, d2, d3] }
  | _ => none }
def factKeysRow : OpenClaim := { program := "ytnmjcjkjdbkpnaadoor", sum := "2e60fe37cdd6451bda740f81800ffeadf1d996e68384d9ec877a81488e488c94", func := "cleanroom/cleanroomlaw15.FactKeys", spec := "factKeys", inPlace := ["internal/abi.NoEscape"], unfollowed := true, recurses := true, named := ["cleanroom/fact.usual"], apart := false, laid := [("cleanroom/fact.usual", laid_cleanroom_fact_usual)] }
def FactKeysSaid : Prop := factKeysRow.holds Tryd.pinned (OpenSpec.ofChange factKeysSpec)

/-- ITS FALSE NEIGHBOUR: 'it returns false'. Refute it at one input. -/
def factKeysWrong : ChangeSpec := { name := "factKeys", fn := fun _ => fun
  | [d1, d2, d3] => { results := [.lit (.bool false)], args := [d1, d2, d3] }
  | _ => none }
def FactKeysWrongFalsely : Prop := factKeysRow.holds Tryd.pinned (OpenSpec.ofChange factKeysWrong)

/-- 'cleanroomlaw15.FactPrevails': WHATEVER THE INPUT: true; the input reads as it did. -/
def factPrevailsSpec : ChangeSpec := { name := "factPrevails", fn := fun _ => fun
  | [d1, d2, d3] => { results := [.lit (.bool true)], args := [d1, d2, d3] }
  | _ => none }
def factPrevailsRow : OpenClaim := { program := "ytnmjcjkjdbkpnaadoor", sum := "2e60fe37cdd6451bda740f81800ffeadf1d996e68384d9ec877a81488e488c94", func := "cleanroom/cleanroomlaw15.FactPrevails", spec := "factPrevails", inPlace := ["internal/abi.NoEscape"], unfollowed := true, recurses := true, named := ["cleanroom/fact.usual"], apart := false, laid := [("cleanroom/fact.usual", laid_cleanroom_fact_usual)] }
def FactPrevailsSaid : Prop := factPrevailsRow.holds Tryd.pinned (OpenSpec.ofChange factPrevailsSpec)

/-- ITS FALSE NEIGHBOUR: 'it returns false'. Refute it at one input. -/
def factPrevailsWrong : ChangeSpec := { name := "factPrevails", fn := fun _ => fun
  | [d1, d2, d3] => { results := [.lit (.bool false)], args := [d1, d2, d3] }
  | _ => none }
def FactPrevailsWrongFalsely : Prop := factPrevailsRow.holds Tryd.pinned (OpenSpec.ofChange factPrevailsWrong)

/-- 'cleanroomlaw15.FactChain': WHATEVER THE INPUT: true; the input reads as it did. -/
def factChainSpec : ChangeSpec := { name := "factChain", fn := fun _ => fun
  | [d1, d2, d3, d4] => { results := [.lit (.bool true)], args := [d1, d2, d3, d4] }
  | _ => none }
def factChainRow : OpenClaim := { program := "ytnmjcjkjdbkpnaadoor", sum := "2e60fe37cdd6451bda740f81800ffeadf1d996e68384d9ec877a81488e488c94", func := "cleanroom/cleanroomlaw15.FactChain", spec := "factChain", inPlace := ["internal/abi.NoEscape"], unfollowed := true, recurses := true, named := ["cleanroom/fact.usual"], apart := false, laid := [("cleanroom/fact.usual", laid_cleanroom_fact_usual)] }
def FactChainSaid : Prop := factChainRow.holds Tryd.pinned (OpenSpec.ofChange factChainSpec)

/-- ITS FALSE NEIGHBOUR: 'it returns false'. Refute it at one input. -/
def factChainWrong : ChangeSpec := { name := "factChain", fn := fun _ => fun
  | [d1, d2, d3, d4] => { results := [.lit (.bool false)], args := [d1, d2, d3, d4] }
  | _ => none }
def FactChainWrongFalsely : Prop := factChainRow.holds Tryd.pinned (OpenSpec.ofChange factChainWrong)

/-- 'cleanroomlaw15.FactHeads': WHATEVER THE INPUT: true; the input reads as it did. -/
def factHeadsSpec : ChangeSpec := { name := "factHeads", fn := fun _ => fun
  | [d1, d2, d3, d4] => { results := [.lit (.bool true)], args := [d1, d2, d3, d4] }
  | _ => none }
def factHeadsRow : OpenClaim := { program := "ytnmjcjkjdbkpnaadoor", sum := "2e60fe37cdd6451bda740f81800ffeadf1d996e68384d9ec877a81488e488c94", func := "cleanroom/cleanroomlaw15.FactHeads", spec := "factHeads", inPlace := ["internal/abi.NoEscape"], unfollowed := true, recurses := true, named := ["cleanroom/fact.usual"], apart := false, laid := [("cleanroom/fact.usual", laid_cleanroom_fact_usual)] }
def FactHeadsSaid : Prop := factHeadsRow.holds Tryd.pinned (OpenSpec.ofChange factHeadsSpec)

/-- ITS FALSE NEIGHBOUR: 'it returns false'. Refute it at one input. -/
def factHeadsWrong : ChangeSpec := { name := "factHeads", fn := fun _ => fun
  | [d1, d2, d3, d4] => { results := [.lit (.bool false)], args := [d1, d2, d3, d4] }
  | _ => none }
def FactHeadsWrongFalsely : Prop := factHeadsRow.holds Tryd.pinned (OpenSpec.ofChange factHeadsWrong)

/- THE SECOND FORM. 'bulk': how many values and letters a reading holds, each counted each time it is reached (what is shared counts as often as it is met; a slice's spare places count too). A statement '..UptoSaid' is the law's where the arguments, and the package variables that the reading takes, are together of bulk at most 1048576: NARROWER than '..Said'. Prove '..Said' where nothing that the law and all that it calls make is longer than what came in: it says more and counts as full. Else prove '..UptoSaid'. A law counts once. -/
mutual
def uptoBulk {H : Type} : DataW H → Nat
  | .lit (.string bytes) => bytes.length + 1
  | .lit _ => 1
  | .nil => 1
  | .ptr d => uptoBulk d + 1
  | .slice elems spare => uptoBulkAll elems + uptoBulkAll spare + 1
  | .agg parts => uptoBulkAll parts + 1
  | .iface _ d => uptoBulk d + 1
  | .map entries => uptoBulkEntries entries + 1
  | .held _ => 1
def uptoBulkAll {H : Type} : List (DataW H) → Nat
  | [] => 0
  | d :: r => uptoBulk d + uptoBulkAll r
def uptoBulkEntries {H : Type} : List (Lit × DataW H) → Nat
  | [] => 0
  | x :: r => uptoBulkEntry x + uptoBulkEntries r
def uptoBulkEntry {H : Type} : Lit × DataW H → Nat
  | (.string bytes, d) => bytes.length + uptoBulk d + 1
  | (_, d) => uptoBulk d + 1
 end
def uptoSmall : (H : Type) → List (DataW H) → Bool := fun _ ds => decide (uptoBulkAll ds ≤ 1048576)
def OpenSpec.upto (s : _root_.Go.ChangeSpec) : _root_.Go.OpenSpec := { _root_.Go.OpenSpec.ofChange s with cond := some uptoSmall }

/-- 'cleanroomlaw15.FactMatchesReference', WHERE WHAT IT READS IS OF BULK AT MOST 1048576: true; the input reads as it did. -/
def factMatchesReferenceUptoRow : OpenClaim := { program := "ytnmjcjkjdbkpnaadoor", sum := "2e60fe37cdd6451bda740f81800ffeadf1d996e68384d9ec877a81488e488c94", func := "cleanroom/cleanroomlaw15.FactMatchesReference", spec := "factMatchesReference", inPlace := ["internal/abi.NoEscape"], unfollowed := true, recurses := true, named := ["cleanroom/fact.usual"], apart := false, laid := [("cleanroom/fact.usual", laid_cleanroom_fact_usual)], narrowed := true }
def FactMatchesReferenceUptoSaid : Prop := factMatchesReferenceUptoRow.holds Tryd.pinned (OpenSpec.upto factMatchesReferenceSpec)

/-- 'cleanroomlaw15.FactDecodeMatchesReference', WHERE WHAT IT READS IS OF BULK AT MOST 1048576: true; the input reads as it did. -/
def factDecodeMatchesReferenceUptoRow : OpenClaim := { program := "ytnmjcjkjdbkpnaadoor", sum := "2e60fe37cdd6451bda740f81800ffeadf1d996e68384d9ec877a81488e488c94", func := "cleanroom/cleanroomlaw15.FactDecodeMatchesReference", spec := "factDecodeMatchesReference", inPlace := ["internal/abi.NoEscape"], unfollowed := true, recurses := true, named := ["cleanroom/fact.usual"], apart := false, laid := [("cleanroom/fact.usual", laid_cleanroom_fact_usual)], narrowed := true }
def FactDecodeMatchesReferenceUptoSaid : Prop := factDecodeMatchesReferenceUptoRow.holds Tryd.pinned (OpenSpec.upto factDecodeMatchesReferenceSpec)

/-- 'cleanroomlaw15.FactRoundTrip', WHERE WHAT IT READS IS OF BULK AT MOST 1048576: true; the input reads as it did. -/
def factRoundTripUptoRow : OpenClaim := { program := "ytnmjcjkjdbkpnaadoor", sum := "2e60fe37cdd6451bda740f81800ffeadf1d996e68384d9ec877a81488e488c94", func := "cleanroom/cleanroomlaw15.FactRoundTrip", spec := "factRoundTrip", inPlace := ["internal/abi.NoEscape"], unfollowed := true, recurses := true, named := ["cleanroom/fact.usual"], apart := false, laid := [("cleanroom/fact.usual", laid_cleanroom_fact_usual)], narrowed := true }
def FactRoundTripUptoSaid : Prop := factRoundTripUptoRow.holds Tryd.pinned (OpenSpec.upto factRoundTripSpec)

/-- 'cleanroomlaw15.FactDecodedAgain', WHERE WHAT IT READS IS OF BULK AT MOST 1048576: true; the input reads as it did. -/
def factDecodedAgainUptoRow : OpenClaim := { program := "ytnmjcjkjdbkpnaadoor", sum := "2e60fe37cdd6451bda740f81800ffeadf1d996e68384d9ec877a81488e488c94", func := "cleanroom/cleanroomlaw15.FactDecodedAgain", spec := "factDecodedAgain", inPlace := ["internal/abi.NoEscape"], unfollowed := true, recurses := true, named := ["cleanroom/fact.usual"], apart := false, laid := [("cleanroom/fact.usual", laid_cleanroom_fact_usual)], narrowed := true }
def FactDecodedAgainUptoSaid : Prop := factDecodedAgainUptoRow.holds Tryd.pinned (OpenSpec.upto factDecodedAgainSpec)

/-- 'cleanroomlaw15.FactPrefixes', WHERE WHAT IT READS IS OF BULK AT MOST 1048576: true; the input reads as it did. -/
def factPrefixesUptoRow : OpenClaim := { program := "ytnmjcjkjdbkpnaadoor", sum := "2e60fe37cdd6451bda740f81800ffeadf1d996e68384d9ec877a81488e488c94", func := "cleanroom/cleanroomlaw15.FactPrefixes", spec := "factPrefixes", inPlace := ["internal/abi.NoEscape"], unfollowed := true, recurses := true, named := ["cleanroom/fact.usual"], apart := false, laid := [("cleanroom/fact.usual", laid_cleanroom_fact_usual)], narrowed := true }
def FactPrefixesUptoSaid : Prop := factPrefixesUptoRow.holds Tryd.pinned (OpenSpec.upto factPrefixesSpec)

/-- 'cleanroomlaw15.FactKeys', WHERE WHAT IT READS IS OF BULK AT MOST 1048576: true; the input reads as it did. -/
def factKeysUptoRow : OpenClaim := { program := "ytnmjcjkjdbkpnaadoor", sum := "2e60fe37cdd6451bda740f81800ffeadf1d996e68384d9ec877a81488e488c94", func := "cleanroom/cleanroomlaw15.FactKeys", spec := "factKeys", inPlace := ["internal/abi.NoEscape"], unfollowed := true, recurses := true, named := ["cleanroom/fact.usual"], apart := false, laid := [("cleanroom/fact.usual", laid_cleanroom_fact_usual)], narrowed := true }
def FactKeysUptoSaid : Prop := factKeysUptoRow.holds Tryd.pinned (OpenSpec.upto factKeysSpec)

/-- 'cleanroomlaw15.FactPrevails', WHERE WHAT IT READS IS OF BULK AT MOST 1048576: true; the input reads as it did. -/
def factPrevailsUptoRow : OpenClaim := { program := "ytnmjcjkjdbkpnaadoor", sum := "2e60fe37cdd6451bda740f81800ffeadf1d996e68384d9ec877a81488e488c94", func := "cleanroom/cleanroomlaw15.FactPrevails", spec := "factPrevails", inPlace := ["internal/abi.NoEscape"], unfollowed := true, recurses := true, named := ["cleanroom/fact.usual"], apart := false, laid := [("cleanroom/fact.usual", laid_cleanroom_fact_usual)], narrowed := true }
def FactPrevailsUptoSaid : Prop := factPrevailsUptoRow.holds Tryd.pinned (OpenSpec.upto factPrevailsSpec)

/-- 'cleanroomlaw15.FactChain', WHERE WHAT IT READS IS OF BULK AT MOST 1048576: true; the input reads as it did. -/
def factChainUptoRow : OpenClaim := { program := "ytnmjcjkjdbkpnaadoor", sum := "2e60fe37cdd6451bda740f81800ffeadf1d996e68384d9ec877a81488e488c94", func := "cleanroom/cleanroomlaw15.FactChain", spec := "factChain", inPlace := ["internal/abi.NoEscape"], unfollowed := true, recurses := true, named := ["cleanroom/fact.usual"], apart := false, laid := [("cleanroom/fact.usual", laid_cleanroom_fact_usual)], narrowed := true }
def FactChainUptoSaid : Prop := factChainUptoRow.holds Tryd.pinned (OpenSpec.upto factChainSpec)

/-- 'cleanroomlaw15.FactHeads', WHERE WHAT IT READS IS OF BULK AT MOST 1048576: true; the input reads as it did. -/
def factHeadsUptoRow : OpenClaim := { program := "ytnmjcjkjdbkpnaadoor", sum := "2e60fe37cdd6451bda740f81800ffeadf1d996e68384d9ec877a81488e488c94", func := "cleanroom/cleanroomlaw15.FactHeads", spec := "factHeads", inPlace := ["internal/abi.NoEscape"], unfollowed := true, recurses := true, named := ["cleanroom/fact.usual"], apart := false, laid := [("cleanroom/fact.usual", laid_cleanroom_fact_usual)], narrowed := true }
def FactHeadsUptoSaid : Prop := factHeadsUptoRow.holds Tryd.pinned (OpenSpec.upto factHeadsSpec)

end Rows
end Go.Proofs.YtnmjcjkjdbkpnaaDoor
