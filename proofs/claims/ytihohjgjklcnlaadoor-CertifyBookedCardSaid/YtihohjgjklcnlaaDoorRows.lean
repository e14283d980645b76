/-
  NARROWER THAN 'FOR EVERY INPUT', by the rows' own cells (each row's printed sentence says how): CertifySafe: laid · CertifyUnsafe: laid · CertifyTight: laid · CertifyNarrower: laid · CertifySlack: laid · CertifyRoundTrip: laid · CertifyBooked: laid.
  DERIVED. THE GIVEN ROWS OF THIS SEAT. 7 by the template 'for every input the law returns true; each argument reads behind the call as it read before'; 0 by the template 'total and deterministic' (their statements: YtihohjgjklcnlaaDoorTotals.lean).
  GIVEN WITH THE SEED: the statements are not yours to turn. If you find one false, say at which input.
  Laid BY PROGRAM, IN A SANDBOX (cutbox-rows.mjs): the forced cells as the released guide's own fill.sh prints them over the translation ca2af06d7f8db055… (all of the seat's roots in one cut). By AI agents, Wed Nov 11 2026. No macro, syntax, notation, axiom, sorry.
-/
import Derived.Test.YtihohjgjklcnlaaDoorChecked
import GoSem.Claim
import GoSem.ClaimJoined
import GoSem.ClaimMapViews
import Derived.JoinedTies
import Derived.KernelRfl
namespace Go.Proofs.YtihohjgjklcnlaaDoor
/- THE CELL 'sum', in the pinned program and in every row, IS THE sha256 OF THE DUMP (.gsa) THAT YtihohjgjklcnlaaDoorProg.lean LOADS. Nothing in Lean hashes anything: it is a label: what it is worth is what the hold of that sum in a sandbox is worth. -/
noncomputable def Tryd.pinned : Pinned := { name := "ytihohjgjklcnlaadoor", sum := "ca2af06d7f8db0558c3d68b7dd07b93e148c968a21ec54ee364d9cbb8835cc66", checked := Tryd.checked }
namespace Rows
def none {H : Type} : Left H := { results := [], args := [] }

/- WHAT THE LISTED PACKAGE-LEVEL VARIABLES READ AS WHEN THE CALL BEGINS. Each datum BY PROGRAM (the guide's laid-datum.mjs) off the statement by which the dump's own 'gosem.cut.vars' lays the variable. In a bare row this is a premise. The card (YtihohjgjklcnlaaDoorCards.lean) ties it to the program's text. -/
def laid_cleanroom_digest_roundWords {H : Type} : DataW H := .agg [.lit (.int .u32 1116352408), .lit (.int .u32 1899447441), .lit (.int .u32 3049323471), .lit (.int .u32 3921009573), .lit (.int .u32 961987163), .lit (.int .u32 1508970993), .lit (.int .u32 2453635748), .lit (.int .u32 2870763221), .lit (.int .u32 3624381080), .lit (.int .u32 310598401), .lit (.int .u32 607225278), .lit (.int .u32 1426881987), .lit (.int .u32 1925078388), .lit (.int .u32 2162078206), .lit (.int .u32 2614888103), .lit (.int .u32 3248222580), .lit (.int .u32 3835390401), .lit (.int .u32 4022224774), .lit (.int .u32 264347078), .lit (.int .u32 604807628), .lit (.int .u32 770255983), .lit (.int .u32 1249150122), .lit (.int .u32 1555081692), .lit (.int .u32 1996064986), .lit (.int .u32 2554220882), .lit (.int .u32 2821834349), .lit (.int .u32 2952996808), .lit (.int .u32 3210313671), .lit (.int .u32 3336571891), .lit (.int .u32 3584528711), .lit (.int .u32 113926993), .lit (.int .u32 338241895), .lit (.int .u32 666307205), .lit (.int .u32 773529912), .lit (.int .u32 1294757372), .lit (.int .u32 1396182291), .lit (.int .u32 1695183700), .lit (.int .u32 1986661051), .lit (.int .u32 2177026350), .lit (.int .u32 2456956037), .lit (.int .u32 2730485921), .lit (.int .u32 2820302411), .lit (.int .u32 3259730800), .lit (.int .u32 3345764771), .lit (.int .u32 3516065817), .lit (.int .u32 3600352804), .lit (.int .u32 4094571909), .lit (.int .u32 275423344), .lit (.int .u32 430227734), .lit (.int .u32 506948616), .lit (.int .u32 659060556), .lit (.int .u32 883997877), .lit (.int .u32 958139571), .lit (.int .u32 1322822218), .lit (.int .u32 1537002063), .lit (.int .u32 1747873779), .lit (.int .u32 1955562222), .lit (.int .u32 2024104815), .lit (.int .u32 2227730452), .lit (.int .u32 2361852424), .lit (.int .u32 2428436474), .lit (.int .u32 2756734187), .lit (.int .u32 3204031479), .lit (.int .u32 3329325298)]

/-- 'cleanroomlaw09.CertifySafe': WHATEVER THE INPUT: true; the input reads as it did. -/
def certifySafeSpec : ChangeSpec := { name := "certifySafe", fn := fun _ => fun
  | [d1, d2, d3, d4, d5] => { results := [.lit (.bool true)], args := [d1, d2, d3, d4, d5] }
  | _ => none }
def certifySafeRow : OpenClaim := { program := "ytihohjgjklcnlaadoor", sum := "ca2af06d7f8db0558c3d68b7dd07b93e148c968a21ec54ee364d9cbb8835cc66", func := "cleanroom/cleanroomlaw09.CertifySafe", spec := "certifySafe", inPlace := ["internal/abi.NoEscape"], unfollowed := true, recurses := true, named := ["cleanroom/digest.roundWords"], apart := false, laid := [("cleanroom/digest.roundWords", laid_cleanroom_digest_roundWords)] }
def CertifySafeSaid : Prop := certifySafeRow.holds Tryd.pinned (OpenSpec.ofChange certifySafeSpec)

/-- ITS FALSE NEIGHBOUR: 'it returns false'. Refute it at one input. -/
def certifySafeWrong : ChangeSpec := { name := "certifySafe", fn := fun _ => fun
  | [d1, d2, d3, d4, d5] => { results := [.lit (.bool false)], args := [d1, d2, d3, d4, d5] }
  | _ => none }
def CertifySafeWrongFalsely : Prop := certifySafeRow.holds Tryd.pinned (OpenSpec.ofChange certifySafeWrong)

/-- 'cleanroomlaw09.CertifyUnsafe': WHATEVER THE INPUT: true; the input reads as it did. -/
def certifyUnsafeSpec : ChangeSpec := { name := "certifyUnsafe", fn := fun _ => fun
  | [d1, d2] => { results := [.lit (.bool true)], args := [d1, d2] }
  | _ => none }
def certifyUnsafeRow : OpenClaim := { program := "ytihohjgjklcnlaadoor", sum := "ca2af06d7f8db0558c3d68b7dd07b93e148c968a21ec54ee364d9cbb8835cc66", func := "cleanroom/cleanroomlaw09.CertifyUnsafe", spec := "certifyUnsafe", inPlace := ["internal/abi.NoEscape"], unfollowed := true, recurses := true, named := ["cleanroom/digest.roundWords"], apart := false, laid := [("cleanroom/digest.roundWords", laid_cleanroom_digest_roundWords)] }
def CertifyUnsafeSaid : Prop := certifyUnsafeRow.holds Tryd.pinned (OpenSpec.ofChange certifyUnsafeSpec)

/-- ITS FALSE NEIGHBOUR: 'it returns false'. Refute it at one input. -/
def certifyUnsafeWrong : ChangeSpec := { name := "certifyUnsafe", fn := fun _ => fun
  | [d1, d2] => { results := [.lit (.bool false)], args := [d1, d2] }
  | _ => none }
def CertifyUnsafeWrongFalsely : Prop := certifyUnsafeRow.holds Tryd.pinned (OpenSpec.ofChange certifyUnsafeWrong)

/-- 'cleanroomlaw09.CertifyTight': WHATEVER THE INPUT: true; the input reads as it did. -/
def certifyTightSpec : ChangeSpec := { name := "certifyTight", fn := fun _ => fun
  | [d1, d2] => { results := [.lit (.bool true)], args := [d1, d2] }
  | _ => none }
def certifyTightRow : OpenClaim := { program := "ytihohjgjklcnlaadoor", sum := "ca2af06d7f8db0558c3d68b7dd07b93e148c968a21ec54ee364d9cbb8835cc66", func := "cleanroom/cleanroomlaw09.CertifyTight", spec := "certifyTight", inPlace := ["internal/abi.NoEscape"], unfollowed := true, recurses := true, named := ["cleanroom/digest.roundWords"], apart := false, laid := [("cleanroom/digest.roundWords", laid_cleanroom_digest_roundWords)] }
def CertifyTightSaid : Prop := certifyTightRow.holds Tryd.pinned (OpenSpec.ofChange certifyTightSpec)

/-- ITS FALSE NEIGHBOUR: 'it returns false'. Refute it at one input. -/
def certifyTightWrong : ChangeSpec := { name := "certifyTight", fn := fun _ => fun
  | [d1, d2] => { results := [.lit (.bool false)], args := [d1, d2] }
  | _ => none }
def CertifyTightWrongFalsely : Prop := certifyTightRow.holds Tryd.pinned (OpenSpec.ofChange certifyTightWrong)

/-- 'cleanroomlaw09.CertifyNarrower': WHATEVER THE INPUT: true; the input reads as it did. -/
def certifyNarrowerSpec : ChangeSpec := { name := "certifyNarrower", fn := fun _ => fun
  | [d1, d2, d3, d4, d5] => { results := [.lit (.bool true)], args := [d1, d2, d3, d4, d5] }
  | _ => none }
def certifyNarrowerRow : OpenClaim := { program := "ytihohjgjklcnlaadoor", sum := "ca2af06d7f8db0558c3d68b7dd07b93e148c968a21ec54ee364d9cbb8835cc66", func := "cleanroom/cleanroomlaw09.CertifyNarrower", spec := "certifyNarrower", inPlace := ["internal/abi.NoEscape"], unfollowed := true, recurses := true, named := ["cleanroom/digest.roundWords"], apart := false, laid := [("cleanroom/digest.roundWords", laid_cleanroom_digest_roundWords)] }
def CertifyNarrowerSaid : Prop := certifyNarrowerRow.holds Tryd.pinned (OpenSpec.ofChange certifyNarrowerSpec)

/-- ITS FALSE NEIGHBOUR: 'it returns false'. Refute it at one input. -/
def certifyNarrowerWrong : ChangeSpec := { name := "certifyNarrower", fn := fun _ => fun
  | [d1, d2, d3, d4, d5] => { results := [.lit (.bool false)], args := [d1, d2, d3, d4, d5] }
  | _ => none }
def CertifyNarrowerWrongFalsely : Prop := certifyNarrowerRow.holds Tryd.pinned (OpenSpec.ofChange certifyNarrowerWrong)

/-- 'cleanroomlaw09.CertifySlack': WHATEVER THE INPUT: true; the input reads as it did. -/
def certifySlackSpec : ChangeSpec := { name := "certifySlack", fn := fun _ => fun
  | [d1, d2] => { results := [.lit (.bool true)], args := [d1, d2] }
  | _ => none }
def certifySlackRow : OpenClaim := { program := "ytihohjgjklcnlaadoor", sum := "ca2af06d7f8db0558c3d68b7dd07b93e148c968a21ec54ee364d9cbb8835cc66", func := "cleanroom/cleanroomlaw09.CertifySlack", spec := "certifySlack", inPlace := ["internal/abi.NoEscape"], unfollowed := true, recurses := true, named := ["cleanroom/digest.roundWords"], apart := false, laid := [("cleanroom/digest.roundWords", laid_cleanroom_digest_roundWords)] }
def CertifySlackSaid : Prop := certifySlackRow.holds Tryd.pinned (OpenSpec.ofChange certifySlackSpec)

/-- ITS FALSE NEIGHBOUR: 'it returns false'. Refute it at one input. -/
def certifySlackWrong : ChangeSpec := { name := "certifySlack", fn := fun _ => fun
  | [d1, d2] => { results := [.lit (.bool false)], args := [d1, d2] }
  | _ => none }
def CertifySlackWrongFalsely : Prop := certifySlackRow.holds Tryd.pinned (OpenSpec.ofChange certifySlackWrong)

/-- 'cleanroomlaw09.CertifyRoundTrip': WHATEVER THE INPUT: true; the input reads as it did. -/
def certifyRoundTripSpec : ChangeSpec := { name := "certifyRoundTrip", fn := fun _ => fun
  | [d1, d2, d3, d4, d5] => { results := [.lit (.bool true)], args := [d1, d2, d3, d4, d5] }
  | _ => none }
def certifyRoundTripRow : OpenClaim := { program := "ytihohjgjklcnlaadoor", sum := "ca2af06d7f8db0558c3d68b7dd07b93e148c968a21ec54ee364d9cbb8835cc66", func := "cleanroom/cleanroomlaw09.CertifyRoundTrip", spec := "certifyRoundTrip", inPlace := ["internal/abi.NoEscape"], unfollowed := true, recurses := true, named := ["cleanroom/digest.roundWords"], apart := false, laid := [("cleanroom/digest.roundWords", laid_cleanroom_digest_roundWords)] }
def CertifyRoundTripSaid : Prop := certifyRoundTripRow.holds Tryd.pinned (OpenSpec.ofChange certifyRoundTripSpec)

/-- ITS FALSE NEIGHBOUR: 'it returns false'. Refute it at one input. -/
def certifyRoundTripWrong : ChangeSpec := { name := "certifyRoundTrip", fn := fun _ => fun
  | [d1, d2, d3, d4, d5] => { results := [.lit (.bool false)], args := [d1, d2, d3, d4, d5] }
  | _ => none }
def CertifyRoundTripWrongFalsely : Prop := certifyRoundTripRow.holds Tryd.pinned (OpenSpec.ofChange certifyRoundTripWrong)

/-- 'cleanroomlaw09.CertifyBooked': WHATEVER THE INPUT: true; the input reads as it did. -/
def certifyBookedSpec : ChangeSpec := { name := "certifyBooked", fn := fun _ => fun
  | [d1, d2] => { results := [.lit (.bool true)], args := [d1, d2] }
  | _ => none }
def certifyBookedRow : OpenClaim := { program := "ytihohjgjklcnlaadoor", sum := "ca2af06d7f8db0558c3d68b7dd07b93e148c968a21ec54ee364d9cbb8835cc66", func := "cleanroom/cleanroomlaw09.CertifyBooked", spec := "certifyBooked", inPlace := ["internal/abi.NoEscape"], unfollowed := true, recurses := true, named := ["cleanroom/digest.roundWords"], apart := false, laid := [("cleanroom/digest.roundWords", laid_cleanroom_digest_roundWords)] }
def CertifyBookedSaid : Prop := certifyBookedRow.holds Tryd.pinned (OpenSpec.ofChange certifyBookedSpec)

/-- ITS FALSE NEIGHBOUR: 'it returns false'. Refute it at one input. -/
def certifyBookedWrong : ChangeSpec := { name := "certifyBooked", fn := fun _ => fun
  | [d1, d2] => { results := [.lit (.bool false)], args := [d1, d2] }
  | _ => none }
def CertifyBookedWrongFalsely : Prop := certifyBookedRow.holds Tryd.pinned (OpenSpec.ofChange certifyBookedWrong)

/- THE SECOND FORM. 'bulk': how many values and letters a reading holds, each counted each time it is reached (what is shared counts as often as it is met; a slice's spare places count too). A statement '..UptoSaid' is the law's where the arguments, and the package variables that the reading takes, are together of bulk at most 1048576: NARROWER than '..Said'. Prove '..Said' where nothing that the law and all that it calls make is longer than what came in: it says more and counts as full. Else prove '..UptoSaid'. A law counts once. -/
mutual
def uptoBulk {H : Type} : DataW H → Nat
  | .lit (.string bytes) => bytes.length + 1
  | .lit _ => 1
  | .nil => 1
  | .ptr d => uptoBulk d + 1
  | .slice elems spare => uptoBulkAll elems + uptoBulkAll spare + 1
  | .agg parts => uptoBulkAll parts + 1
  | .iface _ d => uptoBulk d + 1
  | .map entries => uptoBulkEntries entries + 1
  | .held _ => 1
def uptoBulkAll {H : Type} : List (DataW H) → Nat
  | [] => 0
  | d :: r => uptoBulk d + uptoBulkAll r
def uptoBulkEntries {H : Type} : List (Lit × DataW H) → Nat
  | [] => 0
  | x :: r => uptoBulkEntry x + uptoBulkEntries r
def uptoBulkEntry {H : Type} : Lit × DataW H → Nat
  | (.string bytes, d) => bytes.length + uptoBulk d + 1
  | (_, d) => uptoBulk d + 1
 end
def uptoSmall : (H : Type) → List (DataW H) → Bool := fun _ ds => decide (uptoBulkAll ds ≤ 1048576)
def OpenSpec.upto (s : _root_.Go.ChangeSpec) : _root_.Go.OpenSpec := { _root_.Go.OpenSpec.ofChange s with cond := some uptoSmall }

/-- 'cleanroomlaw09.CertifySafe', WHERE WHAT IT READS IS OF BULK AT MOST 1048576: true; the input reads as it did. -/
def certifySafeUptoRow : OpenClaim := { program := "ytihohjgjklcnlaadoor", sum := "ca2af06d7f8db0558c3d68b7dd07b93e148c968a21ec54ee364d9cbb8835cc66", func := "cleanroom/cleanroomlaw09.CertifySafe", spec := "certifySafe", inPlace := ["internal/abi.NoEscape"], unfollowed := true, recurses := true, named := ["cleanroom/digest.roundWords"], apart := false, laid := [("cleanroom/digest.roundWords", laid_cleanroom_digest_roundWords)], narrowed := true }
def CertifySafeUptoSaid : Prop := certifySafeUptoRow.holds Tryd.pinned (OpenSpec.upto certifySafeSpec)

/-- 'cleanroomlaw09.CertifyUnsafe', WHERE WHAT IT READS IS OF BULK AT MOST 1048576: true; the input reads as it did. -/
def certifyUnsafeUptoRow : OpenClaim := { program := "ytihohjgjklcnlaadoor", sum := "ca2af06d7f8db0558c3d68b7dd07b93e148c968a21ec54ee364d9cbb8835cc66", func := "cleanroom/cleanroomlaw09.CertifyUnsafe", spec := "certifyUnsafe", inPlace := ["internal/abi.NoEscape"], unfollowed := true, recurses := true, named := ["cleanroom/digest.roundWords"], apart := false, laid := [("cleanroom/digest.roundWords", laid_cleanroom_digest_roundWords)], narrowed := true }
def CertifyUnsafeUptoSaid : Prop := certifyUnsafeUptoRow.holds Tryd.pinned (OpenSpec.upto certifyUnsafeSpec)

/-- 'cleanroomlaw09.CertifyTight', WHERE WHAT IT READS IS OF BULK AT MOST 1048576: true; the input reads as it did. -/
def certifyTightUptoRow : OpenClaim := { program := "ytihohjgjklcnlaadoor", sum := "ca2af06d7f8db0558c3d68b7dd07b93e148c968a21ec54ee364d9cbb8835cc66", func := "cleanroom/cleanroomlaw09.CertifyTight", spec := "certifyTight", inPlace := ["internal/abi.NoEscape"], unfollowed := true, recurses := true, named := ["cleanroom/digest.roundWords"], apart := false, laid := [("cleanroom/digest.roundWords", laid_cleanroom_digest_roundWords)], narrowed := true }
def CertifyTightUptoSaid : Prop := certifyTightUptoRow.holds Tryd.pinned (OpenSpec.upto certifyTightSpec)

/-- 'cleanroomlaw09.CertifyNarrower', WHERE WHAT IT READS IS OF BULK AT MOST 1048576: true; the input reads as it did. -/
def certifyNarrowerUptoRow : OpenClaim := { program := "ytihohjgjklcnlaadoor", sum := "ca2af06d7f8db0558c3d68b7dd07b93e148c968a21ec54ee364d9cbb8835cc66", func := "cleanroom/cleanroomlaw09.CertifyNarrower", spec := "certifyNarrower", inPlace := ["internal/abi.NoEscape"], unfollowed := true, recurses := true, named := ["cleanroom/digest.roundWords"], apart := false, laid := [("cleanroom/digest.roundWords", laid_cleanroom_digest_roundWords)], narrowed := true }
def CertifyNarrowerUptoSaid : Prop := certifyNarrowerUptoRow.holds Tryd.pinned (OpenSpec.upto certifyNarrowerSpec)

/-- 'cleanroomlaw09.CertifySlack', WHERE WHAT IT READS IS OF BULK AT MOST 1048576: true; the input reads as it did. -/
def certifySlackUptoRow : OpenClaim := { program := "ytihohjgjklcnlaadoor", sum := "ca2af06d7f8db0558c3d68b7dd07b93e148c968a21ec54ee364d9cbb8835cc66", func := "cleanroom/cleanroomlaw09.CertifySlack", spec := "certifySlack", inPlace := ["internal/abi.NoEscape"], unfollowed := true, recurses := true, named := ["cleanroom/digest.roundWords"], apart := false, laid := [("cleanroom/digest.roundWords", laid_cleanroom_digest_roundWords)], narrowed := true }
def CertifySlackUptoSaid : Prop := certifySlackUptoRow.holds Tryd.pinned (OpenSpec.upto certifySlackSpec)

/-- 'cleanroomlaw09.CertifyRoundTrip', WHERE WHAT IT READS IS OF BULK AT MOST 1048576: true; the input reads as it did. -/
def certifyRoundTripUptoRow : OpenClaim := { program := "ytihohjgjklcnlaadoor", sum := "ca2af06d7f8db0558c3d68b7dd07b93e148c968a21ec54ee364d9cbb8835cc66", func := "cleanroom/cleanroomlaw09.CertifyRoundTrip", spec := "certifyRoundTrip", inPlace := ["internal/abi.NoEscape"], unfollowed := true, recurses := true, named := ["cleanroom/digest.roundWords"], apart := false, laid := [("cleanroom/digest.roundWords", laid_cleanroom_digest_roundWords)], narrowed := true }
def CertifyRoundTripUptoSaid : Prop := certifyRoundTripUptoRow.holds Tryd.pinned (OpenSpec.upto certifyRoundTripSpec)

/-- 'cleanroomlaw09.CertifyBooked', WHERE WHAT IT READS IS OF BULK AT MOST 1048576: true; the input reads as it did. -/
def certifyBookedUptoRow : OpenClaim := { program := "ytihohjgjklcnlaadoor", sum := "ca2af06d7f8db0558c3d68b7dd07b93e148c968a21ec54ee364d9cbb8835cc66", func := "cleanroom/cleanroomlaw09.CertifyBooked", spec := "certifyBooked", inPlace := ["internal/abi.NoEscape"], unfollowed := true, recurses := true, named := ["cleanroom/digest.roundWords"], apart := false, laid := [("cleanroom/digest.roundWords", laid_cleanroom_digest_roundWords)], narrowed := true }
def CertifyBookedUptoSaid : Prop := certifyBookedUptoRow.holds Tryd.pinned (OpenSpec.upto certifyBookedSpec)

end Rows
end Go.Proofs.YtihohjgjklcnlaaDoor
