/-
  The walk of FlowDistinct.
-/
import Derived.Test.YtblnfcffalaeaaaGreatDoorBent
namespace Go.Proofs.YtblnfcffalaeaaaGreatDoor
open Go.RowKit Go.Shelf
theorem distinct_any (xa : Option Addr) (xc : Nat) (X : List (List Int)) (ya : Option Addr) (yc : Nat) (Y : List (List Int)) (h0 h1 h2 : Int) (w : World) (ht : ∃ a, Tab a w) (hX : ArrsA 6 w xa xc X) (hY : ArrsA 3 w ya yc Y) (f0 : Fits h0) (f1 : Fits h1) (f2 : Fits h2) :
    Calls Tryz.prog 7 #[.slice xa X.length xc, .slice ya Y.length yc, .agg #[.int .i64 h0, .int .i64 h1, .int .i64 h2]] w fun e w' => e = .returned (.bool true) ∧ Below w.heap.size w w' :=
  distinct_of bent_any xa xc X ya yc Y h0 h1 h2 w ht hX hY f0 f1 f2
end Go.Proofs.YtblnfcffalaeaaaGreatDoor
