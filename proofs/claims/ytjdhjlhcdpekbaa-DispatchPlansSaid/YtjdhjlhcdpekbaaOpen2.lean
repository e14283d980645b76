/-
  How an argument reads that is a slice of arrays of two integers.
-/
import Derived.Test.YtjdhjlhcdpekbaaOpen
namespace Go.Proofs.Ytjdhjlhcdpekbaa
open Go.ChangeShapes Go.WideShapes Go.ChangeAt Go.RowKit Go.Joins
variable {H : Type} {enc : TypeId × Value → H} {w : World} {base : Nat} {sp : Nat → Bool} {held : Bool}
theorem cells_two : Try.prog.cellsOf 56 = 2 := by kernel_rfl
set_option maxRecDepth 100000 in
theorem open_twos {r : Reach} {b0 : Nat} {v : Value} {d : DataW H} {p : List MemPlace} (hv : Value.okWide Try.prog w r b0 54 v) (h : DataW.Trod enc Try.prog w base sp held 54 v d p) :
    ∃ (a : Option Addr) (c : Nat) (X : List (List Int)), v = .slice a X.length c ∧ ArrsA 2 w a c X := open_arrs Try.underlying54 Try.underlying56 cells_two (by decide) hv h
end Go.Proofs.Ytjdhjlhcdpekbaa
