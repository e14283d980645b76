/-
  How an argument reads that is a slice of arrays of six integers.
-/
import Derived.Test.YtjdhjlhcdpekbaaOpen2
namespace Go.Proofs.Ytjdhjlhcdpekbaa
open Go.ChangeShapes Go.WideShapes Go.ChangeAt Go.RowKit Go.Joins
variable {H : Type} {enc : TypeId × Value → H} {w : World} {base : Nat} {sp : Nat → Bool} {held : Bool}
theorem cells_six : Try.prog.cellsOf 104 = 6 := by kernel_rfl
set_option maxRecDepth 100000 in
theorem open_sixes {r : Reach} {b0 : Nat} {v : Value} {d : DataW H} {p : List MemPlace} (hv : Value.okWide Try.prog w r b0 60 v) (h : DataW.Trod enc Try.prog w base sp held 60 v d p) :
    ∃ (a : Option Addr) (c : Nat) (X : List (List Int)), v = .slice a X.length c ∧ ArrsA 6 w a c X := open_arrs Try.underlying60 Try.underlying104 cells_six (by decide) hv h
end Go.Proofs.Ytjdhjlhcdpekbaa
