/-
  How an argument reads that is an array of three integers.
-/
import Derived.Test.YtngpkipblcihaaaOpen
namespace Go.Proofs.Ytngpkipblcihaaa
open Go.ChangeShapes Go.WideShapes Go.ChangeAt Go.RowKit Go.Joins
variable {H : Type} {enc : TypeId × Value → H} {w : World} {base : Nat} {sp : Nat → Bool} {held : Bool}

theorem cells_three : Try.prog.cellsOf 53 = 3 := by kernel_rfl
set_option maxRecDepth 100000 in
theorem open_three {r : Reach} {b0 : Nat} {v : Value} {d : DataW H} {p : List MemPlace} (hv : Value.okWide Try.prog w r b0 53 v) (h : DataW.Trod enc Try.prog w base sp held 53 v d p) :
    ∃ a b c : Int, v = .agg #[.int .i64 a, .int .i64 b, .int .i64 c] ∧ Fits a ∧ Fits b ∧ Fits c := by
  simp only [Value.okWide, Try.underlying53] at hv
  obtain ⟨cs, rfl, hsz, _⟩ := hv
  obtain ⟨fuel, hf⟩ := h
  obtain ⟨L, e1, e2, e3⟩ := ints_of_trod Try.underlying53 cells_three hf
  match L, e1 with
  | [a, b, c], _ =>
    obtain ⟨l⟩ := cs
    simp [Value.cells] at e2
    subst e2
    exact ⟨a, b, c, rfl, e3 a (by simp), e3 b (by simp), e3 c (by simp)⟩
end Go.Proofs.Ytngpkipblcihaaa
