/-
  How the arguments of layer 13's statements read.
-/
import Derived.Test.YtiolmcnngpaapaaOpen
namespace Go.Proofs.Ytiolmcnngpaapaa
open Go.ChangeShapes Go.WideShapes Go.ChangeAt Go.RowKit Go.Joins
variable {H : Type} {enc : TypeId × Value → H} {w : World} {base : Nat} {sp : Nat → Bool} {held : Bool}
theorem cells_two : Try.prog.cellsOf 68 = 2 := by kernel_rfl
theorem cells_five : Try.prog.cellsOf 26 = 5 := by kernel_rfl
theorem cells_four4 : Try.prog.cellsOf 66 = 4 := by kernel_rfl
set_option maxRecDepth 100000 in
theorem open_twos {r : Reach} {b0 : Nat} {v : Value} {d : DataW H} {p : List MemPlace} (hv : Value.okWide Try.prog w r b0 27 v) (h : DataW.Trod enc Try.prog w base sp held 27 v d p) :
    ∃ (a : Option Addr) (c : Nat) (X : List (List Int)), v = .slice a X.length c ∧ ArrsA 2 w a c X := open_arrs Try.underlying27 Try.underlying68 cells_two (by decide) hv h
set_option maxRecDepth 100000 in
theorem open_five {r : Reach} {b0 : Nat} {v : Value} {d : DataW H} {p : List MemPlace} (hv : Value.okWide Try.prog w r b0 26 v) (h : DataW.Trod enc Try.prog w base sp held 26 v d p) :
    ∃ x0 x1 x2 x3 x4 : Int, v = .agg #[.int .i64 x0, .int .i64 x1, .int .i64 x2, .int .i64 x3, .int .i64 x4] ∧ Fits x0 ∧ Fits x1 ∧ Fits x2 ∧ Fits x3 ∧ Fits x4 := by
  simp only [Value.okWide, Try.underlying26] at hv
  obtain ⟨cs, rfl, hsz, _⟩ := hv
  obtain ⟨fuel, hf⟩ := h
  obtain ⟨L, e1, e2, e3⟩ := ints_of_trod Try.underlying26 cells_five hf
  match L, e1 with
  | [a, b, c, d, e], _ =>
    obtain ⟨l⟩ := cs
    simp [Value.cells] at e2
    subst e2
    exact ⟨a, b, c, d, e, rfl, e3 a (by simp), e3 b (by simp), e3 c (by simp), e3 d (by simp), e3 e (by simp)⟩
set_option maxRecDepth 100000 in
theorem open_two {r : Reach} {b0 : Nat} {v : Value} {d : DataW H} {p : List MemPlace} (hv : Value.okWide Try.prog w r b0 68 v) (h : DataW.Trod enc Try.prog w base sp held 68 v d p) :
    ∃ x0 x1 : Int, v = .agg #[.int .i64 x0, .int .i64 x1] ∧ Fits x0 ∧ Fits x1 := by
  simp only [Value.okWide, Try.underlying68] at hv
  obtain ⟨cs, rfl, hsz, _⟩ := hv
  obtain ⟨fuel, hf⟩ := h
  obtain ⟨L, e1, e2, e3⟩ := ints_of_trod Try.underlying68 cells_two hf
  match L, e1 with
  | [a, b], _ =>
    obtain ⟨l⟩ := cs
    simp [Value.cells] at e2
    subst e2
    exact ⟨a, b, rfl, e3 a (by simp), e3 b (by simp)⟩
set_option maxRecDepth 100000 in
theorem open_four {r : Reach} {b0 : Nat} {v : Value} {d : DataW H} {p : List MemPlace} (hv : Value.okWide Try.prog w r b0 66 v) (h : DataW.Trod enc Try.prog w base sp held 66 v d p) :
    ∃ x0 x1 x2 x3 : Int, v = .agg #[.int .i64 x0, .int .i64 x1, .int .i64 x2, .int .i64 x3] ∧ Fits x0 ∧ Fits x1 ∧ Fits x2 ∧ Fits x3 := by
  simp only [Value.okWide, Try.underlying66] at hv
  obtain ⟨cs, rfl, hsz, _⟩ := hv
  obtain ⟨fuel, hf⟩ := h
  obtain ⟨L, e1, e2, e3⟩ := ints_of_trod Try.underlying66 cells_four4 hf
  match L, e1 with
  | [a, b, c, d], _ =>
    obtain ⟨l⟩ := cs
    simp [Value.cells] at e2
    subst e2
    exact ⟨a, b, c, d, rfl, e3 a (by simp), e3 b (by simp), e3 c (by simp), e3 d (by simp)⟩
end Go.Proofs.Ytiolmcnngpaapaa
