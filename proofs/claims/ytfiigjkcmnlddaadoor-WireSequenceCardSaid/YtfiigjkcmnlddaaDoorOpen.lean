/-
  How the arguments of the statements that are arrays and slices read: [2]string, []int, []string.
-/
import Derived.Test.YtfiigjkcmnlddaaDoorFrame
import Derived.SliceStrings
import Derived.Lib.SmallJoins
namespace Go.Proofs.YtfiigjkcmnlddaaDoor
open Go.ChangeShapes Go.WideShapes Go.ChangeAt Go.RowKit

variable {H : Type} {enc : TypeId × Value → H} {w : World} {base : Nat} {sp : Nat → Bool} {held : Bool}

theorem cells_two : Tryd.prog.cellsOf 36 = 2 := by kernel_rfl
theorem cells_string : Tryd.prog.cellsOf 9 = 1 := by kernel_rfl
theorem cells_int : Tryd.prog.cellsOf 3 = 1 := by kernel_rfl

theorem open_two {r : Reach} {b0 : Nat} {v : Value} {d : DataW H} {p : List MemPlace} (hv : Value.okWide Tryd.prog w r b0 36 v) (h : DataW.Trod enc Tryd.prog w base sp held 36 v d p) :
    ∃ a c : ByteArray, v = .agg #[.string a, .string c] ∧ a.size ≤ maxLen ∧ c.size ≤ maxLen := by
  simp only [Value.okWide, Tryd.underlying36] at hv
  obtain ⟨cs, rfl, hsz, _⟩ := hv
  rw [cells_two] at hsz
  obtain ⟨c0, c1, rfl⟩ := Joins.array2 hsz
  obtain ⟨fuel, hf⟩ := h
  obtain ⟨xs, m, _, _, _, hl, hel⟩ := DataW.trod_array Tryd.underlying36 hf
  have h0 := hel 0 (by omega)
  have h1 := hel 1 (by omega)
  rw [cells_string] at h0 h1
  obtain ⟨x0, hx0⟩ : ∃ x0, xs[0]? = some x0 := ⟨xs[0], List.getElem?_eq_getElem (by omega)⟩
  obtain ⟨x1, hx1⟩ : ∃ x1, xs[1]? = some x1 := ⟨xs[1], List.getElem?_eq_getElem (by omega)⟩
  rw [hx0] at h0
  rw [hx1] at h1
  obtain ⟨a, e0, _, ha⟩ := DataW.trod_string Tryd.underlying9 h0
  obtain ⟨c, e1, _, hc⟩ := DataW.trod_string Tryd.underlying9 h1
  simp [Value.cells] at e0 e1
  subst e0; subst e1
  exact ⟨a, c, rfl, ha, hc⟩
end Go.Proofs.YtfiigjkcmnlddaaDoor
