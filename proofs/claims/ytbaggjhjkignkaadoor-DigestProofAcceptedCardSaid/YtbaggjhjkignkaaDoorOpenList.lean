/-
  How the arguments of the statements that are slices of strings read: as lists.
-/
import Derived.Test.YtbaggjhjkignkaaDoorFrame
import Derived.Test.YtbaggjhjkignkaaDoorStrs
import Derived.SliceStrings
import Derived.Lib.SmallJoins
namespace Go.Proofs.YtbaggjhjkignkaaDoor
open Go.ChangeShapes Go.WideShapes Go.ChangeAt Go.RowKit

variable {H : Type} {enc : TypeId × Value → H} {w : World} {base : Nat} {sp : Nat → Bool} {held : Bool}

theorem cells_string : Tryd.prog.cellsOf 9 = 1 := by kernel_rfl

/-- A slice of strings. -/
theorem open_list {r : Reach} {b0 : Nat} {v : Value} {d : DataW H} {p : List MemPlace} (hv : Value.okWide Tryd.prog w r b0 26 v) (h : DataW.Trod enc Tryd.prog w base sp held 26 v d p) :
    ∃ (a : Option Addr) (c : Nat) (L : List ByteArray), v = .slice a L.length c ∧ StrA w a c L ∧ ∀ x ∈ L, x.size ≤ maxLen := by
  obtain ⟨a0, n, c, rfl⟩ := okWide_slice Tryd.underlying26 hv
  obtain ⟨fuel, hf⟩ := h
  rcases open_strings Tryd.underlying26 Tryd.underlying9 cells_string hf with ⟨hcs, hx⟩ | ⟨a, len', cap', ss, hcs, _, hl, hm, hz, hx, hcell, hsz⟩
  · simp [Value.cells] at hcs
    obtain ⟨rfl, rfl, rfl⟩ := hcs
    exact ⟨none, 0, [], rfl, ⟨Nat.le_refl _, by decide, fun i hi => absurd hi (Nat.not_lt_zero i)⟩, fun x hx => by cases hx⟩
  · simp [Value.cells] at hcs
    obtain ⟨rfl, rfl, rfl⟩ := hcs
    have hzn : n ≤ ss.length := by rw [hz]; split <;> omega
    have hlen : (ss.take n).length = n := by rw [List.length_take]; omega
    refine ⟨some a, c, ss.take n, by rw [hlen], ⟨by rw [hlen]; exact hl, hm, fun i hi => ?_⟩, fun x hx => hsz x (List.mem_of_mem_take hx)⟩
    rw [hlen] at hi
    obtain ⟨b, off, spot⟩ := a
    have hspot : spot = none := by simpa [Addr.add] using World.cell?_spot (hcell 0 (by omega))
    subst hspot
    have hc : w.cell? ⟨b, off + i, none⟩ = some (.string (ss.getD i ByteArray.empty)) := by rw [← add_plain]; exact hcell i (by omega)
    rw [List.getD_eq_getElem?_getD, List.getElem?_eq_getElem (by omega : i < ss.length)] at hc
    exact ⟨b, off, rfl, World.block_lt_of_cell? w _ hc, by rw [hc]; simp⟩
end Go.Proofs.YtbaggjhjkignkaaDoor

