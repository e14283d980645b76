/-
  What the rows of layer 8 share; how arguments read that are integers in arrays, lists of integers.
-/
import Derived.Test.YtihohjgjklcnlaaDoorRows
import Derived.Test.YtihohjgjklcnlaaDoorQBf
import Derived.HandedShaped
import Derived.ProofKit
import Derived.OpenShut
import Derived.ShutString
import Derived.ChangeOld
import Derived.Stop.Joined
import Derived.ChangeArms
import Derived.DataReads
import Derived.ChangeSlices
import Derived.Lib.SmallJoins
namespace Go.Proofs.YtihohjgjklcnlaaDoor
open Go.ChangeShapes Go.WideShapes Go.ChangeAt Go.RowKit Go.Joins

theorem own : ownKnob Tryd.prog.godebug = none := by kernel_rfl
theorem laidOut : laidOutB Tryd.prog = true := by kernel_rfl
variable {H : Type} {enc : TypeId × Value → H} {w : World} {base : Nat} {sp : Nat → Bool} {held : Bool}

theorem cells_int : Tryd.prog.cellsOf 3 = 1 := by kernel_rfl
theorem cells_six : Tryd.prog.cellsOf 116 = 6 := by kernel_rfl
theorem cells_two : Tryd.prog.cellsOf 83 = 2 := by kernel_rfl
/-- An array of integers. -/
theorem ints_of_trod {k fuel : Nat} {t : TypeId} {cs : List Value} {x : DataW H × List MemPlace} (ht : Tryd.prog.underlying t = some (.array k 3)) (hk : Tryd.prog.cellsOf t = k)
    (h : DataW.trod enc Tryd.prog w base sp held fuel t cs = some x) : ∃ L : List Int, L.length = k ∧ cs = L.map (Value.int .i64) ∧ ∀ x ∈ L, Fits x := by
  obtain ⟨xs, m, _, _, hlen, hl, hel⟩ := DataW.trod_array ht h
  rw [hk] at hlen
  have each : ∀ i (hi : i < cs.length), ∃ a, cs[i] = .int .i64 a ∧ Fits a := by
    intro i hi
    have h0 := hel i (by omega)
    rw [cells_int, List.getElem?_eq_getElem (by omega : i < xs.length)] at h0
    obtain ⟨a, e0, _, ha⟩ := DataW.trod_int Tryd.underlying3 h0
    rw [Nat.mul_one, List.drop_eq_getElem_cons hi, List.take_succ_cons] at e0
    exact ⟨a, (List.cons.inj e0).1, bounds_i64 ha⟩
  refine ⟨cs.map intOf, by simpa using hlen, ?_, ?_⟩
  · apply List.ext_getElem (by simp)
    intro i h1 h2
    obtain ⟨a, e, _⟩ := each i h1
    simp [e, intOf]
  · intro x hx
    obtain ⟨v, hv, rfl⟩ := List.mem_map.1 hx
    obtain ⟨i, hi, rfl⟩ := List.mem_iff_getElem.1 hv
    obtain ⟨a, e, ha⟩ := each i hi
    rw [e]; exact ha
theorem list_of {α : Type} {P : Nat → α → Prop} : ∀ n, (∀ i, i < n → ∃ x, P i x) → ∃ X : List α, X.length = n ∧ ∀ i (h : i < X.length), P i X[i]
  | 0, _ => ⟨[], rfl, fun i h => absurd h (Nat.not_lt_zero i)⟩
  | n + 1, h => by
    obtain ⟨X, hX, hP⟩ := list_of n (fun i hi => h i (by omega))
    obtain ⟨x, hx⟩ := h n (by omega)
    refine ⟨X ++ [x], by simp [hX], fun i hi => ?_⟩
    rcases Nat.lt_or_ge i X.length with h1 | h1
    · rw [List.getElem_append_left h1]; exact hP i h1
    · have e : i = X.length := by simp at hi; omega
      subst e
      rw [List.getElem_append_right (Nat.le_refl _)]
      simpa [hX] using hx
set_option maxRecDepth 100000 in
/-- A slice of arrays of integers. -/
theorem open_arrs {k : Nat} {t ts : TypeId} (hts : Tryd.prog.underlying ts = some (.slice t)) (ht : Tryd.prog.underlying t = some (.array k 3)) (hk : Tryd.prog.cellsOf t = k) (h0 : 0 < k)
    {r : Reach} {b0 : Nat} {v : Value} {d : DataW H} {p : List MemPlace} (hv : Value.okWide Tryd.prog w r b0 ts v) (h : DataW.Trod enc Tryd.prog w base sp held ts v d p) :
    ∃ (a : Option Addr) (c : Nat) (X : List (List Int)), v = .slice a X.length c ∧ ArrsA k w a c X := by
  obtain ⟨a0, n, c, rfl⟩ := okWide_slice hts hv
  obtain ⟨fuel, hf⟩ := h
  rcases DataW.trod_slice hts hf with ⟨hcs, hx⟩ | ⟨a, len, cap, elems, rest, m, _, hcs, hx, _, hl, hm, hlen, hel, _⟩
  · simp [Value.cells] at hcs
    obtain ⟨rfl, rfl, rfl⟩ := hcs
    exact ⟨none, 0, [], rfl, Nat.le_refl _, by decide, (fun y hy => by cases hy), fun i hi => absurd hi (Nat.not_lt_zero i)⟩
  · simp [Value.cells] at hcs
    obtain ⟨rfl, rfl, rfl⟩ := hcs
    have each : ∀ i, i < n → ∃ L : List Int, (L.length = k ∧ ∀ x ∈ L, Fits x) ∧ ∀ j v, L[j]? = some v → w.cell? ((a.add (i * k)).add j) = some (.int .i64 v) := by
      intro i hi
      have h1 := hel i hi
      rw [hk, List.getElem?_eq_getElem (by omega : i < elems.length), Option.bind_eq_some_iff] at h1
      obtain ⟨cs, hc, hy⟩ := h1
      obtain ⟨L, e1, rfl, e3⟩ := ints_of_trod ht hk hy
      obtain ⟨_, hcl, hcell⟩ := World.cells?_some hc
      refine ⟨L, ⟨e1, e3⟩, fun j v hj => ?_⟩
      have hj' : j < L.length := (List.getElem?_eq_some_iff.1 hj).1
      rw [hcell j (by omega)]
      simp [hj]
    obtain ⟨X, hX, hP⟩ := list_of n each
    subst hX
    refine ⟨some a, c, X, rfl, hl, hm, fun y hy => ?_, fun i hi => ?_⟩
    · obtain ⟨i, hi, rfl⟩ := List.mem_iff_getElem.1 hy
      exact (hP i hi).1
    · obtain ⟨⟨e1, _⟩, e2⟩ := hP i hi
      obtain ⟨b, off, spot⟩ := a
      have c0 := e2 0 X[i][0] (List.getElem?_eq_getElem (by omega))
      obtain ⟨⟨f1, _⟩, f2⟩ := hP 0 (by omega)
      have c00 := f2 0 X[0][0] (List.getElem?_eq_getElem (by omega))
      have hspot : spot = none := by simpa [Addr.add] using World.cell?_spot c00
      subst hspot
      refine ⟨b, off, rfl, ?_, fun j v hv => ?_⟩
      · rw [add_plain, add_plain] at c0; exact World.block_lt_of_cell? w _ c0
      · have c1 := e2 j v hv
        rw [add_plain, add_plain] at c1; exact c1
set_option maxRecDepth 100000 in
theorem open_sixes {r : Reach} {b0 : Nat} {v : Value} {d : DataW H} {p : List MemPlace} (hv : Value.okWide Tryd.prog w r b0 22 v) (h : DataW.Trod enc Tryd.prog w base sp held 22 v d p) :
    ∃ (a : Option Addr) (c : Nat) (X : List (List Int)), v = .slice a X.length c ∧ ArrsA 6 w a c X := open_arrs Tryd.underlying22 Tryd.underlying116 cells_six (by decide) hv h
set_option maxRecDepth 100000 in
theorem open_twos {r : Reach} {b0 : Nat} {v : Value} {d : DataW H} {p : List MemPlace} (hv : Value.okWide Tryd.prog w r b0 23 v) (h : DataW.Trod enc Tryd.prog w base sp held 23 v d p) :
    ∃ (a : Option Addr) (c : Nat) (X : List (List Int)), v = .slice a X.length c ∧ ArrsA 2 w a c X := open_arrs Tryd.underlying23 Tryd.underlying83 cells_two (by decide) hv h
set_option maxRecDepth 100000 in
/-- A slice of integers. -/
theorem open_intsA {r : Reach} {b0 : Nat} {v : Value} {d : DataW H} {p : List MemPlace} (hv : Value.okWide Tryd.prog w r b0 30 v) (h : DataW.Trod enc Tryd.prog w base sp held 30 v d p) :
    ∃ (a : Option Addr) (c : Nat) (L : List Int), v = .slice a L.length c ∧ IntsA w a c L ∧ ∀ x ∈ L, Fits x := by
  obtain ⟨a0, n, c, rfl⟩ := okWide_slice Tryd.underlying30 hv
  obtain ⟨fuel, hf⟩ := h
  rcases DataW.trod_slice Tryd.underlying30 hf with ⟨hcs, hx⟩ | ⟨a, len, cap, elems, rest, m, _, hcs, hx, _, hl, hm, hlen, hel, _⟩
  · simp [Value.cells] at hcs
    obtain ⟨rfl, rfl, rfl⟩ := hcs
    exact ⟨none, 0, [], rfl, RowA.nil _ _ _, fun y hy => by cases hy⟩
  · simp [Value.cells] at hcs
    obtain ⟨rfl, rfl, rfl⟩ := hcs
    have each : ∀ i, i < n → ∃ x : Int, Fits x ∧ w.cell? (a.add i) = some (.int .i64 x) := by
      intro i hi
      have h1 := hel i hi
      rw [cells_int, Nat.mul_one, List.getElem?_eq_getElem (by omega : i < elems.length), Option.bind_eq_some_iff] at h1
      obtain ⟨cs, hc, hy⟩ := h1
      obtain ⟨x, rfl, _, hw⟩ := DataW.trod_int Tryd.underlying3 hy
      exact ⟨x, bounds_i64 hw, cell_of_cells?_one hc⟩
    obtain ⟨X, hX, hP⟩ := list_of n each
    subst hX
    refine ⟨some a, c, X, rfl, ⟨hl, hm, fun i hi => ?_⟩, fun y hy => ?_⟩
    · obtain ⟨b, off, spot⟩ := a
      have hspot : spot = none := by simpa [Addr.add] using World.cell?_spot (hP 0 (by omega)).2
      subst hspot
      have c0 := (hP i hi).2
      rw [add_plain] at c0
      refine ⟨b, off, rfl, World.block_lt_of_cell? w _ c0, fun j v hv => ?_⟩
      rcases j with _ | j
      · injection hv with hv; subst hv; simpa using c0
      · simp [intCells] at hv
    · obtain ⟨i, hi, rfl⟩ := List.mem_iff_getElem.1 hy
      exact (hP i hi).1
end Go.Proofs.YtihohjgjklcnlaaDoor
