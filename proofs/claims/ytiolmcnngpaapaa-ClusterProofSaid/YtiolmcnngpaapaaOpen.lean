/-
  What the rows of layer 12 share; how arguments read that are integers in arrays, lists of integers, arcs.
-/
import Derived.Test.YtiolmcnngpaapaaRows
import Derived.Test.YtiolmcnngpaapaaPq
import Derived.HandedShaped
import Derived.ProofKit
import Derived.OpenShut
import Derived.ShutString
import Derived.ChangeOld
import Derived.Stop.Joined
import Derived.ChangeArms
import Derived.DataReads
import Derived.ChangeSlices
import Derived.Lib.SmallJoins
namespace Go.Proofs.Ytiolmcnngpaapaa
open Go.ChangeShapes Go.WideShapes Go.ChangeAt Go.RowKit Go.Joins

theorem own : ownKnob Try.prog.godebug = none := by kernel_rfl
theorem laidOut : laidOutB Try.prog = true := by kernel_rfl
variable {H : Type} {enc : TypeId × Value → H} {w : World} {base : Nat} {sp : Nat → Bool} {held : Bool}

theorem cells_int : Try.prog.cellsOf 3 = 1 := by kernel_rfl
theorem cells_four : Try.prog.cellsOf 66 = 4 := by kernel_rfl
theorem cells_three : Try.prog.cellsOf 45 = 3 := by kernel_rfl
theorem cells_arc : Try.prog.cellsOf 71 = 4 := by kernel_rfl
/-- An array of integers. -/
theorem ints_of_trod {k fuel : Nat} {t : TypeId} {cs : List Value} {x : DataW H × List MemPlace} (ht : Try.prog.underlying t = some (.array k 3)) (hk : Try.prog.cellsOf t = k)
    (h : DataW.trod enc Try.prog w base sp held fuel t cs = some x) : ∃ L : List Int, L.length = k ∧ cs = L.map (Value.int .i64) ∧ ∀ x ∈ L, Fits x := by
  obtain ⟨xs, m, _, _, hlen, hl, hel⟩ := DataW.trod_array ht h
  rw [hk] at hlen
  have each : ∀ i (hi : i < cs.length), ∃ a, cs[i] = .int .i64 a ∧ Fits a := by
    intro i hi
    have h0 := hel i (by omega)
    rw [cells_int, List.getElem?_eq_getElem (by omega : i < xs.length)] at h0
    obtain ⟨a, e0, _, ha⟩ := DataW.trod_int Try.underlying3 h0
    rw [Nat.mul_one, List.drop_eq_getElem_cons hi, List.take_succ_cons] at e0
    exact ⟨a, (List.cons.inj e0).1, bounds_i64 ha⟩
  refine ⟨cs.map intOf, by simpa using hlen, ?_, ?_⟩
  · apply List.ext_getElem (by simp)
    intro i h1 h2
    obtain ⟨a, e, _⟩ := each i h1
    simp [e, intOf]
  · intro x hx
    obtain ⟨v, hv, rfl⟩ := List.mem_map.1 hx
    obtain ⟨i, hi, rfl⟩ := List.mem_iff_getElem.1 hv
    obtain ⟨a, e, ha⟩ := each i hi
    rw [e]; exact ha
theorem list_of {α : Type} {P : Nat → α → Prop} : ∀ n, (∀ i, i < n → ∃ x, P i x) → ∃ X : List α, X.length = n ∧ ∀ i (h : i < X.length), P i X[i]
  | 0, _ => ⟨[], rfl, fun i h => absurd h (Nat.not_lt_zero i)⟩
  | n + 1, h => by
    obtain ⟨X, hX, hP⟩ := list_of n (fun i hi => h i (by omega))
    obtain ⟨x, hx⟩ := h n (by omega)
    refine ⟨X ++ [x], by simp [hX], fun i hi => ?_⟩
    rcases Nat.lt_or_ge i X.length with h1 | h1
    · rw [List.getElem_append_left h1]; exact hP i h1
    · have e : i = X.length := by simp at hi; omega
      subst e
      rw [List.getElem_append_right (Nat.le_refl _)]
      simpa [hX] using hx
set_option maxRecDepth 100000 in
/-- A slice of arrays of integers. -/
theorem open_arrs {k : Nat} {t ts : TypeId} (hts : Try.prog.underlying ts = some (.slice t)) (ht : Try.prog.underlying t = some (.array k 3)) (hk : Try.prog.cellsOf t = k) (h0 : 0 < k)
    {r : Reach} {b0 : Nat} {v : Value} {d : DataW H} {p : List MemPlace} (hv : Value.okWide Try.prog w r b0 ts v) (h : DataW.Trod enc Try.prog w base sp held ts v d p) :
    ∃ (a : Option Addr) (c : Nat) (X : List (List Int)), v = .slice a X.length c ∧ ArrsA k w a c X := by
  obtain ⟨a0, n, c, rfl⟩ := okWide_slice hts hv
  obtain ⟨fuel, hf⟩ := h
  rcases DataW.trod_slice hts hf with ⟨hcs, hx⟩ | ⟨a, len, cap, elems, rest, m, _, hcs, hx, _, hl, hm, hlen, hel, _⟩
  · simp [Value.cells] at hcs
    obtain ⟨rfl, rfl, rfl⟩ := hcs
    exact ⟨none, 0, [], rfl, Nat.le_refl _, by decide, (fun y hy => by cases hy), fun i hi => absurd hi (Nat.not_lt_zero i)⟩
  · simp [Value.cells] at hcs
    obtain ⟨rfl, rfl, rfl⟩ := hcs
    have each : ∀ i, i < n → ∃ L : List Int, (L.length = k ∧ ∀ x ∈ L, Fits x) ∧ ∀ j v, L[j]? = some v → w.cell? ((a.add (i * k)).add j) = some (.int .i64 v) := by
      intro i hi
      have h1 := hel i hi
      rw [hk, List.getElem?_eq_getElem (by omega : i < elems.length), Option.bind_eq_some_iff] at h1
      obtain ⟨cs, hc, hy⟩ := h1
      obtain ⟨L, e1, rfl, e3⟩ := ints_of_trod ht hk hy
      obtain ⟨_, hcl, hcell⟩ := World.cells?_some hc
      refine ⟨L, ⟨e1, e3⟩, fun j v hj => ?_⟩
      have hj' : j < L.length := (List.getElem?_eq_some_iff.1 hj).1
      rw [hcell j (by omega)]
      simp [hj]
    obtain ⟨X, hX, hP⟩ := list_of n each
    subst hX
    refine ⟨some a, c, X, rfl, hl, hm, fun y hy => ?_, fun i hi => ?_⟩
    · obtain ⟨i, hi, rfl⟩ := List.mem_iff_getElem.1 hy
      exact (hP i hi).1
    · obtain ⟨⟨e1, _⟩, e2⟩ := hP i hi
      obtain ⟨b, off, spot⟩ := a
      have c0 := e2 0 X[i][0] (List.getElem?_eq_getElem (by omega))
      obtain ⟨⟨f1, _⟩, f2⟩ := hP 0 (by omega)
      have c00 := f2 0 X[0][0] (List.getElem?_eq_getElem (by omega))
      have hspot : spot = none := by simpa [Addr.add] using World.cell?_spot c00
      subst hspot
      refine ⟨b, off, rfl, ?_, fun j v hv => ?_⟩
      · rw [add_plain, add_plain] at c0; exact World.block_lt_of_cell? w _ c0
      · have c1 := e2 j v hv
        rw [add_plain, add_plain] at c1; exact c1
/-- A slice's elements, each of them read as something of which the cells and a fact are known. -/
theorem slice_of {α : Type} {k : Nat} {t ts : TypeId} (f : α → List Value) (R : α → Prop) (hf : ∀ x, (f x).length = k) (h0 : 0 < k) (hts : Try.prog.underlying ts = some (.slice t)) (hk : Try.prog.cellsOf t = k)
    (hel : ∀ (fuel : Nat) (cs : List Value) (x : DataW H × List MemPlace), DataW.trod enc Try.prog w base sp held fuel t cs = some x → ∃ p : α, cs = f p ∧ R p)
    {fuel : Nat} {cs : List Value} {x : DataW H × List MemPlace} (h : DataW.trod enc Try.prog w base sp held fuel ts cs = some x) :
    ∃ (a : Option Addr) (c : Nat) (L : List α), cs = [.slice a L.length c] ∧ L.length ≤ c ∧ c ≤ maxLen ∧ (∀ p ∈ L, R p) ∧
      ∀ i (h : i < L.length), ∃ b off : Nat, a = some ⟨b, off, none⟩ ∧ b < w.heap.size ∧ ∀ j v, (f L[i])[j]? = some v → w.cell? ⟨b, off + i * k + j, none⟩ = some v := by
  rcases DataW.trod_slice hts h with ⟨hcs, _⟩ | ⟨a, n, c, elems, rest, m, _, hcs, _, _, hl, hm, hlen, he, _⟩
  · exact ⟨none, 0, [], hcs, Nat.le_refl _, by decide, (fun p hp => by cases hp), fun i hi => absurd hi (Nat.not_lt_zero i)⟩
  · have each : ∀ i, i < n → ∃ p : α, R p ∧ ∀ j v, (f p)[j]? = some v → w.cell? ((a.add (i * k)).add j) = some v := by
      intro i hi
      have h1 := he i hi
      rw [hk, List.getElem?_eq_getElem (by omega : i < elems.length), Option.bind_eq_some_iff] at h1
      obtain ⟨cs, hc, hy⟩ := h1
      obtain ⟨p, rfl, hp⟩ := hel m cs _ hy
      obtain ⟨_, hcl, hcell⟩ := World.cells?_some hc
      refine ⟨p, hp, fun j v hj => ?_⟩
      have hj' : j < (f p).length := (List.getElem?_eq_some_iff.1 hj).1
      rw [hcell j (by have := hf p; omega), hj]
    obtain ⟨X, hX, hP⟩ := list_of n each
    subst hX
    refine ⟨some a, c, X, hcs, hl, hm, fun p hp => ?_, fun i hi => ?_⟩
    · obtain ⟨i, hi, rfl⟩ := List.mem_iff_getElem.1 hp
      exact (hP i hi).1
    · obtain ⟨b, off, spot⟩ := a
      have c00 := (hP 0 (by omega)).2 0 _ (List.getElem?_eq_getElem (by have := hf (X[0]'(by omega)); omega))
      have hspot : spot = none := by simpa [Addr.add] using World.cell?_spot c00
      subst hspot
      have c0 := (hP i hi).2 0 _ (List.getElem?_eq_getElem (by have := hf X[i]; omega))
      refine ⟨b, off, rfl, ?_, fun j v hv => ?_⟩
      · rw [add_plain, add_plain] at c0; exact World.block_lt_of_cell? w _ c0
      · have c1 := (hP i hi).2 j v hv
        rw [add_plain, add_plain] at c1; exact c1
set_option maxRecDepth 100000 in
theorem arc_at {fuel : Nat} {cs : List Value} {x : DataW H × List MemPlace} (h : DataW.trod enc Try.prog w base sp held fuel 71 cs = some x) : ∃ v : Cy.Arc, cs = arcCells v ∧ ArcFit v := by
  obtain ⟨xs, n, _, _, hlen, hxl, hf⟩ := DataW.trod_struct Try.underlying71 h
  rw [cells_arc] at hlen
  match cs, hlen with
  | [v0, v1, v2, v3], _ =>
    have int_ : ∀ {v : Value} {j : Nat}, j < 4 → DataW.trod enc Try.prog w base sp held n 3 [v] = xs[j]? → ∃ k : Int, v = .int .i64 k ∧ Fits k := fun {v j} hj h => by
      rw [List.getElem?_eq_getElem (by rw [hxl]; exact hj)] at h
      obtain ⟨k, e, _, hw⟩ := DataW.trod_int Try.underlying3 h
      exact ⟨k, (List.cons.inj e).1, bounds_i64 hw⟩
    have k0 := hf 0 _ rfl
    have k1 := hf 1 _ rfl
    have k2 := hf 2 _ rfl
    have k3 := hf 3 _ rfl
    obtain ⟨z0, rfl, f0⟩ := int_ (j := 0) (by decide) k0
    obtain ⟨z1, rfl, f1⟩ := int_ (j := 1) (by decide) k1
    obtain ⟨z2, rfl, f2⟩ := int_ (j := 2) (by decide) k2
    obtain ⟨z3, rfl, f3⟩ := int_ (j := 3) (by decide) k3
    exact ⟨⟨z0, z1, z2, z3⟩, rfl, f0, f1, f2, f3⟩
theorem shape_lt {w : World} {b : Nat} {x : TypeId × Nat} (h : w.shape? b = some x) : b < w.heap.size := by
  unfold World.shape? at h
  by_cases hb : b < w.heap.size
  · exact hb
  · rw [Array.getElem?_eq_none (by omega)] at h; simp at h
set_option maxRecDepth 100000 in
/-- A slice of arcs, whatever they are. -/
theorem open_arcs {r : Reach} {b0 : Nat} {v : Value} {d : DataW H} {p : List MemPlace} (hv : Value.okWide Try.prog w r b0 39 v) (h : DataW.Trod enc Try.prog w base sp held 39 v d p) :
    ∃ (a : Option Addr) (c : Nat) (L : List Cy.Arc), v = .slice a L.length c ∧ ArcA w a c L ∧ (∀ b ∈ L, ArcFit b) ∧ ∀ x, a = some x → x.block < w.heap.size := by
  obtain ⟨a0, n, c0, rfl⟩ := okWide_slice Try.underlying39 hv
  have hbl : ∀ x, a0 = some x → x.block < w.heap.size := by
    intro x hx
    subst hx
    simp only [Value.okWide, Try.underlying39, Cell.okWide, Cell.ok] at hv
    obtain ⟨_, _, _, _, row, cells, h1, _⟩ := hv
    exact shape_lt h1
  obtain ⟨fuel, hf⟩ := h
  obtain ⟨a, c, L, e, h1, h2, h3, h4⟩ := slice_of (k := 4) arcCells ArcFit (fun _ => rfl) (by decide) Try.underlying39 cells_arc (fun fuel cs x h => arc_at h) hf
  simp [Value.cells] at e
  obtain ⟨rfl, rfl, rfl⟩ := e
  exact ⟨_, _, L, rfl, ⟨h1, h2, h4⟩, h3, hbl⟩
set_option maxRecDepth 100000 in
theorem int_at_o {fuel : Nat} {cs : List Value} {x : DataW H × List MemPlace} (h : DataW.trod enc Try.prog w base sp held fuel 3 cs = some x) : ∃ v : Int, cs = intCells v ∧ Fits v := by
  obtain ⟨k, e, _, hw⟩ := DataW.trod_int Try.underlying3 h
  exact ⟨k, e, bounds_i64 hw⟩
set_option maxRecDepth 100000 in
/-- A slice of integers. -/
theorem open_intsA {r : Reach} {b0 : Nat} {v : Value} {d : DataW H} {p : List MemPlace} (hv : Value.okWide Try.prog w r b0 25 v) (h : DataW.Trod enc Try.prog w base sp held 25 v d p) :
    ∃ (a : Option Addr) (c : Nat) (L : List Int), v = .slice a L.length c ∧ IntsA w a c L ∧ ∀ b ∈ L, Fits b := by
  obtain ⟨a0, n, c0, rfl⟩ := okWide_slice Try.underlying25 hv
  obtain ⟨fuel, hf⟩ := h
  obtain ⟨a, c, L, e, h1, h2, h3, h4⟩ := slice_of (k := 1) intCells Fits (fun _ => rfl) (by decide) Try.underlying25 cells_int (fun fuel cs x h => int_at_o h) hf
  simp [Value.cells] at e
  obtain ⟨rfl, rfl, rfl⟩ := e
  exact ⟨_, _, L, rfl, ⟨h1, h2, h4⟩, h3⟩
set_option maxRecDepth 100000 in
theorem open_three {r : Reach} {b0 : Nat} {v : Value} {d : DataW H} {p : List MemPlace} (hv : Value.okWide Try.prog w r b0 45 v) (h : DataW.Trod enc Try.prog w base sp held 45 v d p) :
    ∃ a b c : Int, v = .agg #[.int .i64 a, .int .i64 b, .int .i64 c] ∧ Fits a ∧ Fits b ∧ Fits c := by
  simp only [Value.okWide, Try.underlying45] at hv
  obtain ⟨cs, rfl, hsz, _⟩ := hv
  obtain ⟨fuel, hf⟩ := h
  obtain ⟨L, e1, e2, e3⟩ := ints_of_trod Try.underlying45 cells_three hf
  match L, e1 with
  | [a, b, c], _ =>
    obtain ⟨l⟩ := cs
    simp [Value.cells] at e2
    subst e2
    exact ⟨a, b, c, rfl, e3 a (by simp), e3 b (by simp), e3 c (by simp)⟩
end Go.Proofs.Ytiolmcnngpaapaa

