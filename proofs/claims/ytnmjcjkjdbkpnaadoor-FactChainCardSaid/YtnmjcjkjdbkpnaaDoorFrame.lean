/-
  What the rows of layer 15 share: the table read off the row's condition, and a start at which the condition holds; how arguments read that are facts, or three integers.
-/
import Derived.Test.YtnmjcjkjdbkpnaaDoorRows
import Derived.Test.YtnmjcjkjdbkpnaaDoorCards
import Derived.Test.YtnmjcjkjdbkpnaaDoorTie
import Derived.Test.YtnmjcjkjdbkpnaaDoorEq
import Derived.ProofKit
import Derived.LaidMore
import Derived.OpenShut
import Derived.ShutString
import Derived.ChangeOld
import Derived.ChangeArms
import Derived.Stop.Joined
import Derived.SevenTiedAt
import Derived.Lib.LaidTab
namespace Go.Proofs.YtnmjcjkjdbkpnaaDoor
open Go.ChangeShapes Go.WideShapes Go.ChangeAt Go.RowKit Fc

theorem own : ownKnob Tryd.prog.godebug = none := by kernel_rfl
theorem laidOut : laidOutB Tryd.prog = true := by kernel_rfl
theorem gTab : Tryd.prog.globalNamed "cleanroom/fact.usual" = some 0 := by kernel_rfl
theorem tTab : (Tryd.prog.globals[0]?).map (·.type) = some 92 := by kernel_rfl
abbrev laidList : List (String × DataW Unit) := [("cleanroom/fact.usual", Rows.laid_cleanroom_fact_usual)]
/-- The heap that the program's own initialisers leave meets the rows' condition. -/
theorem door_met (os : Os) (args : Array Value) : laidMetH Tryd.prog laidList ((World.doorLaid Tryd.prog 400 os).forCall (fun _ _ => 0) ⟨#[], args, []⟩).memory :=
  laidMetH_of_parts3 (fuel := 8) (laidMet_of_run' 8 (by kernel_rfl) (by kernel_rfl)) (by kernel_rfl) (by kernel_rfl)
theorem cells_int : Tryd.prog.cellsOf 3 = 1 := by kernel_rfl
theorem cells_bool : Tryd.prog.cellsOf 4 = 1 := by kernel_rfl
theorem cells_string : Tryd.prog.cellsOf 9 = 1 := by kernel_rfl
theorem cells_span : Tryd.prog.cellsOf 75 = 2 := by kernel_rfl
theorem cells_fact : Tryd.prog.cellsOf 23 = 19 := by kernel_rfl
theorem cells_three : Tryd.prog.cellsOf 40 = 3 := by kernel_rfl
section
variable {H : Type} {enc : TypeId × Value → H} {w : World} {base : Nat} {sp : Nat → Bool} {held : Bool}
theorem spanFields : (Tryd.prog.fieldsOf 75)[0]?.map (fun f => (f.type, f.offset)) = some (3, 0) ∧ (Tryd.prog.fieldsOf 75)[1]?.map (fun f => (f.type, f.offset)) = some (3, 1) := ⟨by kernel_rfl, by kernel_rfl⟩
theorem spanU : Tryd.prog.underlying 75 = some (.struct (Tryd.prog.fieldsOf 75)) := by kernel_rfl
theorem factU : Tryd.prog.underlying 23 = some (.struct (Tryd.prog.fieldsOf 23)) := by kernel_rfl
theorem head_of {cs : List Value} {o : Nat} {v : Value} (h : (cs.drop o).take 1 = [v]) : cs[o]? = some v := by
  have := congrArg (·[0]?) h
  simpa [List.getElem?_take, List.getElem?_drop] using this
/-- An integer field of a struct. -/
theorem field_int {t : TypeId} {fs : Array Field} {n : Nat} {xs : List (DataW H × List MemPlace)} {cs : List Value} {i o : Nat} (hl : xs.length = fs.size)
    (hel : ∀ (i : Nat) (f : Field), fs[i]? = some f → DataW.trod enc Tryd.prog w base sp held n f.type ((cs.drop f.offset).take (Tryd.prog.cellsOf f.type)) = xs[i]?) (hf : fs[i]?.map (fun f => (f.type, f.offset)) = some (t, o))
    (ht : Tryd.prog.underlying t = some (.int .i64)) (hc : Tryd.prog.cellsOf t = 1) : ∃ a : Int, cs[o]? = some (.int .i64 a) ∧ xs[i]? = some (.lit (.int .i64 a), []) := by
  obtain ⟨f, h1, h2⟩ := Option.map_eq_some_iff.1 hf
  injection h2 with h2 h3
  have hi : i < fs.size := (Array.getElem?_eq_some_iff.1 h1).1
  have h4 := hel i f h1
  rw [h2, h3, hc, List.getElem?_eq_getElem (show i < xs.length by omega)] at h4
  obtain ⟨a, e, e2, -⟩ := DataW.trod_int ht h4
  exact ⟨a, head_of e, by rw [List.getElem?_eq_getElem (show i < xs.length by omega), e2]⟩
theorem field_bool {t : TypeId} {fs : Array Field} {n : Nat} {xs : List (DataW H × List MemPlace)} {cs : List Value} {i o : Nat} (hl : xs.length = fs.size)
    (hel : ∀ (i : Nat) (f : Field), fs[i]? = some f → DataW.trod enc Tryd.prog w base sp held n f.type ((cs.drop f.offset).take (Tryd.prog.cellsOf f.type)) = xs[i]?) (hf : fs[i]?.map (fun f => (f.type, f.offset)) = some (t, o))
    (ht : Tryd.prog.underlying t = some .bool) (hc : Tryd.prog.cellsOf t = 1) : ∃ a : Bool, cs[o]? = some (.bool a) := by
  obtain ⟨f, h1, h2⟩ := Option.map_eq_some_iff.1 hf
  injection h2 with h2 h3
  have hi : i < fs.size := (Array.getElem?_eq_some_iff.1 h1).1
  have h4 := hel i f h1
  rw [h2, h3, hc, List.getElem?_eq_getElem (show i < xs.length by omega)] at h4
  obtain ⟨a, e, e2⟩ := DataW.trod_bool ht h4
  exact ⟨a, head_of e⟩
theorem field_str {t : TypeId} {fs : Array Field} {n : Nat} {xs : List (DataW H × List MemPlace)} {cs : List Value} {i o : Nat} (hl : xs.length = fs.size)
    (hel : ∀ (i : Nat) (f : Field), fs[i]? = some f → DataW.trod enc Tryd.prog w base sp held n f.type ((cs.drop f.offset).take (Tryd.prog.cellsOf f.type)) = xs[i]?) (hf : fs[i]?.map (fun f => (f.type, f.offset)) = some (t, o))
    (ht : Tryd.prog.underlying t = some .string) (hc : Tryd.prog.cellsOf t = 1) : ∃ a : ByteArray, cs[o]? = some (.string a) ∧ a.size ≤ maxLen := by
  obtain ⟨f, h1, h2⟩ := Option.map_eq_some_iff.1 hf
  injection h2 with h2 h3
  have hi : i < fs.size := (Array.getElem?_eq_some_iff.1 h1).1
  have h4 := hel i f h1
  rw [h2, h3, hc, List.getElem?_eq_getElem (show i < xs.length by omega)] at h4
  obtain ⟨a, e, e2, hs⟩ := DataW.trod_string ht h4
  exact ⟨a, head_of e, hs⟩
set_option maxRecDepth 100000 in
/-- An argument that is a fact. -/
theorem open_fact {r : Reach} {b0 : Nat} {v : Value} {d : DataW H} {p : List MemPlace} (hv : Value.okWide Tryd.prog w r b0 23 v) (h : DataW.Trod enc Tryd.prog w base sp held 23 v d p) :
    ∃ F : Fact, v = factV F ∧ F.tx.size ≤ maxLen := by
  simp only [Value.okWide, Tryd.underlying23] at hv
  obtain ⟨cs, rfl, hsz, _⟩ := hv
  rw [cells_fact] at hsz
  obtain ⟨fuel, hf⟩ := h
  obtain ⟨xs, n, -, -, hlen, hl, hel⟩ := DataW.trod_struct factU hf
  have hff := factFields
  have hfi : ∀ i : Nat, (Tryd.prog.fieldsOf 23)[i]?.map (fun f : Field => (f.type, f.offset)) = ((Tryd.prog.fieldsOf 23).toList.map (fun f : Field => (f.name, f.type, f.offset)))[i]?.map (fun x : String × TypeId × Nat => x.2) := fun i => by rw [List.getElem?_map, Array.getElem?_toList]; cases (Tryd.prog.fieldsOf 23)[i]? <;> rfl
  rw [hff] at hfi
  simp only [Value.cells] at hlen hel
  obtain ⟨x0, h0, -⟩ := field_int (i := 0) (o := 0) (t := 3) hl hel (by rw [hfi]; rfl) Tryd.underlying3 cells_int
  obtain ⟨x1, h1, -⟩ := field_int (i := 1) (o := 1) (t := 3) hl hel (by rw [hfi]; rfl) Tryd.underlying3 cells_int
  obtain ⟨x2, h2, -⟩ := field_int (i := 2) (o := 2) (t := 3) hl hel (by rw [hfi]; rfl) Tryd.underlying3 cells_int
  obtain ⟨x3, h3, -⟩ := field_int (i := 3) (o := 3) (t := 3) hl hel (by rw [hfi]; rfl) Tryd.underlying3 cells_int
  obtain ⟨x4, h4⟩ := field_bool (i := 4) (o := 4) (t := 4) hl hel (by rw [hfi]; rfl) Tryd.underlying4 cells_bool
  obtain ⟨x5, h5, -⟩ := field_int (i := 5) (o := 5) (t := 3) hl hel (by rw [hfi]; rfl) Tryd.underlying3 cells_int
  obtain ⟨x6, h6, -⟩ := field_int (i := 6) (o := 6) (t := 3) hl hel (by rw [hfi]; rfl) Tryd.underlying3 cells_int
  obtain ⟨x7, h7, -⟩ := field_int (i := 7) (o := 7) (t := 3) hl hel (by rw [hfi]; rfl) Tryd.underlying3 cells_int
  obtain ⟨x8, h8, -⟩ := field_int (i := 8) (o := 8) (t := 3) hl hel (by rw [hfi]; rfl) Tryd.underlying3 cells_int
  obtain ⟨x9, h9, -⟩ := field_int (i := 9) (o := 9) (t := 3) hl hel (by rw [hfi]; rfl) Tryd.underlying3 cells_int
  obtain ⟨x10, h10, -⟩ := field_int (i := 10) (o := 10) (t := 3) hl hel (by rw [hfi]; rfl) Tryd.underlying3 cells_int
  obtain ⟨x11, h11, -⟩ := field_int (i := 11) (o := 11) (t := 3) hl hel (by rw [hfi]; rfl) Tryd.underlying3 cells_int
  obtain ⟨x12, h12, -⟩ := field_int (i := 12) (o := 12) (t := 3) hl hel (by rw [hfi]; rfl) Tryd.underlying3 cells_int
  obtain ⟨x13, h13, -⟩ := field_int (i := 13) (o := 13) (t := 3) hl hel (by rw [hfi]; rfl) Tryd.underlying3 cells_int
  obtain ⟨x14, h14, -⟩ := field_int (i := 14) (o := 14) (t := 3) hl hel (by rw [hfi]; rfl) Tryd.underlying3 cells_int
  obtain ⟨x15, h15, -⟩ := field_int (i := 15) (o := 15) (t := 3) hl hel (by rw [hfi]; rfl) Tryd.underlying3 cells_int
  obtain ⟨x16, h16, -⟩ := field_int (i := 16) (o := 16) (t := 3) hl hel (by rw [hfi]; rfl) Tryd.underlying3 cells_int
  obtain ⟨x17, h17, -⟩ := field_int (i := 17) (o := 17) (t := 3) hl hel (by rw [hfi]; rfl) Tryd.underlying3 cells_int
  obtain ⟨x18, h18, hs18⟩ := field_str (i := 18) (o := 18) (t := 9) hl hel (by rw [hfi]; rfl) Tryd.underlying9 cells_string
  refine ⟨⟨x0, x1, x2, x3, x4, x5, x6, x7, x8, x9, x10, x11, x12, x13, x14, x15, x16, x17, x18⟩, ?_, hs18⟩
  congr 1
  apply Array.ext_getElem?
  intro i
  by_cases hi : i < 19
  · rw [← Array.getElem?_toList]
    match i, hi with
    | 0, _ => exact h0
    | 1, _ => exact h1
    | 2, _ => exact h2
    | 3, _ => exact h3
    | 4, _ => exact h4
    | 5, _ => exact h5
    | 6, _ => exact h6
    | 7, _ => exact h7
    | 8, _ => exact h8
    | 9, _ => exact h9
    | 10, _ => exact h10
    | 11, _ => exact h11
    | 12, _ => exact h12
    | 13, _ => exact h13
    | 14, _ => exact h14
    | 15, _ => exact h15
    | 16, _ => exact h16
    | 17, _ => exact h17
    | 18, _ => exact h18
    | n + 19, hi => omega
  · rw [Array.getElem?_eq_none (by omega), Array.getElem?_eq_none (by simp; omega)]
set_option maxRecDepth 100000 in
/-- An argument that is three integers. -/
theorem open_three {r : Reach} {b0 : Nat} {v : Value} {d : DataW H} {p : List MemPlace} (hv : Value.okWide Tryd.prog w r b0 40 v) (h : DataW.Trod enc Tryd.prog w base sp held 40 v d p) :
    ∃ a b c : Int, v = .agg #[.int .i64 a, .int .i64 b, .int .i64 c] ∧ (Lit.int .i64 a).wf = true ∧ (Lit.int .i64 b).wf = true ∧ (Lit.int .i64 c).wf = true := by
  simp only [Value.okWide, Tryd.underlying40] at hv
  obtain ⟨cs, rfl, hsz, _⟩ := hv
  rw [cells_three] at hsz
  obtain ⟨l⟩ := cs
  rcases l with _ | ⟨c0, _ | ⟨c1, _ | ⟨c2, _ | ⟨c3, l⟩⟩⟩⟩ <;> simp at hsz
  obtain ⟨fuel, hf⟩ := h
  obtain ⟨xs, m, _, _, _, hl, hel⟩ := DataW.trod_array Tryd.underlying40 hf
  have h0 := hel 0 (by omega)
  have h1 := hel 1 (by omega)
  have h2 := hel 2 (by omega)
  rw [cells_int] at h0 h1 h2
  rw [List.getElem?_eq_getElem (show 0 < xs.length by omega)] at h0
  rw [List.getElem?_eq_getElem (show 1 < xs.length by omega)] at h1
  rw [List.getElem?_eq_getElem (show 2 < xs.length by omega)] at h2
  obtain ⟨a, e0, _, ha⟩ := DataW.trod_int Tryd.underlying3 h0
  obtain ⟨b, e1, _, hb⟩ := DataW.trod_int Tryd.underlying3 h1
  obtain ⟨c, e2, _, hc⟩ := DataW.trod_int Tryd.underlying3 h2
  simp [Value.cells] at e0 e1 e2
  exact ⟨a, b, c, by rw [e0, e1, e2], ha, hb, hc⟩
end
theorem usual_data (H : Type) : (Rows.laid_cleanroom_fact_usual : DataW H) = .agg ((List.range 14).map fun x => .agg [.lit (.int .i64 (usualS x).1), .lit (.int .i64 (usualS x).2)]) := rfl
set_option maxRecDepth 100000 in
/-- What the condition gives the walks. -/
theorem tab_of_laid {W : World} (h : laidMetH Tryd.prog laidList W) : Tab W := by
  rw [MakeChecks.laidMetH_plain _ _ _ (by kernel_rfl)] at h
  obtain ⟨ps, ⟨g', t', cs, fuel, p, q, hg', ht', hvar, hd, -, -⟩, -⟩ := h
  obtain rfl := Option.some.inj (gTab.symm.trans hg')
  obtain rfl := Option.some.inj (tTab.symm.trans ht')
  obtain ⟨xs, m, -, hx, hlen, hl, hel⟩ := DataW.trod_array Tryd.underlying92 hd
  have hxs : xs.map (·.1) = (List.range 14).map fun x => DataW.agg [.lit (.int .i64 (usualS x).1), .lit (.int .i64 (usualS x).2)] := by
    have h1 := congrArg Prod.fst hx
    rw [usual_data] at h1
    injection h1 with h1
    exact h1.symm
  have hcell : ∀ x, x < 14 → W.cell? ⟨0, x * 2, none⟩ = some (.int .i64 (usualS x).1) ∧ W.cell? ⟨0, x * 2 + 1, none⟩ = some (.int .i64 (usualS x).2) := by
    intro x hx14
    have h1 := hel x hx14
    rw [cells_span, List.getElem?_eq_getElem (show x < xs.length by omega)] at h1
    obtain ⟨ys, m', -, hy, hylen, hyl, hyel⟩ := DataW.trod_struct spanU h1
    obtain ⟨a, ha, ha2⟩ := field_int hyl hyel spanFields.1 Tryd.underlying3 cells_int
    obtain ⟨b, hb, hb2⟩ := field_int hyl hyel spanFields.2 Tryd.underlying3 cells_int
    have hd2 : (xs.map (·.1))[x]? = some (.agg (ys.map (·.1))) := by rw [List.getElem?_map, List.getElem?_eq_getElem (show x < xs.length by omega), hy]; rfl
    rw [hxs, List.getElem?_map, List.getElem?_range hx14] at hd2
    simp only [Option.map_some, Option.some.injEq, DataW.agg.injEq] at hd2
    have e0 : (ys.map (·.1))[0]? = some (.lit (.int .i64 a)) := by rw [List.getElem?_map, ha2]; rfl
    have e1 : (ys.map (·.1))[1]? = some (.lit (.int .i64 b)) := by rw [List.getElem?_map, hb2]; rfl
    rw [← hd2] at e0 e1
    simp only [List.getElem?_cons_zero, List.getElem?_cons_succ, Option.some.injEq, DataW.lit.injEq, Lit.int.injEq, true_and] at e0 e1
    have c0 : cs[x * 2]? = some (.int .i64 a) := by simpa [List.getElem?_take, List.getElem?_drop] using ha
    have c1 : cs[x * 2 + 1]? = some (.int .i64 b) := by simpa [List.getElem?_take, List.getElem?_drop] using hb
    have v0 := World.var?_cell gTab hvar (x * 2)
    have v1 := World.var?_cell gTab hvar (x * 2 + 1)
    rw [e0, e1]
    exact ⟨by rw [v0]; simpa using c0, by rw [v1]; simpa using c1⟩
  exact ⟨World.block_lt_of_cell? W _ (hcell 0 (by omega)).1, hcell⟩
end Go.Proofs.YtnmjcjkjdbkpnaaDoor
