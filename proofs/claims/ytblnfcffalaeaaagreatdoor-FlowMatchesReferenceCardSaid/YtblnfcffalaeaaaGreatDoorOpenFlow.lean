/-
  How an argument reads that is a flow: its steps and windows in memory.
-/
import Derived.Test.YtblnfcffalaeaaaGreatDoorOpenArrs
import Derived.Lib.SmallJoins
namespace Go.Proofs.YtblnfcffalaeaaaGreatDoor
open Go.ChangeShapes Go.WideShapes Go.ChangeAt Go.RowKit Go.Joins

variable {H : Type} {enc : TypeId × Value → H} {w : World} {base : Nat} {sp : Nat → Bool} {held : Bool}

theorem cells_step : Tryz.prog.cellsOf 55 = 7 := by kernel_rfl
theorem cells_win : Tryz.prog.cellsOf 58 = 3 := by kernel_rfl
theorem cells_ints : Tryz.prog.cellsOf 50 = 1 := by kernel_rfl
/-- A slice's elements, each of them read as something of which the cells and a fact are known. -/
theorem slice_of {α : Type} {k : Nat} {t ts : TypeId} (f : α → List Value) (R : α → Prop) (hf : ∀ x, (f x).length = k) (h0 : 0 < k) (hts : Tryz.prog.underlying ts = some (.slice t)) (hk : Tryz.prog.cellsOf t = k)
    (hel : ∀ (fuel : Nat) (cs : List Value) (x : DataW H × List MemPlace), DataW.trod enc Tryz.prog w base sp held fuel t cs = some x → ∃ p : α, cs = f p ∧ R p)
    {fuel : Nat} {cs : List Value} {x : DataW H × List MemPlace} (h : DataW.trod enc Tryz.prog w base sp held fuel ts cs = some x) :
    ∃ (a : Option Addr) (c : Nat) (L : List α), cs = [.slice a L.length c] ∧ L.length ≤ c ∧ c ≤ maxLen ∧ (∀ p ∈ L, R p) ∧
      ∀ i (h : i < L.length), ∃ b off : Nat, a = some ⟨b, off, none⟩ ∧ b < w.heap.size ∧ ∀ j v, (f L[i])[j]? = some v → w.cell? ⟨b, off + i * k + j, none⟩ = some v := by
  rcases DataW.trod_slice hts h with ⟨hcs, _⟩ | ⟨a, n, c, elems, rest, m, _, hcs, _, _, hl, hm, hlen, he, _⟩
  · exact ⟨none, 0, [], hcs, Nat.le_refl _, by decide, (fun p hp => by cases hp), fun i hi => absurd hi (Nat.not_lt_zero i)⟩
  · have each : ∀ i, i < n → ∃ p : α, R p ∧ ∀ j v, (f p)[j]? = some v → w.cell? ((a.add (i * k)).add j) = some v := by
      intro i hi
      have h1 := he i hi
      rw [hk, List.getElem?_eq_getElem (by omega : i < elems.length), Option.bind_eq_some_iff] at h1
      obtain ⟨cs, hc, hy⟩ := h1
      obtain ⟨p, rfl, hp⟩ := hel m cs _ hy
      obtain ⟨_, hcl, hcell⟩ := World.cells?_some hc
      refine ⟨p, hp, fun j v hj => ?_⟩
      have hj' : j < (f p).length := (List.getElem?_eq_some_iff.1 hj).1
      rw [hcell j (by have := hf p; omega), hj]
    obtain ⟨X, hX, hP⟩ := list_of n each
    subst hX
    refine ⟨some a, c, X, hcs, hl, hm, fun p hp => ?_, fun i hi => ?_⟩
    · obtain ⟨i, hi, rfl⟩ := List.mem_iff_getElem.1 hp
      exact (hP i hi).1
    · obtain ⟨b, off, spot⟩ := a
      have c00 := (hP 0 (by omega)).2 0 _ (List.getElem?_eq_getElem (by have := hf (X[0]'(by omega)); omega))
      have hspot : spot = none := by simpa [Addr.add] using World.cell?_spot c00
      subst hspot
      have c0 := (hP i hi).2 0 _ (List.getElem?_eq_getElem (by have := hf X[i]; omega))
      refine ⟨b, off, rfl, ?_, fun j v hv => ?_⟩
      · rw [add_plain, add_plain] at c0; exact World.block_lt_of_cell? w _ c0
      · have c1 := (hP i hi).2 j v hv
        rw [add_plain, add_plain] at c1; exact c1
theorem ints_at {fuel : Nat} {cs : List Value} {x : DataW H × List MemPlace} (h : DataW.trod enc Tryz.prog w base sp held fuel 50 cs = some x) : ∃ (a : Option Addr) (c : Nat) (L : List Int), cs = [.slice a L.length c] ∧ IntA w a c L ∧ ∀ x ∈ L, Fits x := by
  obtain ⟨a, c, L, e, h1, h2, h3, h4⟩ := slice_of (k := 1) (fun x : Int => [Value.int .i64 x]) Fits (fun _ => rfl) (by decide) Tryz.underlying50 cells_int (fun fuel cs x h => by
    obtain ⟨n, rfl, _, hw⟩ := DataW.trod_int Tryz.underlying3 h
    exact ⟨n, rfl, bounds_i64 hw⟩) h
  refine ⟨a, c, L, e, ⟨h1, h2, fun i hi => ?_⟩, h3⟩
  obtain ⟨b, off, ea, hb, hc⟩ := h4 i hi
  exact ⟨b, off, ea, hb, by have := hc 0 _ rfl; simpa using this⟩
def StepFits (s : Fl.Step) : Prop := Fits s.recipe ∧ (∀ x ∈ s.tools, Fits x) ∧ Fits s.least ∧ Fits s.most ∧ (∀ x ∈ s.next, Fits x) ∧ Fits s.back ∧ Fits s.limit
def WinFits (v : Fl.Win) : Prop := Fits v.src ∧ Fits v.dst ∧ Fits v.limit
set_option maxRecDepth 100000 in
theorem step_at {fuel : Nat} {cs : List Value} {x : DataW H × List MemPlace} (h : DataW.trod enc Tryz.prog w base sp held fuel 55 cs = some x) : ∃ p : StepP, cs = p.cells ∧ p.ok w ∧ StepFits p.s := by
  obtain ⟨xs, n, _, _, hlen, hxl, hf⟩ := DataW.trod_struct Tryz.underlying55 h
  rw [cells_step] at hlen
  match cs, hlen with
  | [v0, v1, v2, v3, v4, v5, v6], _ =>
    have some_ : ∀ j, j < 7 → ∃ y, xs[j]? = some y := fun j hj => ⟨_, List.getElem?_eq_getElem (by rw [hxl]; exact hj)⟩
    have int_ : ∀ {v : Value} {j : Nat}, j < 7 → DataW.trod enc Tryz.prog w base sp held n 3 [v] = xs[j]? → ∃ k : Int, v = .int .i64 k ∧ Fits k := fun {v j} hj h => by
      obtain ⟨y, hy⟩ := some_ j hj
      rw [hy] at h
      obtain ⟨k, e, _, hw⟩ := DataW.trod_int Tryz.underlying3 h
      exact ⟨k, (List.cons.inj e).1, bounds_i64 hw⟩
    have ints_ : ∀ {v : Value} {j : Nat}, j < 7 → DataW.trod enc Tryz.prog w base sp held n 50 [v] = xs[j]? → ∃ (a : Option Addr) (c : Nat) (L : List Int), v = .slice a L.length c ∧ IntA w a c L ∧ ∀ x ∈ L, Fits x := fun {v j} hj h => by
      obtain ⟨y, hy⟩ := some_ j hj
      rw [hy] at h
      obtain ⟨a, c, L, e, h1⟩ := ints_at h
      exact ⟨a, c, L, (List.cons.inj e).1, h1⟩
    have k0 := hf 0 _ rfl
    have k1 := hf 1 _ rfl
    have k2 := hf 2 _ rfl
    have k3 := hf 3 _ rfl
    have k4 := hf 4 _ rfl
    have k5 := hf 5 _ rfl
    have k6 := hf 6 _ rfl
    obtain ⟨z0, rfl, f0⟩ := int_ (j := 0) (by decide) k0
    obtain ⟨a1, c1, L1, rfl, z1, f1⟩ := ints_ (j := 1) (by decide) k1
    obtain ⟨z2, rfl, f2⟩ := int_ (j := 2) (by decide) k2
    obtain ⟨z3, rfl, f3⟩ := int_ (j := 3) (by decide) k3
    obtain ⟨a4, c4, L4, rfl, z4, f4⟩ := ints_ (j := 4) (by decide) k4
    obtain ⟨z5, rfl, f5⟩ := int_ (j := 5) (by decide) k5
    obtain ⟨z6, rfl, f6⟩ := int_ (j := 6) (by decide) k6
    exact ⟨⟨⟨z0, L1, z2, z3, L4, z5, z6⟩, a1, c1, a4, c4⟩, rfl, ⟨z1, z4⟩, f0, f1, f2, f3, f4, f5, f6⟩
set_option maxRecDepth 100000 in
theorem win_at {fuel : Nat} {cs : List Value} {x : DataW H × List MemPlace} (h : DataW.trod enc Tryz.prog w base sp held fuel 58 cs = some x) : ∃ v : Fl.Win, cs = winCells v ∧ WinFits v := by
  obtain ⟨xs, n, _, _, hlen, hxl, hf⟩ := DataW.trod_struct Tryz.underlying58 h
  rw [cells_win] at hlen
  match cs, hlen with
  | [v0, v1, v2], _ =>
    have int_ : ∀ {v : Value} {j : Nat}, j < 3 → DataW.trod enc Tryz.prog w base sp held n 3 [v] = xs[j]? → ∃ k : Int, v = .int .i64 k ∧ Fits k := fun {v j} hj h => by
      rw [List.getElem?_eq_getElem (by rw [hxl]; exact hj)] at h
      obtain ⟨k, e, _, hw⟩ := DataW.trod_int Tryz.underlying3 h
      exact ⟨k, (List.cons.inj e).1, bounds_i64 hw⟩
    have k0 := hf 0 _ rfl
    have k1 := hf 1 _ rfl
    have k2 := hf 2 _ rfl
    obtain ⟨z0, rfl, f0⟩ := int_ (j := 0) (by decide) k0
    obtain ⟨z1, rfl, f1⟩ := int_ (j := 1) (by decide) k1
    obtain ⟨z2, rfl, f2⟩ := int_ (j := 2) (by decide) k2
    exact ⟨⟨z0, z1, z2⟩, rfl, f0, f1, f2⟩
def FlowFits (q : FlowP) : Prop := Fits q.least ∧ Fits q.most ∧ (∀ p ∈ q.P, StepFits p.s) ∧ ∀ v ∈ q.W, WinFits v
set_option maxRecDepth 100000 in
/-- A flow, whatever it is. -/
theorem open_flow {r : Reach} {b0 : Nat} {v : Value} {d : DataW H} {p : List MemPlace} (hv : Value.okWide Tryz.prog w r b0 25 v) (h : DataW.Trod enc Tryz.prog w base sp held 25 v d p) : ∃ q : FlowP, v = q.v ∧ q.ok w ∧ FlowFits q := by
  obtain ⟨v0, v1, v2, v3, y0, y1, y2, y3, n, rfl, _, _, h0, h1, h2, h3⟩ := open_agg4 Tryz.underlying25 (by kernel_rfl) (by kernel_rfl) hv h
  obtain ⟨z0, e0, _, f0⟩ := DataW.trod_int Tryz.underlying3 h0
  obtain ⟨z1, e1, _, f1⟩ := DataW.trod_int Tryz.underlying3 h1
  obtain ⟨sa, sc, P, e2, s1, s2, s3, s4⟩ := slice_of (k := 7) StepP.cells (fun p => p.ok w ∧ StepFits p.s) (fun _ => rfl) (by decide) Tryz.underlying22 cells_step (fun fuel cs x h => step_at h) h2
  obtain ⟨wa, wc, W, e3, t1, t2, t3, t4⟩ := slice_of (k := 3) winCells WinFits (fun _ => rfl) (by decide) Tryz.underlying23 cells_win (fun fuel cs x h => win_at h) h3
  obtain rfl := (List.cons.inj e0).1
  obtain rfl := (List.cons.inj e1).1
  obtain rfl := (List.cons.inj e2).1
  obtain rfl := (List.cons.inj e3).1
  refine ⟨⟨z0, z1, sa, sc, P, wa, wc, W⟩, rfl, ⟨⟨s1, s2, fun i hi => ?_⟩, ⟨t1, t2, fun i hi => ?_⟩⟩, bounds_i64 f0, bounds_i64 f1, fun p hp => (s3 p hp).2, t3⟩
  · obtain ⟨b, off, ea, hb, hc⟩ := s4 i hi
    exact ⟨b, off, ea, hb, ⟨by have := hc 0 _ rfl; simpa using this, hc 1 _ rfl, hc 2 _ rfl, hc 3 _ rfl, hc 4 _ rfl, hc 5 _ rfl, hc 6 _ rfl⟩, (s3 _ (List.getElem_mem hi)).1⟩
  · obtain ⟨b, off, ea, hb, hc⟩ := t4 i hi
    exact ⟨b, off, ea, hb, ⟨by have := hc 0 _ rfl; simpa using this, hc 1 _ rfl, hc 2 _ rfl⟩⟩
end Go.Proofs.YtblnfcffalaeaaaGreatDoor
