/-
  Plans in memory: rows of records of integers; the value of a plan, of a scenario.
-/
import Derived.Test.YtngpkipblcihaaaPlB
import Derived.Test.YtngpkipblcihaaaBase
namespace Go.Proofs.Ytngpkipblcihaaa
open Go.RowKit

/-! ### rows of records -/
/-- A slice of records, each of k cells. -/
def RowA {α : Type} (f : α → List Value) (k : Nat) (w : World) (a : Option Addr) (c : Nat) (L : List α) : Prop :=
  L.length ≤ c ∧ c ≤ maxLen ∧ ∀ i (h : i < L.length), ∃ b off : Nat, a = some ⟨b, off, none⟩ ∧ b < w.heap.size ∧ ∀ (j : Nat) (v : Value), (f L[i])[j]? = some v → w.cell? ⟨b, off + i * k + j, none⟩ = some v
theorem RowA.below {α : Type} {f : α → List Value} {k : Nat} {w w' : World} {a : Option Addr} {c : Nat} {L : List α} (h : RowA f k w a c L) (hb : Below w.heap.size w w') : RowA f k w' a c L := by
  refine ⟨h.1, h.2.1, fun i hi => ?_⟩
  obtain ⟨b, off, rfl, h1, h2⟩ := h.2.2 i hi
  exact ⟨b, off, rfl, Nat.lt_of_lt_of_le h1 hb.size, fun j v hv => cell_below hb (h2 j v hv)⟩
theorem RowA.ch {α : Type} {f : α → List Value} {k : Nat} {S : Nat → Prop} {w w' : World} {a : Option Addr} {c : Nat} {L : List α} (h : RowA f k w a c L) (hb : Ch S w w') (hS : ∀ x, a = some x → ¬ S x.block) : RowA f k w' a c L := by
  refine ⟨h.1, h.2.1, fun i hi => ?_⟩
  obtain ⟨b, off, rfl, h1, h2⟩ := h.2.2 i hi
  have hk := hb.block b h1 (hS _ rfl)
  exact ⟨b, off, rfl, Nat.lt_of_lt_of_le h1 hb.size, fun j v hv => (World.cell?_of_block (a := ⟨b, _, none⟩) hk).trans (h2 j v hv)⟩
theorem RowA.of_heap {α : Type} {f : α → List Value} {k : Nat} {w v : World} {a : Option Addr} {c : Nat} {L : List α} (h : RowA f k w a c L) (e : v.heap = w.heap) : RowA f k v a c L := by
  unfold RowA World.cell? at *; rw [e]; exact h
theorem RowA.nil {α : Type} (f : α → List Value) (k : Nat) (w : World) : RowA f k w none 0 ([] : List α) := ⟨Nat.le_refl _, by decide, fun i hi => by cases hi⟩
theorem RowA.at {α : Type} {f : α → List Value} {k : Nat} {w : World} {a : Option Addr} {c : Nat} {L : List α} (h : RowA f k w a c L) (h0 : 0 < L.length) : ∃ b off : Nat, a = some ⟨b, off, none⟩ ∧ b < w.heap.size ∧
    ∀ i (h : i < L.length) (j : Nat) (v : Value), (f L[i])[j]? = some v → w.cell? ⟨b, off + i * k + j, none⟩ = some v := by
  obtain ⟨b, off, rfl, h1, -⟩ := h.2.2 0 h0
  refine ⟨b, off, rfl, h1, fun i hi => ?_⟩
  obtain ⟨b', off', e, _, h2⟩ := h.2.2 i hi
  injection e with e; injection e with e1 e2; subst e1; subst e2; exact h2
theorem RowA.len {α : Type} {f : α → List Value} {k : Nat} {w : World} {a : Option Addr} {c : Nat} {L : List α} (h : RowA f k w a c L) : L.length ≤ maxLen := Nat.le_trans h.1 h.2.1
/-- A shorter slice of the same row. -/
theorem RowA.take {α : Type} {f : α → List Value} {k : Nat} {w : World} {a : Option Addr} {c : Nat} {L : List α} (h : RowA f k w a c L) (n : Nat) : RowA f k w a c (L.take n) := by
  refine ⟨Nat.le_trans (by simp; omega) h.1, h.2.1, fun i hi => ?_⟩
  have hi' : i < L.length := by simp at hi; omega
  obtain ⟨b, off, rfl, h1, h2⟩ := h.2.2 i hi'
  exact ⟨b, off, rfl, h1, fun j v hv => h2 j v (by rw [List.getElem_take] at hv; exact hv)⟩
/-- A row of records that the call has made. -/
def RowO {α : Type} (f : α → List Value) (t : TypeId) (k : Nat) (w : World) (B : Nat) (v : Value) (L : List α) : Prop := w.ownsRow B t k v L.length (L.flatMap f)
theorem RowO.nil {α : Type} (f : α → List Value) (t : TypeId) (k : Nat) (w : World) (B : Nat) : RowO f t k w B (.slice none 0 0) ([] : List α) := World.ownsRow_nil _ _ _ _
theorem RowO.below {α : Type} {f : α → List Value} {t : TypeId} {k : Nat} {w w' : World} {B : Nat} {v : Value} {L : List α} (h : RowO f t k w B v L) (hb : Below w.heap.size w w') : RowO f t k w' B v L := own_below h hb
theorem RowO.mono {α : Type} {f : α → List Value} {t : TypeId} {k : Nat} {w : World} {B B' : Nat} {v : Value} {L : List α} (h : RowO f t k w B v L) (hB : B' ≤ B) : RowO f t k w B' v L := by
  obtain ⟨h1, h2 | ⟨g, cap, cur, rfl, h2, h3, h4⟩⟩ := h
  · exact ⟨h1, .inl h2⟩
  · exact ⟨h1, .inr ⟨g, cap, cur, rfl, Nat.le_trans hB h2, h3, h4⟩⟩
theorem RowO.snoc {α : Type} {f : α → List Value} {t : TypeId} {k : Nat} {w : World} {B : Nat} {v : Value} {L : List α} {x : α} (h : w.ownsRow B t k v (L.length + 1) (L.flatMap f ++ f x)) : RowO f t k w B v (L ++ [x]) := by
  unfold RowO; rw [List.length_append, List.flatMap_append]; simpa using h
theorem RowO.arg {α : Type} {f : α → List Value} {t : TypeId} {k : Nat} (hf : ∀ x, (f x).length = k) {w : World} {B : Nat} {v : Value} {L : List α} (h : RowO f t k w B v L) :
    ∃ a c, v = .slice a L.length c ∧ RowA f k w a c L ∧ (∀ x, a = some x → v.ownBlock = some x.block) := by
  obtain ⟨a, c, rfl, h1, h2, h3⟩ := own_slice h
  refine ⟨a, c, rfl, ⟨h1, h2, fun i hi => ?_⟩, fun x hx => by subst hx; rfl⟩
  obtain ⟨g, rfl, hg, hc⟩ := h3 (by omega)
  refine ⟨g, 0, rfl, hg, fun j v hv => ?_⟩
  have hj : j < k := by rw [← hf L[i]]; exact (List.getElem?_eq_some_iff.1 hv).1
  have := hc (i * k + j) v (by rw [flat_at f k hf L i j hi hj]; exact hv)
  rwa [show 0 + (i * k + j) = 0 + i * k + j by omega] at this

/-! ### plans, scenarios -/
def stageCells (x : Pl.Stage) : List Value := [.int .i64 x.mn, .int .i64 x.mx, .int .i64 x.m.tool, .int .i64 x.m.start, .int .i64 x.s.tool, .int .i64 x.s.start]
def winCells (x : Pl.Win) : List Value := [.int .i64 x.f, .int .i64 x.t, .int .i64 x.lim]
def intCells (d : Int) : List Value := [.int .i64 d]
def visitCells (v : Pl.Visit) : List Value := [.int .i64 v.step, .int .i64 v.tool, .int .i64 v.start, .int .i64 v.fin]
def pbCells (v : Pl.Bk) : List Value := [.int .i64 v.tool, .int .i64 v.s, .int .i64 v.e, .int .i64 v.o]
abbrev slotV (o : Pl.Slot) : Value := .agg #[.int .i64 o.tool, .int .i64 o.start]
abbrev stageV (x : Pl.Stage) : Value := .agg #[.int .i64 x.mn, .int .i64 x.mx, .int .i64 x.m.tool, .int .i64 x.m.start, .int .i64 x.s.tool, .int .i64 x.s.start]
abbrev winV (x : Pl.Win) : Value := .agg #[.int .i64 x.f, .int .i64 x.t, .int .i64 x.lim]
abbrev StA := RowA stageCells 6
abbrev WnA := RowA winCells 3
abbrev IntsA := RowA intCells 1
abbrev VsA := RowA visitCells 4
abbrev StO := RowO stageCells 45 6
abbrev WnO := RowO winCells 47 3
abbrev IntsO := RowO intCells 3 1
abbrev VsO := RowO visitCells 41 4
abbrev PbO := RowO pbCells 57 4
theorem stage_len (x : Pl.Stage) : (stageCells x).length = 6 := rfl
theorem win_len (x : Pl.Win) : (winCells x).length = 3 := rfl
theorem int_len (x : Int) : (intCells x).length = 1 := rfl
theorem visit_len (x : Pl.Visit) : (visitCells x).length = 4 := rfl
theorem pb_len (x : Pl.Bk) : (pbCells x).length = 4 := rfl
/-- A plan's value: its lists lie somewhere. -/
structure PlanP where
  p : Pl.Plan
  sa : Option Addr
  sc : Nat
  wa : Option Addr
  wc : Nat
abbrev PlanP.val (q : PlanP) : Value := .agg #[.int .i64 q.p.entry, .int .i64 q.p.mmin, .int .i64 q.p.mmax, .slice q.sa q.p.st.length q.sc, .slice q.wa q.p.wn.length q.wc]
structure PlanP.ok (q : PlanP) (w : World) : Prop where
  st : StA w q.sa q.sc q.p.st
  wn : WnA w q.wa q.wc q.p.wn
theorem PlanP.ok.below {q : PlanP} {w w' : World} (h : q.ok w) (hb : Below w.heap.size w w') : q.ok w' := ⟨h.st.below hb, h.wn.below hb⟩
theorem PlanP.ok.of_heap {q : PlanP} {w w' : World} (h : q.ok w) (hb : w'.heap = w.heap) : q.ok w' := ⟨h.st.of_heap hb, h.wn.of_heap hb⟩
structure ScenP where
  s : Pl.Scen
  da : Option Addr
  dc : Nat
  ma : Option Addr
  mc : Nat
abbrev ScenP.val (q : ScenP) : Value := .agg #[.slice q.da q.s.dur.length q.dc, .slice q.ma q.s.mv.length q.mc, .int .i64 q.s.det, .int .i64 q.s.tool, .int .i64 q.s.at_]
structure ScenP.ok (q : ScenP) (w : World) : Prop where
  du : IntsA w q.da q.dc q.s.dur
  mv : IntsA w q.ma q.mc q.s.mv
theorem ScenP.ok.below {q : ScenP} {w w' : World} (h : q.ok w) (hb : Below w.heap.size w w') : q.ok w' := ⟨h.du.below hb, h.mv.below hb⟩
theorem ScenP.ok.of_heap {q : ScenP} {w w' : World} (h : q.ok w) (hb : w'.heap = w.heap) : q.ok w' := ⟨h.du.of_heap hb, h.mv.of_heap hb⟩
end Go.Proofs.Ytngpkipblcihaaa
