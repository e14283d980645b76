/-
  bent: a schedule with rows of the call's own, changed at one place.
-/
import Derived.Test.YtiolmcnngpaapaaTwoW
import Derived.StillTailTactics
import Derived.Laws.AppendOwnNone
import Derived.BigRegion
import Derived.Deep.DeepCutAuto
import Derived.Deep.CutBlock
namespace Go.Proofs.Ytiolmcnngpaapaa
open Go.RowKit Go.Shelf Cl
open Cy (Arc)

theorem oneCell_ints {L : List Int} : ∀ u ∈ L.flatMap intCells, u.oneCell' = true := by
  intro u hu
  rw [flat_ints] at hu
  obtain ⟨x, _, rfl⟩ := List.mem_map.1 hu
  rfl
/-- A row appended to an empty one of the call's own. -/
theorem wpList_append_copy {ops : Array Oper} {rest : List Oper} {o : Oper} {a : Act} {Q : Exit → Act → World → Prop} {w : World} (hgd : o.guard = none) (s x : Operand)
    (ho : o.op = .call { callee := .builtin .append, args := #[s, x], argTypes := #[25, 25] }) (B : Nat) (v : Value) (hs : a.eval s = v) (h1 : w.ownsRow B 3 1 v 0 []) (ad : Option Addr) (c : Nat) (m : List Int) (hx : a.eval x = .slice ad m.length c) (h2 : IntsA w ad c m) (hc : m = [] → ad = none ∧ c = 0)
    (hl2 : m.length ≤ 1000) (hB : B ≤ w.heap.size) (h : ∀ a' c' w', IntsO w' B (.slice a' m.length c') m → w.grownBy w' v.ownBlock → wpList Try.prog ops Q rest (a.put o.dst (.slice a' m.length c')) w') : wpList Try.prog ops Q (o :: rest) a w := by
  obtain ⟨i0, hi, hz0, hz1, hz2⟩ := info_parts info_int
  by_cases hm : m = []
  · subst hm
    obtain ⟨rfl, rfl⟩ := hc rfl
    obtain ⟨a', c', rfl, -, -⟩ := own_slice h1
    exact wpList_append_own_none hgd s x 25 ho B 3 i0 1 Try.underlying25 hi _ _ _ hs h1 hx (h a' c' w h1 ⟨rfl, rfl, rfl, Nat.le_refl _, fun _ _ _ => rfl⟩)
  · have hp : 0 < m.length := List.length_pos_iff.2 hm
    obtain ⟨b, off, rfl, hb, hcc⟩ := h2.at hp
    refine wpList_append_own w hgd s x 25 ho B 3 i0 _ 1 8 Try.underlying25 hi hz0 hz1 hz2 rfl (by decide) v _ _ hs h1 ⟨b, off, none⟩ m.length c (m.flatMap intCells) hx (by rw [flat_ints]; simp) ?_ oneCell_ints (by unfold maxLen; omega) (by omega) hB ?_
    · intro j u hu
      have hj : j < m.length := by have := (List.getElem?_eq_some_iff.1 hu).1; rw [flat_ints] at this; simpa using this
      rw [flat_ints, List.getElem?_map, List.getElem?_eq_getElem hj] at hu
      have hu2 : Value.int .i64 m[j] = u := Option.some.inj hu
      subst hu2
      have := int_cell (hcc j hj)
      rw [Nat.mul_one] at this
      cases j <;> simpa [Addr.add] using this
    · intro v' w' h3 h4 _
      have h5 : w'.ownsRow B 3 1 v' m.length (m.flatMap intCells) := by simpa using h3
      obtain ⟨a', c', rfl, -, -⟩ := own_slice h5
      exact h a' c' w' h5 h4
abbrev bsObj (p : Int) (v1 v2 v3 : Value) : Obj := .cells #[.int .i64 p, v1, v2, v3] 30
abbrev bhObj (h0 h1 h2 : Int) : Obj := .cells #[.int .i64 h0, .int .i64 h1, .int .i64 h2] 45
/-- The boxes of the call. -/
structure BoxB (W : World) (p : Int) (v1 v2 v3 : Value) (h0 h1 h2 : Int) (w : World) : Prop where
  box : w.heap[W.heap.size]? = some (bsObj p v1 v2 v3)
  how : w.heap[W.heap.size + 1]? = some (bhObj h0 h1 h2)
  res : w.heap[W.heap.size + 2]? = some zeroSch
  bel : Below W.heap.size W w
theorem BoxB.below {W : World} {p : Int} {v1 v2 v3 : Value} {h0 h1 h2 : Int} {w w' : World} (h : BoxB W p v1 v2 v3 h0 h1 h2 w) (hb : Below w.heap.size w w') : BoxB W p v1 v2 v3 h0 h1 h2 w' :=
  ⟨box_below h.box hb, box_below h.how hb, box_below h.res hb, below_step h.bel hb⟩
theorem BoxB.ch {W : World} {p : Int} {v1 v2 v3 : Value} {h0 h1 h2 : Int} {w w' : World} {S : Nat → Prop} (h : BoxB W p v1 v2 v3 h0 h1 h2 w) (hb : Ch S w w') (hS : ∀ i, S i → W.heap.size + 3 ≤ i) : BoxB W p v1 v2 v3 h0 h1 h2 w' := by
  have n0 : ¬ S W.heap.size := fun e => by have := hS _ e; omega
  have n1 : ¬ S (W.heap.size + 1) := fun e => by have := hS _ e; omega
  have n2 : ¬ S (W.heap.size + 2) := fun e => by have := hS _ e; omega
  exact ⟨(hb.block _ (lt_of_block h.box) n0).trans h.box, (hb.block _ (lt_of_block h.how) n1).trans h.how, (hb.block _ (lt_of_block h.res) n2).trans h.res, h.bel.trans (hb.below h.bel.size fun k hk => by have := hS k hk; omega)⟩
theorem ch_set (w : World) (b o : Nat) (u : Value) : Ch (fun i => i = b) w (w.setCell ⟨b, o, none⟩ u) := Ch.grown (grown_set (w := w) b o _) (fun i e => by injection e with e; exact e.symm)
theorem BoxB.set {W : World} {p : Int} {v1 v2 v3 : Value} {h0 h1 h2 : Int} {w : World} (h : BoxB W p v1 v2 v3 h0 h1 h2 w) (o : Nat) (u : Value) {p' : Int} {v1' v2' v3' : Value} (e : (#[.int .i64 p, v1, v2, v3] : Array Value).setIfInBounds o u = #[.int .i64 p', v1', v2', v3']) : BoxB W p' v1' v2' v3' h0 h1 h2 (w.setCell ⟨W.heap.size, o, none⟩ u) := by
  have hc := ch_set w W.heap.size o u
  refine ⟨by have := block_set (o := o) h.box u; rw [e] at this; exact this, (hc.block _ (lt_of_block h.how) (by omega)).trans h.how, (hc.block _ (lt_of_block h.res) (by omega)).trans h.res, h.bel.trans (hc.below h.bel.size fun k hk => by omega)⟩
theorem BoxB.cells {W : World} {p : Int} {v1 v2 v3 : Value} {h0 h1 h2 : Int} {w : World} (h : BoxB W p v1 v2 v3 h0 h1 h2 w) :
    w.cell? ⟨W.heap.size, 0, none⟩ = some (.int .i64 p) ∧ w.cell? ⟨W.heap.size, 1, none⟩ = some v1 ∧ w.cell? ⟨W.heap.size, 2, none⟩ = some v2 ∧ w.cell? ⟨W.heap.size, 3, none⟩ = some v3 ∧
    w.cell? ⟨W.heap.size + 1, 0, none⟩ = some (.int .i64 h0) ∧ w.cell? ⟨W.heap.size + 1, 1, none⟩ = some (.int .i64 h1) ∧ w.cell? ⟨W.heap.size + 1, 2, none⟩ = some (.int .i64 h2) :=
  ⟨box_cell h.box 0 _ rfl, box_cell h.box 1 _ rfl, box_cell h.box 2 _ rfl, box_cell h.box 3 _ rfl, box_cell h.how 0 _ rfl, box_cell h.how 1 _ rfl, box_cell h.how 2 _ rfl⟩
/-- The rows of the call's own, apart from each other. -/
structure RowsB (B : Nat) (v1 v2 v3 : Value) (o s q : List Int) (w : World) : Prop where
  ro : IntsO w B v1 o
  rs : IntsO w B v2 s
  rq : IntsO w B v3 q
  d1 : ∀ g, v1.ownBlock = some g → v2.ownBlock ≠ some g ∧ v3.ownBlock ≠ some g
  d2 : ∀ g, v2.ownBlock = some g → v3.ownBlock ≠ some g
/-- What bent answers: some schedule with rows that can be read. -/
def BentP (W : World) (p : Int) (e : Ending) (w' : World) : Prop := ∃ (t : Sch) (oa sa qa : Option Addr) (oc sc qc : Nat), e = .returned (schV t oa sa qa oc sc qc) ∧ IntsA w' oa oc t.o ∧ IntsA w' sa sc t.s ∧ IntsA w' qa qc t.q ∧ Below W.heap.size W w' ∧ p - 1 ≤ t.p ∧ t.p ≤ p + 3
theorem int_at {w : World} {B : Nat} {v : Value} {m : List Int} (h : IntsO w B v m) (h0 : 0 < m.length) : ∃ g cap, v = .slice (some ⟨g, 0, none⟩) m.length cap ∧ B ≤ g ∧ g < w.heap.size ∧ (∀ j, j < m.length → w.cell? ⟨g, j, none⟩ = some (.int .i64 (m.getD j 0)) ∧ w.frozen? ⟨g, j, none⟩ = false) ∧
    (∀ j u, IntsO (w.setCell ⟨g, j, none⟩ (.int .i64 u)) B v (m.set j u)) := by
  obtain ⟨g, cap, rfl, hg1, hg2⟩ := World.ownsRow.form h h0
  refine ⟨g, cap, rfl, hg1, hg2, fun j hj => ⟨?_, World.ownsRow.frozenAt h j⟩, fun j u => ?_⟩
  · rw [World.ownsRow.cellAt h j (by omega), flat_ints, List.getElem?_map, List.getElem?_eq_getElem hj, List.getD_eq_getElem?_getD, List.getElem?_eq_getElem hj]; rfl
  · have h1 := (World.ownsRow.stored h j (.int .i64 u)).1
    show World.ownsRow _ B 3 1 _ (m.set j u).length ((m.set j u).flatMap intCells)
    rw [flat_ints, List.map_set, ← flat_ints, List.length_set]; exact h1
/-- Some rows. -/
def Rows1 (B : Nat) (a1 : Option Addr) (c1 n1 : Nat) (a2 : Option Addr) (c2 n2 : Nat) (a3 : Option Addr) (c3 n3 : Nat) (w : World) : Prop := ∃ o s q : List Int, o.length = n1 ∧ s.length = n2 ∧ q.length = n3 ∧ RowsB B (.slice a1 n1 c1) (.slice a2 n2 c2) (.slice a3 n3 c3) o s q w
section
variable {B : Nat} {a1 : Option Addr} {c1 n1 : Nat} {a2 : Option Addr} {c2 n2 : Nat} {a3 : Option Addr} {c3 n3 : Nat} {w : World}
theorem Rows1.ch (h : Rows1 B a1 c1 n1 a2 c2 n2 a3 c3 n3 w) {S : Nat → Prop} {w' : World} (hb : Ch S w w') (hS : ∀ i, S i → i < B) : Rows1 B a1 c1 n1 a2 c2 n2 a3 c3 n3 w' := by
  obtain ⟨o, s, q, e1, e2, e3, h⟩ := h
  exact ⟨o, s, q, e1, e2, e3, h.ro.ch hb (fun i hi e => by have h1 := h.ro.lt i hi; have h2 := hS i e; omega), h.rs.ch hb (fun i hi e => by have h1 := h.rs.lt i hi; have h2 := hS i e; omega), h.rq.ch hb (fun i hi e => by have h1 := h.rq.lt i hi; have h2 := hS i e; omega), h.d1, h.d2⟩
theorem Rows1.drew (h : Rows1 B a1 c1 n1 a2 c2 n2 a3 c3 n3 w) : Rows1 B a1 c1 n1 a2 c2 n2 a3 c3 n3 w.drew := by
  have hb : Below w.heap.size w w.drew := (Below.refl _ _).drew
  obtain ⟨o, s, q, e1, e2, e3, h⟩ := h
  exact ⟨o, s, q, e1, e2, e3, h.ro.below hb, h.rs.below hb, h.rq.below hb, h.d1, h.d2⟩
theorem ch_own {v : Value} {g : Nat} {w' : World} {m : List Int} (hr : IntsO w B v m) (hne : v.ownBlock ≠ some g) (hc : Ch (fun i => i = g) w w') : IntsO w' B v m := hr.ch hc (fun i hi e => hne (by rw [hi, e]))
theorem Rows1.atO (h : Rows1 B a1 c1 n1 a2 c2 n2 a3 c3 n3 w) (h0 : 0 < n1) : ∃ g, a1 = some ⟨g, 0, none⟩ ∧ B ≤ g ∧ g < w.heap.size ∧ (∀ j, j < n1 → ∃ z, w.cell? ⟨g, j, none⟩ = some (.int .i64 z) ∧ w.frozen? ⟨g, j, none⟩ = false) ∧ ∀ j u, Rows1 B a1 c1 n1 a2 c2 n2 a3 c3 n3 (w.setCell ⟨g, j, none⟩ (.int .i64 u)) := by
  obtain ⟨o, s, q, e1, e2, e3, h⟩ := h
  obtain ⟨g, cap, e, hg1, hg2, hc, hs⟩ := int_at h.ro (by omega)
  injection e with e4 e5 e6
  subst e4 e6
  refine ⟨g, rfl, hg1, hg2, fun j hj => ⟨_, (hc j (by omega))⟩, fun j u => ⟨o.set j u, s, q, by simpa using e1, e2, e3, hs j u, ?_, ?_, h.d1, h.d2⟩⟩
  · exact ch_own h.rs (h.d1 g rfl).1 (ch_set w g j _)
  · exact ch_own h.rq (h.d1 g rfl).2 (ch_set w g j _)
theorem Rows1.atS (h : Rows1 B a1 c1 n1 a2 c2 n2 a3 c3 n3 w) (h0 : 0 < n2) : ∃ g, a2 = some ⟨g, 0, none⟩ ∧ B ≤ g ∧ g < w.heap.size ∧ (∀ j, j < n2 → ∃ z, w.cell? ⟨g, j, none⟩ = some (.int .i64 z) ∧ w.frozen? ⟨g, j, none⟩ = false) ∧ ∀ j u, Rows1 B a1 c1 n1 a2 c2 n2 a3 c3 n3 (w.setCell ⟨g, j, none⟩ (.int .i64 u)) := by
  obtain ⟨o, s, q, e1, e2, e3, h⟩ := h
  obtain ⟨g, cap, e, hg1, hg2, hc, hs⟩ := int_at h.rs (by omega)
  injection e with e4 e5 e6
  subst e4 e6
  refine ⟨g, rfl, hg1, hg2, fun j hj => ⟨_, (hc j (by omega))⟩, fun j u => ⟨o, s.set j u, q, e1, by simpa using e2, e3, ?_, hs j u, ?_, h.d1, h.d2⟩⟩
  · exact ch_own h.ro (fun e => (h.d1 g e).1 rfl) (ch_set w g j _)
  · exact ch_own h.rq (h.d2 g rfl) (ch_set w g j _)
theorem Rows1.atQ (h : Rows1 B a1 c1 n1 a2 c2 n2 a3 c3 n3 w) (h0 : 0 < n3) : ∃ g, a3 = some ⟨g, 0, none⟩ ∧ B ≤ g ∧ g < w.heap.size ∧ (∀ j, j < n3 → ∃ z, w.cell? ⟨g, j, none⟩ = some (.int .i64 z) ∧ w.frozen? ⟨g, j, none⟩ = false) ∧ ∀ j u, Rows1 B a1 c1 n1 a2 c2 n2 a3 c3 n3 (w.setCell ⟨g, j, none⟩ (.int .i64 u)) := by
  obtain ⟨o, s, q, e1, e2, e3, h⟩ := h
  obtain ⟨g, cap, e, hg1, hg2, hc, hs⟩ := int_at h.rq (by omega)
  injection e with e4 e5 e6
  subst e4 e6
  refine ⟨g, rfl, hg1, hg2, fun j hj => ⟨_, (hc j (by omega))⟩, fun j u => ⟨o, s, q.set j u, e1, e2, by simpa using e3, ?_, ?_, hs j u, h.d1, h.d2⟩⟩
  · exact ch_own h.ro (fun e => (h.d1 g e).2 rfl) (ch_set w g j _)
  · exact ch_own h.rs (fun e => h.d2 g e rfl) (ch_set w g j _)
/-- What is answered. -/
theorem Rows1.done {W : World} {p p0 : Int} {h0 h1 h2 : Int} (h : Rows1 (W.heap.size + 3) a1 c1 n1 a2 c2 n2 a3 c3 n3 w) (hB : BoxB W p (.slice a1 n1 c1) (.slice a2 n2 c2) (.slice a3 n3 c3) h0 h1 h2 w) (hp : p0 - 1 ≤ p ∧ p ≤ p0 + 3) :
    ∀ w', w.grownBy w' (some (W.heap.size + 2)) → BentP W p0 (.returned (.agg #[.int .i64 p, .slice a1 n1 c1, .slice a2 n2 c2, .slice a3 n3 c3])) w' := by
  intro w' hg
  have hc : Ch (fun i => i = W.heap.size + 2) w w' := Ch.grown hg (fun i e => by injection e with e; exact e.symm)
  obtain ⟨o, s, q, rfl, rfl, rfl, h⟩ := h.ch hc (fun i e => by omega)
  obtain ⟨x1, y1, e1, f1, -⟩ := RowO.arg int_len h.ro
  obtain ⟨x2, y2, e2, f2, -⟩ := RowO.arg int_len h.rs
  obtain ⟨x3, y3, e3, f3, -⟩ := RowO.arg int_len h.rq
  injection e1 with e1 _ e1'; injection e2 with e2 _ e2'; injection e3 with e3 _ e3'
  subst e1 e1' e2 e2' e3 e3'
  exact ⟨⟨p, o, s, q⟩, a1, a2, a3, c1, c2, c3, rfl, f1, f2, f3, hB.bel.trans (hc.below hB.bel.size fun k hk => by omega), hp.1, hp.2⟩
end
set_option maxRecDepth 100000 in
set_option maxHeartbeats 4000000 in
theorem bent_swap (p : Int) (hp : 0 ≤ p ∧ p ≤ 1000000) (o s q : List Int) (oa sa qa : Option Addr) (oc sc qc : Nat) (h0 h1 h2 : Int) (u0 : Fits h0) (u1 : Fits h1) (u2 : Fits h2) (W : World) (hO : IntsA W oa oc o) (hS : IntsA W sa sc s) (hQ : IntsA W qa qc q)
    (eO : o = [] → oa = none ∧ oc = 0) (eS : s = [] → sa = none ∧ sc = 0) (eQ : q = [] → qa = none ∧ qc = 0) (lO : o.length ≤ 1000) (lS : s.length ≤ 1000) (lQ : q.length ≤ 1000)
    (h4 : pickZ h0 6 = 4) :
    Calls Try.prog 25 #[schV ⟨p, o, s, q⟩ oa sa qa oc sc qc, .agg #[.int .i64 h0, .int .i64 h1, .int .i64 h2]] W (BentP W p) := by
  have HB := Lib.hid (show BoxB W p (.slice oa o.length oc) (.slice sa s.length sc) (.slice qa q.length qc) h0 h1 h2 (((W.alloc (bsObj p (.slice oa o.length oc) (.slice sa s.length sc) (.slice qa q.length qc))).alloc (bhObj h0 h1 h2)).alloc zeroSch) from by
    refine ⟨box_below (heap_alloc_new W _) (below_step (below_new _ _) (below_new _ _)), ?_, ?_, below_step (below_new _ _) (below_step (below_new _ _) (below_new _ _))⟩
    · have := heap_alloc_new (W.alloc (bsObj p (.slice oa o.length oc) (.slice sa s.length sc) (.slice qa q.length qc))) (bhObj h0 h1 h2)
      rw [show (W.alloc (bsObj p (.slice oa o.length oc) (.slice sa s.length sc) (.slice qa q.length qc))).heap.size = W.heap.size + 1 by simp] at this
      exact box_below this (below_new _ _)
    · have := heap_alloc_new ((W.alloc (bsObj p (.slice oa o.length oc) (.slice sa s.length sc) (.slice qa q.length qc))).alloc (bhObj h0 h1 h2)) zeroSch
      rw [show ((W.alloc (bsObj p (.slice oa o.length oc) (.slice sa s.length sc) (.slice qa q.length qc))).alloc (bhObj h0 h1 h2)).heap.size = W.heap.size + 2 by simp] at this; exact this)
  have HZ := Lib.hid (show (((W.alloc (bsObj p (.slice oa o.length oc) (.slice sa s.length sc) (.slice qa q.length qc))).alloc (bhObj h0 h1 h2)).alloc zeroSch).heap.size = W.heap.size + 3 by simp)
  have HO := Lib.hid (fun (w : World) (h : Below W.heap.size W w) => hO.below h)
  have HS := Lib.hid (fun (w : World) (h : Below W.heap.size W w) => hS.below h)
  have HQ := Lib.hid (fun (w : World) (h : Below W.heap.size W w) => hQ.below h)
  have EO := Lib.hid eO; have ES := Lib.hid eS; have EQ := Lib.hid eQ
  have HPk := Lib.hid (fun (x n : Int) (hx : Fits x) (hn : 0 < n ∧ n ≤ 1000000000) (w : World) => pick_is x n hx hn w)
  have U0 := Lib.hid u0; have U1 := Lib.hid u1; have U2 := Lib.hid u2
  clear hO hS hQ eO eS eQ u0 u1 u2
  go_enter Try.func25, Try.ntmps25
  go_upto_region 1 with (fail)
  generalize ((W.alloc (bsObj p (.slice oa o.length oc) (.slice sa s.length sc) (.slice qa q.length qc))).alloc (bhObj h0 h1 h2)).alloc zeroSch = w0 at *
  have P1 := Lib.hid (HB.out.below (below_new w0 (.cells #[] 3)))
  have A1 := Lib.hid (HO.out _ P1.out.bel)
  have O1 := Lib.hid (World.ownsRow_lit (base := w0.heap.size) (size := 1) (e := 3) w0 #[] 0 (Nat.le_refl _) (by decide) rfl)
  have lk1 : w0.heap.size ≤ (w0.alloc (.cells #[] 3)).heap.size := by simp
  obtain ⟨k0, k1, k2, k3, k4, k5, k6⟩ := P1.out.cells
  go_wp2_with (at_builtin; refine wpList_append_copy rfl _ _ rfl w0.heap.size _ rfl O1.out oa oc o rfl A1.out EO.out (by omega) lk1 ?_)
  intro a1 c1 x1 j1 hg1
  have hb1 : Below w0.heap.size w0 x1 := (below_new w0 (.cells #[] 3)).grown hg1 (by simp) (fun j e => by simp [Value.ownBlock] at e; omega)
  have PP1 := Lib.hid (HB.out.below hb1)
  have J1 := Lib.hid j1
  clear k0 k1 k2 k3 k4 k5 k6 hg1 lk1 j1 A1 O1
  obtain ⟨k0, k1, k2, k3, k4, k5, k6⟩ := PP1.out.cells
  have kf : x1.frozen? ⟨W.heap.size, 1, none⟩ = false := box_fz PP1.out.box 1
  have kl : W.heap.size < x1.heap.size := lt_of_block PP1.out.box
  have HB1 := Lib.hid (PP1.out.set 1 (.slice a1 o.length c1) rfl)
  have R1 := Lib.hid (J1.out.ch (ch_set x1 W.heap.size 1 (.slice a1 o.length c1)) (fun i hi e => by have h5 := J1.out.lt i hi; have h6 := HZ.out; omega))
  have HZ1 := Lib.hid (show W.heap.size + 3 ≤ (x1.setCell ⟨W.heap.size, 1, none⟩ (.slice a1 o.length c1)).heap.size by have := hb1.size; have h6 := HZ.out; simp only [World.setCell, Array.size_modify]; omega)
  clear PP1 P1 hb1 HB
  go_upto_region 2 with (fail)
  clear k0 k1 k2 k3 k4 k5 k6 kf kl
  generalize x1.setCell ⟨W.heap.size, 1, none⟩ (.slice a1 o.length c1) = w1 at *
  have P2 := Lib.hid (HB1.out.below (below_new w1 (.cells #[] 3)))
  have A2 := Lib.hid (HS.out _ P2.out.bel)
  have O2 := Lib.hid (World.ownsRow_lit (base := w1.heap.size) (size := 1) (e := 3) w1 #[] 0 (Nat.le_refl _) (by decide) rfl)
  have lk2 : w1.heap.size ≤ (w1.alloc (.cells #[] 3)).heap.size := by simp
  obtain ⟨k0, k1, k2, k3, k4, k5, k6⟩ := P2.out.cells
  go_wp2_with (at_builtin; refine wpList_append_copy rfl _ _ rfl w1.heap.size _ rfl O2.out sa sc s rfl A2.out ES.out (by omega) lk2 ?_)
  intro a2 c2 x2 j2 hg2
  have hb2 : Below w1.heap.size w1 x2 := (below_new w1 (.cells #[] 3)).grown hg2 (by simp) (fun j e => by simp [Value.ownBlock] at e; omega)
  have PP2 := Lib.hid (HB1.out.below hb2)
  have J2 := Lib.hid j2
  clear k0 k1 k2 k3 k4 k5 k6 hg2 lk2 j2 A2 O2
  obtain ⟨k0, k1, k2, k3, k4, k5, k6⟩ := PP2.out.cells
  have kf : x2.frozen? ⟨W.heap.size, 2, none⟩ = false := box_fz PP2.out.box 2
  have kl : W.heap.size < x2.heap.size := lt_of_block PP2.out.box
  have HB2 := Lib.hid (PP2.out.set 2 (.slice a2 s.length c2) rfl)
  have R2 := Lib.hid (J2.out.ch (ch_set x2 W.heap.size 2 (.slice a2 s.length c2)) (fun i hi e => by have h5 := J2.out.lt i hi; have h6 := HZ1.out; omega))
  have R1b := Lib.hid ((R1.out.below hb2).ch (ch_set x2 W.heap.size 2 (.slice a2 s.length c2)) (fun i hi e => by have h5 := R1.out.lt i hi; have h6 := HZ.out; omega))
  have HZ2 := Lib.hid (show W.heap.size + 3 ≤ (x2.setCell ⟨W.heap.size, 2, none⟩ (.slice a2 s.length c2)).heap.size by have := hb2.size; have h6 := HZ1.out; simp only [World.setCell, Array.size_modify]; omega)
  clear PP2 P2 hb2 HB1
  go_upto_region 3 with (fail)
  clear k0 k1 k2 k3 k4 k5 k6 kf kl
  generalize x2.setCell ⟨W.heap.size, 2, none⟩ (.slice a2 s.length c2) = w2 at *
  have P3 := Lib.hid (HB2.out.below (below_new w2 (.cells #[] 3)))
  have A3 := Lib.hid (HQ.out _ P3.out.bel)
  have O3 := Lib.hid (World.ownsRow_lit (base := w2.heap.size) (size := 1) (e := 3) w2 #[] 0 (Nat.le_refl _) (by decide) rfl)
  have lk3 : w2.heap.size ≤ (w2.alloc (.cells #[] 3)).heap.size := by simp
  obtain ⟨k0, k1, k2, k3, k4, k5, k6⟩ := P3.out.cells
  go_wp2_with (at_builtin; refine wpList_append_copy rfl _ _ rfl w2.heap.size _ rfl O3.out qa qc q rfl A3.out EQ.out (by omega) lk3 ?_)
  intro a3 c3 x3 j3 hg3
  have hb3 : Below w2.heap.size w2 x3 := (below_new w2 (.cells #[] 3)).grown hg3 (by simp) (fun j e => by simp [Value.ownBlock] at e; omega)
  have PP3 := Lib.hid (HB2.out.below hb3)
  have J3 := Lib.hid j3
  clear k0 k1 k2 k3 k4 k5 k6 hg3 lk3 j3 A3 O3
  obtain ⟨k0, k1, k2, k3, k4, k5, k6⟩ := PP3.out.cells
  have kf : x3.frozen? ⟨W.heap.size, 3, none⟩ = false := box_fz PP3.out.box 3
  have kl : W.heap.size < x3.heap.size := lt_of_block PP3.out.box
  have HB3 := Lib.hid (PP3.out.set 3 (.slice a3 q.length c3) rfl)
  have R3 := Lib.hid (J3.out.ch (ch_set x3 W.heap.size 3 (.slice a3 q.length c3)) (fun i hi e => by have h5 := J3.out.lt i hi; have h6 := HZ2.out; omega))
  have R1c := Lib.hid ((R1b.out.below hb3).ch (ch_set x3 W.heap.size 3 (.slice a3 q.length c3)) (fun i hi e => by have h5 := R1b.out.lt i hi; have h6 := HZ.out; omega))
  have R2c := Lib.hid ((R2.out.below hb3).ch (ch_set x3 W.heap.size 3 (.slice a3 q.length c3)) (fun i hi e => by have h5 := R2.out.lt i hi; have h6 := HZ1.out; omega))
  have HZ3 := Lib.hid (show W.heap.size + 3 ≤ (x3.setCell ⟨W.heap.size, 3, none⟩ (.slice a3 q.length c3)).heap.size by have := hb3.size; have h6 := HZ2.out; simp only [World.setCell, Array.size_modify]; omega)
  clear PP3 P3 hb3 HB2
  go_upto_region 4 with (fail)
  clear k0 k1 k2 k3 k4 k5 k6 kf kl
  generalize x3.setCell ⟨W.heap.size, 3, none⟩ (.slice a3 q.length c3) = w3 at *
  have HR := Lib.hid (show Rows1 (W.heap.size + 3) a1 c1 o.length a2 c2 s.length a3 c3 q.length w3 from ⟨o, s, q, rfl, rfl, rfl, R1c.out.mono (by have := HZ.out; omega), R2c.out.mono HZ1.out, R3.out.mono HZ2.out, fun g hg => ⟨fun e => by have b1 := R1.out.lt g hg; have b2 := R2.out.lt g e; omega, fun e => by have b1 := R1b.out.lt g hg; have b2 := R3.out.lt g e; omega⟩, fun g hg e => by have b1 := R2.out.lt g hg; have b2 := R3.out.lt g e; omega⟩)
  clear R1 R1b R1c R2 R2c R3 J1 J2 J3 HZ HZ1 HZ2 HZ3 EO ES EQ HO HS HQ
  generalize o.length = n1 at *
  generalize s.length = n2 at *
  generalize q.length = n3 at *
  obtain ⟨k0, k1, k2, k3, k4, k5, k6⟩ := HB3.out.cells
  go_wp2_with fail
  refine (HPk.out h0 6 U0.out (by omega) w3).mono ?_
  rintro _ w4 ⟨rfl, rfl⟩
  rw [h4]
  clear h4
  by_cases hn : 2 < n1
  · obtain ⟨g, rfl, hg1, hg2, hcl, hst⟩ := HR.out.atO (by omega)
    obtain ⟨m, em⟩ : ∃ m, n1 = m + 1 := ⟨n1 - 1, by omega⟩
    have i9 : (2 : Int) < (n1 : Int) := by omega
    have dm : IntKind.i64.wrap ((n1 : Int) - 1) = (m : Int) := by rw [show (n1 : Int) - 1 = (m : Int) by omega]; exact IntWalk.i64_in _ (by omega)
    obtain ⟨y, yc, yf⟩ := hcl 1 (by omega)
    obtain ⟨z, zc, zf⟩ := hcl m (by omega)
    have i0 : (0 : Int) ≤ (m : Int) := by omega
    have i1 : (m : Int) < (n1 : Int) := by omega
    have i2 : (1 : Int) < (n1 : Int) := by omega
    have EM := Lib.hid em
    clear em
    have kl1 : g < w4.heap.size := hg2
    clear hcl
    obtain ⟨u1, s1⟩ := cell?_setCell_some (w := w4) (p := ⟨g, 1, none⟩) (x := .int .i64 z) (q := ⟨g, m, none⟩) zc
    have s2 := (BoxB.ch HB3.out (ch_set w4 g 1 (.int .i64 z)) (fun i e => by omega)).cells.2.1
    have HBn := Lib.hid (fun u v => ((HB3.out.ch (ch_set w4 g 1 (.int .i64 u)) (fun i e => by omega)).ch (ch_set (w4.setCell ⟨g, 1, none⟩ (.int .i64 u)) g m (.int .i64 v)) (fun i e => by omega)).below (Below.refl _ _).drew)
    have HR5 := hst 1 z
    obtain ⟨g', eg, -, -, -, hst2⟩ := HR5.atO (by omega)
    injection eg with eg; injection eg with eg; subst eg
    have HRn := Lib.hid ((hst2 m y).drew)
    clear hst hst2 HB3 HR HR5 k0 k2 k3 k4 k5 k6
    go_upto_block 0 with (fail)
    go_cut [127] (fun s127 wx => s127 = .pointer (some ⟨g, 1, none⟩) ∧ wx = ((w4.setCell ⟨g, 1, none⟩ (.int .i64 z)).setCell ⟨g, m, none⟩ (.int .i64 y)).drew)
    case first =>
      go_upto_region 21 with (fail)
      go_region
      go_wp2_with fail
      go_meet
      exact ⟨rfl, rfl⟩
    case rest =>
    obtain ⟨rfl, rfl⟩ := hcut
    go_upto_region 22 with (fail)
    have HB6 := Lib.hid (HBn.out z y)
    clear HBn
    generalize ((w4.setCell ⟨g, 1, none⟩ (.int .i64 z)).setCell ⟨g, m, none⟩ (.int .i64 y)).drew = w5 at *
    clear s2 u1 s1 yc yf zc zf k1
    have q0 := Lib.hid (HRn.out.done HB6.out (p0 := p) (by omega))
    obtain ⟨k0, k1, k2, k3, k4, k5, k6⟩ := HB6.out.cells
    have z0 : w5.cell? ⟨W.heap.size + 2, 0, none⟩ = some (.int .i64 0) := box_cell HB6.out.res 0 _ rfl
    have f0 : w5.frozen? ⟨W.heap.size + 2, 0, none⟩ = false := box_fz HB6.out.res 0
    have z1 : w5.cell? ⟨W.heap.size + 2, 1, none⟩ = some (.slice none 0 0) := box_cell HB6.out.res 1 _ rfl
    have f1 : w5.frozen? ⟨W.heap.size + 2, 1, none⟩ = false := box_fz HB6.out.res 1
    have z2 : w5.cell? ⟨W.heap.size + 2, 2, none⟩ = some (.slice none 0 0) := box_cell HB6.out.res 2 _ rfl
    have f2 : w5.frozen? ⟨W.heap.size + 2, 2, none⟩ = false := box_fz HB6.out.res 2
    have z3 : w5.cell? ⟨W.heap.size + 2, 3, none⟩ = some (.slice none 0 0) := box_cell HB6.out.res 3 _ rfl
    have f3 : w5.frozen? ⟨W.heap.size + 2, 3, none⟩ = false := box_fz HB6.out.res 3
    have lz : W.heap.size + 2 < w5.heap.size := lt_of_block HB6.out.res
    clear HB6 HRn
    go_wp2_with fail
    have hg := grown_trans (grown_trans (grown_trans (grown_set (w := w5) (W.heap.size + 2) 0 (.int .i64 (p))) (grown_set _ 1 (.slice (some ⟨g, 0, none⟩) n1 c1))) (grown_set _ 2 (.slice a2 n2 c2))) (grown_set _ 3 (.slice a3 n3 c3))
    exact bodyPost_ret (v := .agg #[.int .i64 (p), .slice (some ⟨g, 0, none⟩) n1 c1, .slice a2 n2 c2, .slice a3 n3 c3]) (by simp [results, Try.results25, go_sem, z0, z1, z2, z3]) rfl (q0.out _ hg)
  · have i1 : ¬ (2 : Int) < (n1 : Int) := by omega
    go_upto_region 22 with (fail)
    clear k0 k1 k2 k3 k4 k5 k6
    have q0 := Lib.hid (HR.out.done HB3.out (p0 := p) (by omega))
    obtain ⟨k0, k1, k2, k3, k4, k5, k6⟩ := HB3.out.cells
    have z0 : w4.cell? ⟨W.heap.size + 2, 0, none⟩ = some (.int .i64 0) := box_cell HB3.out.res 0 _ rfl
    have f0 : w4.frozen? ⟨W.heap.size + 2, 0, none⟩ = false := box_fz HB3.out.res 0
    have z1 : w4.cell? ⟨W.heap.size + 2, 1, none⟩ = some (.slice none 0 0) := box_cell HB3.out.res 1 _ rfl
    have f1 : w4.frozen? ⟨W.heap.size + 2, 1, none⟩ = false := box_fz HB3.out.res 1
    have z2 : w4.cell? ⟨W.heap.size + 2, 2, none⟩ = some (.slice none 0 0) := box_cell HB3.out.res 2 _ rfl
    have f2 : w4.frozen? ⟨W.heap.size + 2, 2, none⟩ = false := box_fz HB3.out.res 2
    have z3 : w4.cell? ⟨W.heap.size + 2, 3, none⟩ = some (.slice none 0 0) := box_cell HB3.out.res 3 _ rfl
    have f3 : w4.frozen? ⟨W.heap.size + 2, 3, none⟩ = false := box_fz HB3.out.res 3
    have lz : W.heap.size + 2 < w4.heap.size := lt_of_block HB3.out.res
    clear HB3 HR
    go_wp2_with fail
    have hg := grown_trans (grown_trans (grown_trans (grown_set (w := w4) (W.heap.size + 2) 0 (.int .i64 (p))) (grown_set _ 1 (.slice a1 n1 c1))) (grown_set _ 2 (.slice a2 n2 c2))) (grown_set _ 3 (.slice a3 n3 c3))
    exact bodyPost_ret (v := .agg #[.int .i64 (p), .slice a1 n1 c1, .slice a2 n2 c2, .slice a3 n3 c3]) (by simp [results, Try.results25, go_sem, z0, z1, z2, z3]) rfl (q0.out _ hg)
end Go.Proofs.Ytiolmcnngpaapaa
