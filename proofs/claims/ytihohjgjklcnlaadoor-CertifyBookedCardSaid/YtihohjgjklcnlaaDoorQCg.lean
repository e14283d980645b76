/-
  One number of a row of records of one's own is changed.
  The law file's generator of plans: what it keeps in memory.
-/
import Derived.Test.YtihohjgjklcnlaaDoorQBg
import Derived.Test.YtihohjgjklcnlaaDoorQBx
import Derived.Test.YtihohjgjklcnlaaDoorQBz
import Derived.Test.YtihohjgjklcnlaaDoorQCc
import Derived.Deep.RegionHeld3
import Derived.BigQuiet
namespace Go.Proofs.YtihohjgjklcnlaaDoor
open Go.RowKit
theorem flat_set {α : Type} (f : α → List Value) (k : Nat) (hk : ∀ x, (f x).length = k) {u : Value} {o : Nat} (ho : o < k) {x : α} : ∀ (L : List α) (i : Nat) (hi : i < L.length), f x = (f L[i]).set o u → (L.flatMap f).set (i * k + o) u = (L.set i x).flatMap f
  | [], i, hi, _ => absurd hi (Nat.not_lt_zero i)
  | y :: L, 0, _, hx => by
    have hx : f x = (f y).set o u := hx
    rw [List.flatMap_cons, Nat.zero_mul, Nat.zero_add, List.set_append_left _ _ (by rw [hk]; exact ho)]
    show _ = f x ++ L.flatMap f
    rw [hx]
  | y :: L, i + 1, hi, hx => by
    have ih := flat_set f k hk ho L i (by simpa using hi) hx
    have e : (i + 1) * k + o = k + (i * k + o) := by rw [Nat.succ_mul]; omega
    rw [List.flatMap_cons, List.set_append_right _ _ (by rw [hk, e]; omega), hk, e, Nat.add_sub_cancel_left, ih]
    rfl
theorem RowO.setField {α : Type} {f : α → List Value} {t : TypeId} {k : Nat} (hf : ∀ x, (f x).length = k) {w : World} {B g c : Nat} {L : List α} (h : RowO f t k w B (.slice (some ⟨g, 0, none⟩) L.length c) L) {i o : Nat} (hi : i < L.length) (ho : o < k) {x : α} {u : Value}
    (hx : f x = (f L[i]).set o u) : RowO f t k (w.setCell ⟨g, i * k + o, none⟩ u) B (.slice (some ⟨g, 0, none⟩) L.length c) (L.set i x) := by
  obtain ⟨h1, h0 | ⟨g', cap', cur, e, h2, h3, h4, h5, h6, h7⟩⟩ := h
  · omega
  injection e with e _ e2; injection e with e; injection e with e; subst e; subst e2
  have hfl := flat_set f k hf ho L i hi hx
  unfold RowO
  rw [List.length_set]
  refine ⟨by rw [← hfl, List.length_set]; exact h1, .inr ⟨g, c, _, rfl, h2, block_set h3 _, h4, h5, by simpa using h6, ?_⟩⟩
  have hin : i * k + o < (L.flatMap f).length := by
    rw [h1]
    have : (i + 1) * k ≤ L.length * k := Nat.mul_le_mul_right k (by omega)
    rw [Nat.succ_mul] at this; omega
  rw [Array.toList_setIfInBounds, List.take_set, h7, hfl]
end Go.Proofs.YtihohjgjklcnlaaDoor

namespace Go.Proofs.YtihohjgjklcnlaaDoor
open Go.RowKit Go.Shelf
attribute [local go_sem] Oper.semAt_some
/-- The plan while it is made tight: the result's box, the plan's box, its two rows. -/
structure Md9 (w0 : World) (bx : Nat) (q : PlanP) (w : World) : Prop where
  rb : w.heap[w0.heap.size]? = some ow0
  pb : w.heap[bx]? = some (planObj q)
  srow : StO w w0.heap.size (.slice q.sa q.p.st.length q.sc) q.p.st
  wrow : WnO w w0.heap.size (.slice q.wa q.p.wn.length q.wc) q.p.wn
  bel : Below w0.heap.size w0 w
  lo : w0.heap.size < bx
theorem Md9.below {w0 w w' : World} {bx : Nat} {q : PlanP} (h : Md9 w0 bx q w) (hb : Below w.heap.size w w') : Md9 w0 bx q w' :=
  ⟨box_below h.rb hb, box_below h.pb hb, RowO.below h.srow hb, RowO.below h.wrow hb, below_step h.bel hb, h.lo⟩
theorem Md9.stage {w0 w : World} {bx g : Nat} {en mi ma : Int} {T : List Pl.Stage} {wn : List Pl.Win} {sc wc : Nat} {wa : Option Addr} (h : Md9 w0 bx ⟨⟨en, mi, ma, T, wn⟩, some ⟨g, 0, none⟩, sc, wa, wc⟩ w) {i o : Nat} (hi : i < T.length) (ho : o < 6) {x : Pl.Stage} {u : Value}
    (hx : stageCells x = (stageCells T[i]).set o u) : Md9 w0 bx ⟨⟨en, mi, ma, T.set i x, wn⟩, some ⟨g, 0, none⟩, sc, wa, wc⟩ (w.setCell ⟨g, i * 6 + o, none⟩ u) := by
  obtain ⟨cs, hg⟩ := own_block h.srow (k := g) rfl
  have hc := one_ch w g (i * 6 + o) u
  have hs := RowO.setField stage_len h.srow hi ho hx
  have hl : (T.set i x).length = T.length := List.length_set
  refine ⟨(hc.block _ (lt_of_block h.rb) (fun e => (ne_of_kind hg h.rb (by decide)) e.symm)).trans h.rb, ?_, ?_, own_ch h.wrow hc (fun k hk e => ?_), h.bel.setCell (p := ⟨g, i * 6 + o, none⟩) (h.srow.lt g rfl).1 u, h.lo⟩
  · show _ = some (planObj ⟨⟨en, mi, ma, T.set i x, wn⟩, some ⟨g, 0, none⟩, sc, wa, wc⟩)
    unfold planObj
    rw [hl]
    exact (hc.block _ (lt_of_block h.pb) (fun e => (ne_of_kind hg h.pb (by decide)) e.symm)).trans h.pb
  · show StO _ _ (.slice _ (T.set i x).length _) (T.set i x)
    rw [hl]; exact hs
  · obtain ⟨ds, hk2⟩ := own_block h.wrow hk
    exact ne_of_kind hg hk2 (by decide) e.symm
theorem Md9.win {w0 w : World} {bx g : Nat} {en mi ma : Int} {T : List Pl.Stage} {wn : List Pl.Win} {sc wc : Nat} {sa : Option Addr} (h : Md9 w0 bx ⟨⟨en, mi, ma, T, wn⟩, sa, sc, some ⟨g, 0, none⟩, wc⟩ w) {i o : Nat} (hi : i < wn.length) (ho : o < 3) {x : Pl.Win} {u : Value}
    (hx : winCells x = (winCells wn[i]).set o u) : Md9 w0 bx ⟨⟨en, mi, ma, T, wn.set i x⟩, sa, sc, some ⟨g, 0, none⟩, wc⟩ (w.setCell ⟨g, i * 3 + o, none⟩ u) := by
  obtain ⟨cs, hg⟩ := own_block h.wrow (k := g) rfl
  have hc := one_ch w g (i * 3 + o) u
  have hs := RowO.setField win_len h.wrow hi ho hx
  have hl : (wn.set i x).length = wn.length := List.length_set
  refine ⟨(hc.block _ (lt_of_block h.rb) (fun e => (ne_of_kind hg h.rb (by decide)) e.symm)).trans h.rb, ?_, own_ch h.srow hc (fun k hk e => ?_), ?_, h.bel.setCell (p := ⟨g, i * 3 + o, none⟩) (h.wrow.lt g rfl).1 u, h.lo⟩
  · show _ = some (planObj ⟨⟨en, mi, ma, T, wn.set i x⟩, sa, sc, some ⟨g, 0, none⟩, wc⟩)
    unfold planObj
    rw [hl]
    exact (hc.block _ (lt_of_block h.pb) (fun e => (ne_of_kind hg h.pb (by decide)) e.symm)).trans h.pb
  · obtain ⟨ds, hk2⟩ := own_block h.srow hk
    exact ne_of_kind hg hk2 (by decide) e.symm
  · show WnO _ _ (.slice _ (wn.set i x).length _) (wn.set i x)
    rw [hl]; exact hs
/-- A stage's cells are written, one after the other. -/
theorem Md9.put {w0 w : World} {bx g : Nat} {en mi ma : Int} {T : List Pl.Stage} {wn : List Pl.Win} {sc wc : Nat} {wa : Option Addr} (h : Md9 w0 bx ⟨⟨en, mi, ma, T, wn⟩, some ⟨g, 0, none⟩, sc, wa, wc⟩ w) {i : Nat} (hi : i < T.length) (x : Pl.Stage) :
    Md9 w0 bx ⟨⟨en, mi, ma, T.set i x, wn⟩, some ⟨g, 0, none⟩, sc, wa, wc⟩ ((((((w.setCell ⟨g, i * 6, none⟩ (.int .i64 x.mn)).setCell ⟨g, i * 6 + 1, none⟩ (.int .i64 x.mx)).setCell ⟨g, i * 6 + 2, none⟩ (.int .i64 x.m.tool)).setCell ⟨g, i * 6 + 3, none⟩ (.int .i64 x.m.start)).setCell ⟨g, i * 6 + 4, none⟩ (.int .i64 x.s.tool)).setCell ⟨g, i * 6 + 5, none⟩ (.int .i64 x.s.start)) := by
  have h1 := h.stage hi (o := 0) (by decide) (x := ⟨x.mn, T[i].mx, ⟨T[i].m.tool, T[i].m.start⟩, ⟨T[i].s.tool, T[i].s.start⟩⟩) (u := .int .i64 x.mn) rfl
  have h2 := h1.stage (i := i) (by simpa using hi) (o := 1) (by decide) (x := ⟨x.mn, x.mx, ⟨T[i].m.tool, T[i].m.start⟩, ⟨T[i].s.tool, T[i].s.start⟩⟩) (u := .int .i64 x.mx) (by rw [List.getElem_set_self]; rfl)
  rw [List.set_set] at h2
  have h3 := h2.stage (i := i) (by simpa using hi) (o := 2) (by decide) (x := ⟨x.mn, x.mx, ⟨x.m.tool, T[i].m.start⟩, ⟨T[i].s.tool, T[i].s.start⟩⟩) (u := .int .i64 x.m.tool) (by rw [List.getElem_set_self]; rfl)
  rw [List.set_set] at h3
  have h4 := h3.stage (i := i) (by simpa using hi) (o := 3) (by decide) (x := ⟨x.mn, x.mx, ⟨x.m.tool, x.m.start⟩, ⟨T[i].s.tool, T[i].s.start⟩⟩) (u := .int .i64 x.m.start) (by rw [List.getElem_set_self]; rfl)
  rw [List.set_set] at h4
  have h5 := h4.stage (i := i) (by simpa using hi) (o := 4) (by decide) (x := ⟨x.mn, x.mx, ⟨x.m.tool, x.m.start⟩, ⟨x.s.tool, T[i].s.start⟩⟩) (u := .int .i64 x.s.tool) (by rw [List.getElem_set_self]; rfl)
  rw [List.set_set] at h5
  have h6 := h5.stage (i := i) (by simpa using hi) (o := 5) (by decide) (x := x) (u := .int .i64 x.s.start) (by rw [List.getElem_set_self]; rfl)
  rw [List.set_set] at h6
  exact h6
/-- The cells of one stage. -/
theorem Md9.cells {w0 w : World} {bx g : Nat} {en mi ma : Int} {T : List Pl.Stage} {wn : List Pl.Win} {sc wc : Nat} {wa : Option Addr} (h : Md9 w0 bx ⟨⟨en, mi, ma, T, wn⟩, some ⟨g, 0, none⟩, sc, wa, wc⟩ w) {i : Nat} (hi : i < T.length) :
    (w.cell? ⟨g, i * 6, none⟩ = some (.int .i64 T[i].mn) ∧ w.cell? ⟨g, i * 6 + 1, none⟩ = some (.int .i64 T[i].mx) ∧ w.cell? ⟨g, i * 6 + 2, none⟩ = some (.int .i64 T[i].m.tool) ∧ w.cell? ⟨g, i * 6 + 3, none⟩ = some (.int .i64 T[i].m.start) ∧ w.cell? ⟨g, i * 6 + 4, none⟩ = some (.int .i64 T[i].s.tool) ∧ w.cell? ⟨g, i * 6 + 5, none⟩ = some (.int .i64 T[i].s.start)) ∧ (∀ k, w.frozen? ⟨g, k, none⟩ = false) ∧ g < w.heap.size := by
  obtain ⟨a, c, e, hA, -⟩ := h.srow.arg stage_len
  injection e with e1 _ e2
  subst e1; subst e2
  obtain ⟨b, off, e3, hb, hc⟩ := hA.at (show 0 < T.length by omega)
  injection e3 with e3; injection e3 with e3 e4; subst e3; subst e4
  obtain ⟨cs, hg⟩ := own_block h.srow (k := g) rfl
  have := st_cells (hc i hi)
  simp only [Nat.zero_add] at this
  exact ⟨this, fun k => box_fz hg k, lt_of_block hg⟩
theorem Md9.wcells {w0 w : World} {bx g : Nat} {en mi ma : Int} {T : List Pl.Stage} {wn : List Pl.Win} {sc wc : Nat} {sa : Option Addr} (h : Md9 w0 bx ⟨⟨en, mi, ma, T, wn⟩, sa, sc, some ⟨g, 0, none⟩, wc⟩ w) {i : Nat} (hi : i < wn.length) :
    (w.cell? ⟨g, i * 3, none⟩ = some (.int .i64 wn[i].f) ∧ w.cell? ⟨g, i * 3 + 1, none⟩ = some (.int .i64 wn[i].t) ∧ w.cell? ⟨g, i * 3 + 2, none⟩ = some (.int .i64 wn[i].lim)) ∧ (∀ k, w.frozen? ⟨g, k, none⟩ = false) ∧ g < w.heap.size := by
  obtain ⟨a, c, e, hA, -⟩ := h.wrow.arg win_len
  injection e with e1 _ e2
  subst e1; subst e2
  obtain ⟨b, off, e3, hb, hc⟩ := hA.at (show 0 < wn.length by omega)
  injection e3 with e3; injection e3 with e3 e4; subst e3; subst e4
  obtain ⟨cs, hg⟩ := own_block h.wrow (k := g) rfl
  have := hc i hi
  refine ⟨⟨?_, ?_, ?_⟩, fun k => box_fz hg k, lt_of_block hg⟩
  · have := this 0 _ rfl; simpa using this
  · have := this 1 _ rfl; simpa using this
  · have := this 2 _ rfl; simpa using this
/-- What made leaves. -/
def Made9Post (X : List (List Int)) (t : Bool) (w : World) (e : Ending) (w' : World) : Prop := ∃ sa sc wa wc, e = .returned (PlanP.val ⟨Pl.made9 X t, sa, sc, wa, wc⟩) ∧ StO w' w.heap.size (.slice sa (Pl.made9 X t).st.length sc) (Pl.made9 X t).st ∧ WnO w' w.heap.size (.slice wa (Pl.made9 X t).wn.length wc) (Pl.made9 X t).wn ∧ Below w.heap.size w w'
/-- The plan is copied into the result's box. -/
theorem Md9.done {w0 w : World} {bx : Nat} {en mi ma : Int} {T : List Pl.Stage} {wn : List Pl.Win} {sc wc : Nat} {sa wa : Option Addr} (h : Md9 w0 bx ⟨⟨en, mi, ma, T, wn⟩, sa, sc, wa, wc⟩ w) :
    (((((w.setCell ⟨w0.heap.size, 0, none⟩ (.int .i64 en)).setCell ⟨w0.heap.size, 1, none⟩ (.int .i64 mi)).setCell ⟨w0.heap.size, 2, none⟩ (.int .i64 ma)).setCell ⟨w0.heap.size, 3, none⟩ (.slice sa T.length sc)).setCell ⟨w0.heap.size, 4, none⟩ (.slice wa wn.length wc)).heap[w0.heap.size]? = some (.cells #[.int .i64 en, .int .i64 mi, .int .i64 ma, .slice sa T.length sc, .slice wa wn.length wc] 28) ∧
    StO (((((w.setCell ⟨w0.heap.size, 0, none⟩ (.int .i64 en)).setCell ⟨w0.heap.size, 1, none⟩ (.int .i64 mi)).setCell ⟨w0.heap.size, 2, none⟩ (.int .i64 ma)).setCell ⟨w0.heap.size, 3, none⟩ (.slice sa T.length sc)).setCell ⟨w0.heap.size, 4, none⟩ (.slice wa wn.length wc)) w0.heap.size (.slice sa T.length sc) T ∧
    WnO (((((w.setCell ⟨w0.heap.size, 0, none⟩ (.int .i64 en)).setCell ⟨w0.heap.size, 1, none⟩ (.int .i64 mi)).setCell ⟨w0.heap.size, 2, none⟩ (.int .i64 ma)).setCell ⟨w0.heap.size, 3, none⟩ (.slice sa T.length sc)).setCell ⟨w0.heap.size, 4, none⟩ (.slice wa wn.length wc)) w0.heap.size (.slice wa wn.length wc) wn ∧
    Below w0.heap.size w0 (((((w.setCell ⟨w0.heap.size, 0, none⟩ (.int .i64 en)).setCell ⟨w0.heap.size, 1, none⟩ (.int .i64 mi)).setCell ⟨w0.heap.size, 2, none⟩ (.int .i64 ma)).setCell ⟨w0.heap.size, 3, none⟩ (.slice sa T.length sc)).setCell ⟨w0.heap.size, 4, none⟩ (.slice wa wn.length wc)) := by
  obtain ⟨P5, O5⟩ := put5 h.rb (.int .i64 en) (.int .i64 mi) (.int .i64 ma) (.slice sa T.length sc) (.slice wa wn.length wc)
  refine ⟨P5, own_ch h.srow O5 (fun k hk e => ?_), own_ch h.wrow O5 (fun k hk e => ?_), h.bel.trans (O5.below (Nat.le_of_lt (lt_of_block h.rb)) (fun k e => by omega))⟩
  · obtain ⟨cs, hcs⟩ := own_block h.srow hk
    exact ne_of_kind hcs h.rb (by decide) e
  · obtain ⟨cs, hcs⟩ := own_block h.wrow hk
    exact ne_of_kind hcs h.rb (by decide) e
set_option maxRecDepth 100000 in
set_option maxHeartbeats 4000000 in
theorem made_any (X : List (List Int)) (t : Bool) (xa : Option Addr) (xc : Nat) (w : World) (hX : ArrsA 6 w xa xc X) : Calls Tryd.prog 11 #[.slice xa X.length xc, .bool t] w (Made9Post X t w) := by
  have HF := Lib.hid (Pl.made_fine X)
  have HTF := Lib.hid (Pl.tight_fine X)
  have MA := Lib.hid (Made_any X xa xc (w.alloc ow0) (hX.below (below_new w ow0)))
  have R0 := Lib.hid (heap_alloc_new w ow0)
  have L0 := Lib.hid (show (w.alloc ow0).heap.size = w.heap.size + 1 by simp)
  have B0 := Lib.hid (below_new w ow0)
  clear hX
  go_enter Tryd.func11, Tryd.ntmps11
  go_wp2_with fail
  refine MA.out.mono ?_; rintro e w1 ⟨sa, sc, wa, wc, rfl, s1, n1, g1⟩
  have HMd := Lib.hid (show Pl.made9 X t = if t = true then Pl.tightP (Pl.made X) else Pl.made X from rfl)
  generalize hP : Pl.made X = P at *
  have M1 := Lib.hid (show Md9 w w1.heap.size ⟨P, sa, sc, wa, wc⟩ (w1.alloc (planObj ⟨P, sa, sc, wa, wc⟩)) from by
    have hb := below_new w1 (planObj ⟨P, sa, sc, wa, wc⟩)
    have hle : w.heap.size ≤ (w.alloc ow0).heap.size := by rw [L0.out]; omega
    exact ⟨box_below (box_below R0.out g1) hb, heap_alloc_new w1 _, RowO.below (s1.mono hle) hb, RowO.below (n1.mono hle) hb, below_step (below_step B0.out g1) hb, lt_of_block (box_below R0.out g1)⟩)
  obtain ⟨en, mi, ma, st, wn⟩ := P
  clear s1 n1 g1 R0 L0 B0 MA
  go_upto_region 2 with (fail)
  dsimp only [planObj] at M1
  generalize w1.alloc (.cells #[.int .i64 en, .int .i64 mi, .int .i64 ma, .slice sa st.length sc, .slice wa wn.length wc] 28) = w2 at *
  generalize w1.heap.size = bx at *
  cases t with
  | false =>
    rw [if_neg (by simp)] at HMd
    have r0 := box_cell M1.out.rb 0 (.int .i64 0) rfl
    have r1 := box_cell M1.out.rb 1 (.int .i64 0) rfl
    have r2 := box_cell M1.out.rb 2 (.int .i64 0) rfl
    have r3 := box_cell M1.out.rb 3 (.slice none 0 0) rfl
    have r4 := box_cell M1.out.rb 4 (.slice none 0 0) rfl
    have c0 := box_cell M1.out.pb 0 (.int .i64 en) rfl
    have c1 := box_cell M1.out.pb 1 (.int .i64 mi) rfl
    have c2 := box_cell M1.out.pb 2 (.int .i64 ma) rfl
    have c3 := box_cell M1.out.pb 3 (.slice sa st.length sc) rfl
    have c4 := box_cell M1.out.pb 4 (.slice wa wn.length wc) rfl
    have z := fun k => box_fz M1.out.rb k
    have z0 := z 0; have z1 := z 1; have z2 := z 2; have z3 := z 3; have z4 := z 4
    have hlr := lt_of_block M1.out.rb
    obtain ⟨D1, D2⟩ := M1.out.done
    have D1 := Lib.hid D1; have D2 := Lib.hid D2
    clear z M1
    go_wp2_with fail
    clear r0 r1 r2 r3 r4 c0 c1 c2 c3 c4 z0 z1 z2 z3 z4 hlr
    generalize (((((w2).setCell ⟨w.heap.size, 0, none⟩ (.int .i64 en)).setCell ⟨w.heap.size, 1, none⟩ (.int .i64 mi)).setCell ⟨w.heap.size, 2, none⟩ (.int .i64 ma)).setCell ⟨w.heap.size, 3, none⟩ (.slice sa st.length sc)).setCell ⟨w.heap.size, 4, none⟩ (.slice wa wn.length wc) = we at *
    have r0 := box_cell D1.out 0 (.int .i64 en) rfl
    have r1 := box_cell D1.out 1 (.int .i64 mi) rfl
    have r2 := box_cell D1.out 2 (.int .i64 ma) rfl
    have r3 := box_cell D1.out 3 (.slice sa st.length sc) rfl
    have r4 := box_cell D1.out 4 (.slice wa wn.length wc) rfl
    refine bodyPost_ret (v := PlanP.val ⟨⟨en, mi, ma, st, wn⟩, sa, sc, wa, wc⟩) (by simp [results, Tryd.results11, go_sem, r0, r1, r2, r3, r4]) rfl ?_
    show Made9Post X false w _ _
    unfold Made9Post
    rw [HMd.out]
    exact ⟨_, _, _, _, rfl, D2.out.1, D2.out.2.1, D2.out.2.2⟩
  | true =>
    rw [if_pos rfl] at HMd
    clear hP
    obtain ⟨TS, hTS⟩ : ∃ TS, Pl.tightS ma en none st = TS := ⟨_, rfl⟩
    have HTP := Lib.hid (show Pl.tightP ⟨en, mi, ma, st, wn⟩ = ⟨en, mi, ma, TS, wn.map (Pl.tightW TS)⟩ by unfold Pl.tightP; simp only; rw [hTS])
    rw [HTP.out] at HTF HMd
    have HTS := Lib.hid hTS
    have HTL := Lib.hid (show TS.length = st.length by rw [← hTS]; exact Pl.tightS_len _ _ _ _)
    clear hTS
    obtain ⟨a1, c1, e1, -, -, h1⟩ := own_slice M1.out.srow
    obtain ⟨g, rfl, -, -⟩ := h1 (show 0 < st.length from HF.out.v.len.1)
    injection e1 with e1 _ e2
    subst e1; subst e2
    have hn5 : st.length ≤ 5 := HF.out.n
    have hM : 0 ≤ ma ∧ ma ≤ 11 := ⟨by have := HF.out.v.mmin; simp only at this; omega, HF.out.m⟩
    have hE : 0 ≤ en ∧ en ≤ 1000000 := HF.out.v.entry
    go_wp2_with fail
    go_loopg [6] st.length (fun gg iv wr => ∃ (T : List Pl.Stage) (k : Nat), k ≤ st.length ∧ gg = st.length - k ∧ iv = .int .i64 (k : Int) ∧ Hid (T.length = st.length ∧ (∀ j, j < k → T[j]? = TS[j]?) ∧ (∀ j, k ≤ j → T[j]? = st[j]?) ∧ Md9 w bx ⟨⟨en, mi, ma, T, wn⟩, some ⟨g, 0, none⟩, sc, wa, wc⟩ wr))
    case atStart => exact ⟨st, 0, by omega, by omega, rfl, Lib.hid ⟨rfl, fun j hj => absurd hj (Nat.not_lt_zero j), fun _ _ => rfl, M1.out⟩⟩
    case round =>
      obtain ⟨T, k, hk, rfl, rfl, HK⟩ := hrel
      rename World => wr
      clear M1
      have HLen := Lib.hid HK.out.1
      have d3 := box_cell HK.out.2.2.2.pb 3 (.slice (some ⟨g, 0, none⟩) T.length sc) rfl
      have i1 : (0 : Int) ≤ (k : Int) := by omega
      by_cases hlt : k < st.length
      · as_aux_lemma =>
        have hkT : k < T.length := by rw [HLen.out]; exact hlt
        have i2 : (k : Int) < (T.length : Int) := by omega
        have i4 : ((k : Int)).toNat = k := by omega
        have i5 : k * 6 < T.length * 6 := by omega
        have HX := Lib.hid (show T[k] = st[k] by
          have := HK.out.2.2.1 k (Nat.le_refl k)
          rw [List.getElem?_eq_getElem hkT, List.getElem?_eq_getElem hlt] at this
          exact Option.some.inj this)
        obtain ⟨⟨s0, s1, s2, s3, s4, s5⟩, -, -⟩ := HK.out.2.2.2.cells hkT
        have hTk : TS[k]? = some (Pl.tStage ma en (if k = 0 then none else TS[k - 1]?) st[k]) := by
          rw [← HTS.out]
          obtain ⟨hkS, e⟩ := Pl.tight_take ma en st none k hlt
          rw [List.getElem?_eq_getElem hkS, e]
        have HSm := Lib.hid (HF.out.s st[k] (List.getElem_mem hlt))
        rw [HX.out] at s0 s1 s2 s3 s4 s5
        obtain ⟨x, hx⟩ : ∃ x, st[k] = x := ⟨_, rfl⟩
        rw [hx] at s0 s1 s2 s3 s4 s5 hTk HSm
        have HXx := Lib.hid hx
        clear hx
        go_upto_region 8 with (fail)
        have hb3 := below_new wr (.cells #[.int .i64 x.mn, .int .i64 x.mx, .int .i64 x.m.tool, .int .i64 x.m.start, .int .i64 x.s.tool, .int .i64 x.s.start] 45)
        have X3 := Lib.hid (heap_alloc_new wr (.cells #[.int .i64 x.mn, .int .i64 x.mx, .int .i64 x.m.tool, .int .i64 x.m.start, .int .i64 x.s.tool, .int .i64 x.s.start] 45))
        have HB3 := Lib.hid hb3
        have P3 := Lib.hid (box_below HK.out.2.2.2.pb hb3)
        clear hb3 s0 s1 s2 s3 s4 s5 d3
        generalize wr.alloc (.cells #[.int .i64 x.mn, .int .i64 x.mx, .int .i64 x.m.tool, .int .i64 x.m.start, .int .i64 x.s.tool, .int .i64 x.s.start] 45) = w3 at *
        obtain ⟨nx, hnx⟩ : ∃ nx, wr.heap.size = nx := ⟨_, rfl⟩
        rw [hnx] at X3
        rw [hnx]
        have HNx := Lib.hid hnx
        clear hnx
        obtain ⟨o, ho⟩ : ∃ o, (if k = 0 then none else TS[k - 1]?) = o := ⟨_, rfl⟩
        rw [ho] at hTk
        have HTk := Lib.hid hTk
        have Ho := Lib.hid ho
        clear hTk ho
        have d0 := box_cell P3.out 0 (.int .i64 en) rfl
        have d2 := box_cell P3.out 2 (.int .i64 ma) rfl
        have d3 := box_cell P3.out 3 (.slice (some ⟨g, 0, none⟩) T.length sc) rfl
        have x2 := box_cell X3.out 2 (.int .i64 x.m.tool) rfl
        have e1 : IntKind.i64.wrap (en + ma) = en + ma := IntWalk.i64_in _ (by omega)
        go_upto_if 35 with (fail)
        go_cut [8] (fun t8 wx => ∃ AT, t8 = .int .i64 AT ∧ Hid (AT = Pl.tStart ma en x o ∧ Below w3.heap.size w3 wx))
        case first => as_aux_lemma =>
          by_cases hk0 : k = 0
          · have n0 : ¬ (0 : Int) < (k : Int) := by omega
            have n1 : decide ((k : Int) > 0) = false := by simpa using n0
            have n2N : ¬ 0 < k := by omega
            have n3N : decide (0 < k) = false := decide_eq_false n2N
            have HOn := Lib.hid (show o = none by rw [← Ho.out, if_pos hk0])
            clear hk0
            go_wp2_with fail
            go_meet
            exact ⟨en + ma, rfl, Lib.hid ⟨by rw [HOn.out]; rfl, Below.refl _ _⟩⟩
          · obtain ⟨j, hj⟩ : ∃ j, k = j + 1 := ⟨k - 1, by omega⟩
            have hjT : j < T.length := by omega
            have hjS : j < TS.length := by rw [HTL.out]; omega
            have HY := Lib.hid (show T[j] = TS[j] by
              have := HK.out.2.1 j (by omega)
              rw [List.getElem?_eq_getElem hjT, List.getElem?_eq_getElem hjS] at this
              exact Option.some.inj this)
            have HOy := Lib.hid (show o = some TS[j] by rw [← Ho.out, if_neg hk0, show k - 1 = j by omega, List.getElem?_eq_getElem hjS])
            obtain ⟨⟨s0, s1, s2, s3, s4, s5⟩, -, -⟩ := HK.out.2.2.2.cells hjT
            have HSy := Lib.hid (HTF.out.s TS[j] (List.getElem_mem hjS))
            rw [HY.out] at s0 s1 s2 s3 s4 s5
            obtain ⟨y, hy⟩ : ∃ y, TS[j] = y := ⟨_, rfl⟩
            rw [hy] at s0 s1 s2 s3 s4 s5 HOy HSy
            clear hy HY
            have s0 := cell_below HB3.out s0; have s1 := cell_below HB3.out s1; have s2 := cell_below HB3.out s2
            have s3 := cell_below HB3.out s3; have s4 := cell_below HB3.out s4; have s5 := cell_below HB3.out s5
            have n0 : (0 : Int) < (k : Int) := by omega
            have n1 : decide ((k : Int) > 0) = true := by simpa using n0
            have n2N : 0 < k := by omega
            have n3N : decide (0 < k) = true := decide_eq_true n2N
            have j0 : (0 : Int) ≤ (j : Int) := by omega
            have j1 : (j : Int) < (T.length : Int) := by omega
            have j2 : ((j : Int)).toNat = j := by omega
            have e2 : IntKind.i64.wrap ((k : Int) - 1) = (j : Int) := by rw [show (k : Int) - 1 = (j : Int) by omega]; exact IntWalk.i64_in _ (by omega)
            clear hk0 hj
            go_upto_region 11 with (fail)
            have hb4 := below_new w3 (.cells #[.int .i64 y.mn, .int .i64 y.mx, .int .i64 y.m.tool, .int .i64 y.m.start, .int .i64 y.s.tool, .int .i64 y.s.start] 45)
            have Y4 := Lib.hid (heap_alloc_new w3 (.cells #[.int .i64 y.mn, .int .i64 y.mx, .int .i64 y.m.tool, .int .i64 y.m.start, .int .i64 y.s.tool, .int .i64 y.s.start] 45))
            have HB4 := Lib.hid hb4
            have P4 := Lib.hid (box_below P3.out hb4)
            have X4 := Lib.hid (box_below X3.out hb4)
            clear hb4 s0 s1 s2 s3 s4 s5 d0 d2 d3 x2 e2
            generalize w3.alloc (.cells #[.int .i64 y.mn, .int .i64 y.mx, .int .i64 y.m.tool, .int .i64 y.m.start, .int .i64 y.s.tool, .int .i64 y.s.start] 45) = w4 at *
            obtain ⟨ny, hny⟩ : ∃ ny, w3.heap.size = ny := ⟨_, rfl⟩
            rw [hny] at Y4
            have HNy := Lib.hid hny
            rw [hny]
            clear hny
            have d2 := box_cell P4.out 2 (.int .i64 ma) rfl
            have x2 := box_cell X4.out 2 (.int .i64 x.m.tool) rfl
            have y1 := box_cell Y4.out 1 (.int .i64 y.mx) rfl
            have y2 := box_cell Y4.out 2 (.int .i64 y.m.tool) rfl
            have y3 := box_cell Y4.out 3 (.int .i64 y.m.start) rfl
            have y5 := box_cell Y4.out 5 (.int .i64 y.s.start) rfl
            have q1 := HSy.out.mn; have q2 := HSy.out.ms; have q3 := HSy.out.ss
            have e2 : IntKind.i64.wrap (y.m.start + y.mx) = y.m.start + y.mx := IntWalk.i64_in _ (by omega)
            have e3 : IntKind.i64.wrap (y.m.start + y.mx + ma) = y.m.start + y.mx + ma := IntWalk.i64_in _ (by omega)
            have e4 : IntKind.i64.wrap (y.s.start + y.mx) = y.s.start + y.mx := IntWalk.i64_in _ (by omega)
            have e5 : IntKind.i64.wrap (y.s.start + y.mx + ma) = y.s.start + y.mx + ma := IntWalk.i64_in _ (by omega)
            clear q1 q2 q3
            by_cases hto : y.m.tool = x.m.tool
            · have n2 : (y.m.tool != x.m.tool) = false := by simp [hto]
              have HAt := Lib.hid (show y.m.start + y.mx + ma = Pl.tStart ma en x o by rw [HOy.out]; simp only [Pl.tStart]; rw [if_pos hto])
              clear hto
              go_wp2_with fail
              go_meet
              exact ⟨_, rfl, Lib.hid ⟨HAt.out, by rw [HNy.out] at HB4 ⊢; exact HB4.out⟩⟩
            · have n2 : (y.m.tool != x.m.tool) = true := by simp [hto]
              have HAt := Lib.hid (show max (y.m.start + y.mx + ma) (y.s.start + y.mx + ma) = Pl.tStart ma en x o by rw [HOy.out]; simp only [Pl.tStart]; rw [if_neg hto])
              clear hto
              go_wp2_with fail
              go_meet
              exact ⟨_, rfl, Lib.hid ⟨by rw [← HAt.out]; omega, by rw [HNy.out] at HB4 ⊢; exact HB4.out⟩⟩
        case rest =>
        obtain ⟨AT, rfl, HC⟩ := hcut
        rename World => w5
        have HAT := Lib.hid HC.out.1
        have HB5 := Lib.hid (below_step HB3.out HC.out.2)
        have X5 := Lib.hid (box_below X3.out HC.out.2)
        have P5 := Lib.hid (box_below P3.out HC.out.2)
        clear HC HB3 X3 P3 d0 d2 d3 x2 e1
        obtain ⟨SP, hSP⟩ : ∃ SP, Pl.tSpare ma x AT o = SP := ⟨_, rfl⟩
        have HTs := Lib.hid (show TS[k]? = some ⟨x.mn, x.mx, ⟨x.m.tool, AT⟩, ⟨x.s.tool, SP⟩⟩ by rw [HTk.out, ← hSP, HAT.out]; rfl)
        have HSP := Lib.hid hSP
        clear hSP
        have HTm := Lib.hid (show Pl.Small 1000 ⟨x.mn, x.mx, ⟨x.m.tool, AT⟩, ⟨x.s.tool, SP⟩⟩ by
          obtain ⟨hk2, e⟩ := List.getElem?_eq_some_iff.1 HTs.out
          rw [← e]; exact HTF.out.s _ (List.getElem_mem hk2))
        have q1 := HTm.out.mn; have q2 := HTm.out.ms
        simp only at q1 q2
        obtain ⟨SP0, hSP0⟩ : ∃ SP0, AT + x.mx - 1 + ma = SP0 := ⟨_, rfl⟩
        have e1 : IntKind.i64.wrap (AT + x.mx) = AT + x.mx := IntWalk.i64_in _ (by omega)
        have e2 : IntKind.i64.wrap (AT + x.mx - 1) = AT + x.mx - 1 := IntWalk.i64_in _ (by omega)
        have e3 : IntKind.i64.wrap (AT + x.mx - 1 + ma) = SP0 := by rw [← hSP0]; exact IntWalk.i64_in _ (by omega)
        have HSP0 := Lib.hid hSP0
        clear hSP0 q1 q2
        have HNb := Lib.hid (show bx ≠ nx by have := lt_of_block HK.out.2.2.2.pb; have := HNx.out; omega)
        have x1 := box_cell X5.out 1 (.int .i64 x.mx) rfl
        have x3 := box_cell X5.out 3 (.int .i64 x.m.start) rfl
        have x5 := box_cell X5.out 5 (.int .i64 x.s.start) rfl
        have d2 := box_cell P5.out 2 (.int .i64 ma) rfl
        have z3 := box_fz X5.out 3
        have z5 := box_fz X5.out 5
        have lz := lt_of_block X5.out
        have nb := HNb.out
        have nb2 : ¬ nx = bx := fun e => nb e.symm
        have X6 := Lib.hid (show ((w5.setCell ⟨nx, 3, none⟩ (.int .i64 AT)).setCell ⟨nx, 5, none⟩ (.int .i64 SP0)).heap[nx]? = some (.cells #[.int .i64 x.mn, .int .i64 x.mx, .int .i64 x.m.tool, .int .i64 AT, .int .i64 x.s.tool, .int .i64 SP0] 45) from block_set (block_set X5.out (o := 3) _) (o := 5) _)
        have HB6 := Lib.hid (show Below wr.heap.size wr ((w5.setCell ⟨nx, 3, none⟩ (.int .i64 AT)).setCell ⟨nx, 5, none⟩ (.int .i64 SP0)) from (HB5.out.setCell (p := ⟨nx, 3, none⟩) (Nat.le_of_eq HNx.out) _).setCell (p := ⟨nx, 5, none⟩) (Nat.le_of_eq HNx.out) _)
        go_upto_region 16 with (fail)
        clear x1 x3 x5 d2 z3 z5 lz e1 e2 e3 X5 P5 HB5
        generalize (w5.setCell ⟨nx, 3, none⟩ (.int .i64 AT)).setCell ⟨nx, 5, none⟩ (.int .i64 SP0) = w6 at *
        have P6 := Lib.hid (box_below HK.out.2.2.2.pb HB6.out)
        have d3 := box_cell P6.out 3 (.slice (some ⟨g, 0, none⟩) T.length sc) rfl
        have x2 := box_cell X6.out 2 (.int .i64 x.m.tool) rfl
        go_cut [97] (fun t97 wx => ∃ B, t97 = .bool B ∧ (∃ n, wx = w6.drewN n) ∧ Hid ((B = false ∧ SP = SP0) ∨ (B = true ∧ ∃ (j : Nat) (y : Pl.Stage), k = j + 1 ∧ T[j]? = some y ∧ SP = max SP0 (y.s.start + y.mx + ma) ∧ Pl.Small 1000 y)))
        case first => as_aux_lemma =>
          by_cases hk0 : k = 0
          · have n0 : ¬ (0 : Int) < (k : Int) := by omega
            have n1 : decide ((k : Int) > 0) = false := by simpa using n0
            have n2N : ¬ 0 < k := by omega
            have n3N : decide (0 < k) = false := decide_eq_false n2N
            have HR := Lib.hid (show SP = SP0 by
              have : o = none := by rw [← Ho.out, if_pos hk0]
              rw [← HSP.out, ← HSP0.out, this]; rfl)
            clear hk0
            go_quiet (fail)
            go_wp2_with fail
            go_meet
            exact ⟨false, rfl, ⟨_, rfl⟩, Lib.hid (.inl ⟨rfl, HR.out⟩)⟩
          · obtain ⟨j, hj⟩ : ∃ j, k = j + 1 := ⟨k - 1, by omega⟩
            have hjT : j < T.length := by omega
            have hjS : j < TS.length := by rw [HTL.out]; omega
            have HY := Lib.hid (show T[j] = TS[j] by
              have := HK.out.2.1 j (by omega)
              rw [List.getElem?_eq_getElem hjT, List.getElem?_eq_getElem hjS] at this
              exact Option.some.inj this)
            have HOy := Lib.hid (show o = some TS[j] by rw [← Ho.out, if_neg hk0, show k - 1 = j by omega, List.getElem?_eq_getElem hjS])
            obtain ⟨⟨-, -, s2, -, -, -⟩, -, -⟩ := HK.out.2.2.2.cells hjT
            have HSy := Lib.hid (HTF.out.s TS[j] (List.getElem_mem hjS))
            have HTj := Lib.hid (show T[j]? = some TS[j] by rw [List.getElem?_eq_getElem hjT, HY.out])
            rw [HY.out] at s2
            obtain ⟨y, hy⟩ : ∃ y, TS[j] = y := ⟨_, rfl⟩
            rw [hy] at s2 HOy HSy HTj
            clear hy HY
            have s2 := cell_below HB6.out s2
            have n0 : (0 : Int) < (k : Int) := by omega
            have n1 : decide ((k : Int) > 0) = true := by simpa using n0
            have n2N : 0 < k := by omega
            have n3N : decide (0 < k) = true := decide_eq_true n2N
            have j0 : (0 : Int) ≤ (j : Int) := by omega
            have j1 : (j : Int) < (T.length : Int) := by omega
            have j2 : ((j : Int)).toNat = j := by omega
            have e2 : IntKind.i64.wrap ((k : Int) - 1) = (j : Int) := by rw [show (k : Int) - 1 = (j : Int) by omega]; exact IntWalk.i64_in _ (by omega)
            have HJ := Lib.hid hj
            clear hk0 hj
            by_cases hto : y.m.tool = x.m.tool
            · have n2 : (y.m.tool == x.m.tool) = true := by simp [hto]
              have HR := Lib.hid (show SP = max SP0 (y.s.start + y.mx + ma) by rw [← HSP.out, HOy.out]; simp only [Pl.tSpare]; rw [if_pos hto, HSP0.out])
              clear hto
              go_quiet (fail)
              go_wp2_with fail
              go_meet
              exact ⟨true, rfl, ⟨_, rfl⟩, Lib.hid (.inr ⟨rfl, j, y, HJ.out, HTj.out, HR.out, HSy.out⟩)⟩
            · have n2 : (y.m.tool == x.m.tool) = false := by simp [hto]
              have HR := Lib.hid (show SP = SP0 by rw [← HSP.out, HOy.out]; simp only [Pl.tSpare]; rw [if_neg hto, HSP0.out])
              clear hto
              go_quiet (fail)
              go_wp2_with fail
              go_meet
              exact ⟨false, rfl, ⟨_, rfl⟩, Lib.hid (.inl ⟨rfl, HR.out⟩)⟩
        case rest =>
        obtain ⟨B, rfl, ⟨nq, rfl⟩, HD⟩ := hcut
        have HDr := Lib.hid (below_drewN (Below.refl w6.heap.size w6) nq)
        have HB7 := Lib.hid (HB6.out.trans (HDr.out.mono HB6.out.size))
        have X7 := Lib.hid (box_below X6.out HDr.out)
        clear HDr HB6 X6 P6 d3 x2
        generalize w6.drewN nq = w7 at *
        rcases HD.out with ⟨rfl, hsp⟩ | ⟨rfl, j, y, hj, hTj, hsp, hsm⟩
        · as_aux_lemma =>
          rw [hsp] at HTs
          clear hsp
          have P9 := Lib.hid (box_below HK.out.2.2.2.pb HB7.out)
          have d3 := box_cell P9.out 3 (.slice (some ⟨g, 0, none⟩) T.length sc) rfl
          have x0 := box_cell X7.out 0 (.int .i64 x.mn) rfl
          have x1 := box_cell X7.out 1 (.int .i64 x.mx) rfl
          have x2 := box_cell X7.out 2 (.int .i64 x.m.tool) rfl
          have x3 := box_cell X7.out 3 (.int .i64 AT) rfl
          have x4 := box_cell X7.out 4 (.int .i64 x.s.tool) rfl
          have x5 := box_cell X7.out 5 (.int .i64 SP0) rfl
          obtain ⟨⟨o0, o1, o2, o3, o4, o5⟩, -, -⟩ := HK.out.2.2.2.cells hkT
          have o0 := cell_below HB7.out o0
          have o1 := cell_below HB7.out o1
          have o2 := cell_below HB7.out o2
          have o3 := cell_below HB7.out o3
          have o4 := cell_below HB7.out o4
          have o5 := cell_below HB7.out o5
          obtain ⟨cs, hg⟩ := own_block HK.out.2.2.2.srow (k := g) rfl
          have hg7 := box_below hg HB7.out
          have z0 := box_fz hg7 (k * 6)
          have z1 := box_fz hg7 (k * 6 + 1)
          have z2 := box_fz hg7 (k * 6 + 2)
          have z3 := box_fz hg7 (k * 6 + 3)
          have z4 := box_fz hg7 (k * 6 + 4)
          have z5 := box_fz hg7 (k * 6 + 5)
          have lg := lt_of_block hg7
          have FIN := Lib.hid ((HK.out.2.2.2.below HB7.out).put hkT ⟨x.mn, x.mx, ⟨x.m.tool, AT⟩, ⟨x.s.tool, SP0⟩⟩)
          generalize T[k] = tk at *
          clear hg hg7 P9 HD X7 HB7
          go_wp2_with fail
          go_roundg (st.length - (k + 1))
          case rel =>
            refine ⟨T.set k ⟨x.mn, x.mx, ⟨x.m.tool, AT⟩, ⟨x.s.tool, SP0⟩⟩, k + 1, by omega, rfl, by go_num, Lib.hid ⟨by rw [List.length_set]; exact HLen.out, fun i hi => ?_, fun i hi => ?_, FIN.out⟩⟩
            · by_cases e : i = k
              · subst e; rw [List.getElem?_set_self hkT]; exact HTs.out.symm
              · rw [List.getElem?_set_ne (fun h => e h.symm)]; exact HK.out.2.1 i (by omega)
            · rw [List.getElem?_set_ne (by omega)]; exact HK.out.2.2.1 i (by omega)
          case measure => omega
        · as_aux_lemma =>
          have HSPm := Lib.hid hsp
          have HSm2 := Lib.hid hsm
          obtain ⟨hjT, hyj⟩ := List.getElem?_eq_some_iff.1 hTj
          obtain ⟨⟨-, s1, -, -, -, s5⟩, -, -⟩ := HK.out.2.2.2.cells hjT
          rw [hyj] at s1 s5
          have s1 := cell_below HB7.out s1; have s5 := cell_below HB7.out s5
          have P7 := Lib.hid (box_below HK.out.2.2.2.pb HB7.out)
          have d2 := box_cell P7.out 2 (.int .i64 ma) rfl
          have d3 := box_cell P7.out 3 (.slice (some ⟨g, 0, none⟩) T.length sc) rfl
          have x5 := box_cell X7.out 5 (.int .i64 SP0) rfl
          have z5 := box_fz X7.out 5
          have lz := lt_of_block X7.out
          have j0 : (0 : Int) ≤ (j : Int) := by omega
          have j1 : (j : Int) < (T.length : Int) := by omega
          have j2 : ((j : Int)).toNat = j := by omega
          have e2 : IntKind.i64.wrap ((k : Int) - 1) = (j : Int) := by rw [show (k : Int) - 1 = (j : Int) by omega]; exact IntWalk.i64_in _ (by omega)
          have q1 := hsm.mn; have q3 := hsm.ss
          have e4 : IntKind.i64.wrap (y.s.start + y.mx) = y.s.start + y.mx := IntWalk.i64_in _ (by omega)
          have e5 : IntKind.i64.wrap (y.s.start + y.mx + ma) = y.s.start + y.mx + ma := IntWalk.i64_in _ (by omega)
          have hng : ¬ nx = g := by have := (HK.out.2.2.2.srow.lt g rfl).2; have := HNx.out; omega
          have hng2 : ¬ g = nx := fun e => hng e.symm
          have HJ := Lib.hid hj
          have X8 := Lib.hid (show ((w7.setCell ⟨nx, 5, none⟩ (.int .i64 SP)).drew).heap[nx]? = some (.cells #[.int .i64 x.mn, .int .i64 x.mx, .int .i64 x.m.tool, .int .i64 AT, .int .i64 x.s.tool, .int .i64 SP] 45) from block_set X7.out (o := 5) _)
          have HB8 := Lib.hid (show Below wr.heap.size wr ((w7.setCell ⟨nx, 5, none⟩ (.int .i64 SP)).drew) from (HB7.out.setCell (p := ⟨nx, 5, none⟩) (Nat.le_of_eq HNx.out) _).drew)
          clear q1 q3 hsp hsm hj hTj hyj
          go_upto_region 17 with (fail)
          go_region
          rw [← HSPm.out]
          generalize (w7.setCell ⟨nx, 5, none⟩ (.int .i64 SP)).drew = w8 at *
          clear s1 s5 d2 d3 x5 z5 lz e2 e4 e5 P7
          have P9 := Lib.hid (box_below HK.out.2.2.2.pb HB8.out)
          have d3 := box_cell P9.out 3 (.slice (some ⟨g, 0, none⟩) T.length sc) rfl
          have x0 := box_cell X8.out 0 (.int .i64 x.mn) rfl
          have x1 := box_cell X8.out 1 (.int .i64 x.mx) rfl
          have x2 := box_cell X8.out 2 (.int .i64 x.m.tool) rfl
          have x3 := box_cell X8.out 3 (.int .i64 AT) rfl
          have x4 := box_cell X8.out 4 (.int .i64 x.s.tool) rfl
          have x5 := box_cell X8.out 5 (.int .i64 SP) rfl
          obtain ⟨⟨o0, o1, o2, o3, o4, o5⟩, -, -⟩ := HK.out.2.2.2.cells hkT
          have o0 := cell_below HB8.out o0
          have o1 := cell_below HB8.out o1
          have o2 := cell_below HB8.out o2
          have o3 := cell_below HB8.out o3
          have o4 := cell_below HB8.out o4
          have o5 := cell_below HB8.out o5
          obtain ⟨cs, hg⟩ := own_block HK.out.2.2.2.srow (k := g) rfl
          have hg7 := box_below hg HB8.out
          have z0 := box_fz hg7 (k * 6)
          have z1 := box_fz hg7 (k * 6 + 1)
          have z2 := box_fz hg7 (k * 6 + 2)
          have z3 := box_fz hg7 (k * 6 + 3)
          have z4 := box_fz hg7 (k * 6 + 4)
          have z5 := box_fz hg7 (k * 6 + 5)
          have lg := lt_of_block hg7
          have FIN := Lib.hid ((HK.out.2.2.2.below HB8.out).put hkT ⟨x.mn, x.mx, ⟨x.m.tool, AT⟩, ⟨x.s.tool, SP⟩⟩)
          generalize T[k] = tk at *
          clear hg hg7 P9 HD X7 HB7
          go_wp2_with fail
          go_roundg (st.length - (k + 1))
          case rel =>
            refine ⟨T.set k ⟨x.mn, x.mx, ⟨x.m.tool, AT⟩, ⟨x.s.tool, SP⟩⟩, k + 1, by omega, rfl, by go_num, Lib.hid ⟨by rw [List.length_set]; exact HLen.out, fun i hi => ?_, fun i hi => ?_, FIN.out⟩⟩
            · by_cases e : i = k
              · subst e; rw [List.getElem?_set_self hkT]; exact HTs.out.symm
              · rw [List.getElem?_set_ne (fun h => e h.symm)]; exact HK.out.2.1 i (by omega)
            · rw [List.getElem?_set_ne (by omega)]; exact HK.out.2.2.1 i (by omega)
          case measure => omega
      · have hkn : k = st.length := by omega
        have HTT := Lib.hid (show T = TS from by
          apply List.ext_getElem?
          intro i
          by_cases hi : i < k
          · exact HK.out.2.1 i hi
          · rw [List.getElem?_eq_none (by rw [HLen.out]; omega), List.getElem?_eq_none (by rw [HTL.out]; omega)])
        have M2 := Lib.hid HK.out.2.2.2
        rw [HTT.out] at M2 d3 HLen
        have i5 : ¬ (k : Int) < (TS.length : Int) := by have := HTL.out; omega
        clear HK HTT hkn hlt
        have d4 := box_cell M2.out.pb 4 (.slice wa wn.length wc) rfl
        go_wp2_with fail
        rename World => wo
        clear d3 d4 i5
        go_loopg [10] wn.length (fun gg iv wr => ∃ (V : List Pl.Win) (k : Nat), k ≤ wn.length ∧ gg = wn.length - k ∧ iv = .int .i64 (k : Int) ∧ Hid (V.length = wn.length ∧ (∀ j, j < k → V[j]? = (wn.map (Pl.tightW TS))[j]?) ∧ (∀ j, k ≤ j → V[j]? = wn[j]?) ∧ Md9 w bx ⟨⟨en, mi, ma, TS, V⟩, some ⟨g, 0, none⟩, sc, wa, wc⟩ wr))
        case atStart => exact ⟨wn, 0, by omega, by omega, rfl, Lib.hid ⟨rfl, fun j hj => absurd hj (Nat.not_lt_zero j), fun _ _ => rfl, M2.out⟩⟩
        case round =>
          obtain ⟨V, q, hq, rfl, rfl, HQ⟩ := hrel
          rename World => wr
          clear M2
          have HVL := Lib.hid HQ.out.1
          have d4 := box_cell HQ.out.2.2.2.pb 4 (.slice wa V.length wc) rfl
          have i1 : (0 : Int) ≤ (q : Int) := by omega
          have hw20 : wn.length ≤ 20 := HF.out.v.wlen
          by_cases hlt : q < wn.length
          · as_aux_lemma =>
            have hqV : q < V.length := by rw [HVL.out]; exact hlt
            obtain ⟨a2, c2, e2, -, -, h2⟩ := own_slice HQ.out.2.2.2.wrow
            injection e2 with e2 _ e3
            subst e2; subst e3
            obtain ⟨gw, rfl, -, -⟩ := h2 (show 0 < V.length by omega)
            clear h2
            have i2 : (q : Int) < (V.length : Int) := by omega
            have i4 : ((q : Int)).toNat = q := by omega
            have HX := Lib.hid (show V[q] = wn[q] by
              have := HQ.out.2.2.1 q (Nat.le_refl q)
              rw [List.getElem?_eq_getElem hqV, List.getElem?_eq_getElem hlt] at this
              exact Option.some.inj this)
            obtain ⟨⟨s0, s1, s2⟩, -, -⟩ := HQ.out.2.2.2.wcells hqV
            have HOk := Lib.hid (HF.out.v.wn wn[q] (List.getElem_mem hlt))
            have HMp := Lib.hid (show (wn.map (Pl.tightW TS))[q]? = some (Pl.tightW TS wn[q]) by rw [List.getElem?_map, List.getElem?_eq_getElem hlt]; rfl)
            rw [HX.out] at s0 s1 s2
            obtain ⟨u, hu⟩ : ∃ u, wn[q] = u := ⟨_, rfl⟩
            rw [hu] at s0 s1 s2 HOk HMp
            have HU := Lib.hid hu
            clear hu HX
            go_upto_region 23 with (fail)
            have hb3 := below_new wr (.cells #[.int .i64 u.f, .int .i64 u.t, .int .i64 u.lim] 49)
            have X3 := Lib.hid (heap_alloc_new wr (.cells #[.int .i64 u.f, .int .i64 u.t, .int .i64 u.lim] 49))
            have M3 := Lib.hid (HQ.out.2.2.2.below hb3)
            clear hb3 s0 s1 s2 d4
            generalize wr.alloc (.cells #[.int .i64 u.f, .int .i64 u.t, .int .i64 u.lim] 49) = w3 at *
            obtain ⟨nx, hnx⟩ : ∃ nx, wr.heap.size = nx := ⟨_, rfl⟩
            rw [hnx] at X3
            rw [hnx]
            have HNx := Lib.hid hnx
            clear hnx
            have o1 := HOk.out.f; have o2 := HOk.out.ft; have o3 := HOk.out.t; have o4 := HOk.out.l
            obtain ⟨f, hf⟩ := Int.eq_ofNat_of_zero_le o1
            obtain ⟨b, hb⟩ := Int.eq_ofNat_of_zero_le (show 0 ≤ u.t by omega)
            have hbT : b < TS.length := by rw [HTL.out]; simp only at o3; omega
            have hfT : f < TS.length := by omega
            have x0 := box_cell X3.out 0 (.int .i64 u.f) rfl
            have x1 := box_cell X3.out 1 (.int .i64 u.t) rfl
            have x2 := box_cell X3.out 2 (.int .i64 u.lim) rfl
            rw [hf] at x0
            rw [hb] at x1
            obtain ⟨⟨-, -, -, -, -, sB⟩, -, -⟩ := M3.out.cells hbT
            obtain ⟨⟨sF0, -, -, sF3, -, -⟩, -, -⟩ := M3.out.cells hfT
            obtain ⟨⟨-, -, v2⟩, zz, lg⟩ := M3.out.wcells hqV
            have z2 := zz (q * 3 + 2)
            have SB := HTF.out.s TS[b] (List.getElem_mem hbT)
            have SF := HTF.out.s TS[f] (List.getElem_mem hfT)
            have q1 := SB.ss; have q2 := SF.ms; have q3 := SF.mn
            have d3 := box_cell M3.out.pb 3 (.slice (some ⟨g, 0, none⟩) TS.length sc) rfl
            have d4 := box_cell M3.out.pb 4 (.slice (some ⟨gw, 0, none⟩) V.length wc) rfl
            have hmod : 0 ≤ u.lim.tmod 3 ∧ u.lim.tmod 3 < 3 := ⟨Int.tmod_nonneg _ o4.1, Int.tmod_lt_of_pos _ (by omega)⟩
            have HW := Lib.hid (show Pl.tightW TS u = ⟨u.f, u.t, TS[b].s.start - TS[f].m.start - TS[f].mn + u.lim.tmod 3⟩ by
              unfold Pl.tightW
              rw [hb, hf, Int.toNat_natCast, Int.toNat_natCast, List.getD_eq_getElem?_getD, List.getElem?_eq_getElem hbT, List.getD_eq_getElem?_getD, List.getElem?_eq_getElem hfT]
              rfl)
            generalize TS[b].s.start = B5 at *
            generalize TS[f].m.start = F3 at *
            generalize TS[f].mn = F0 at *
            have e1 : IntKind.i64.wrap (B5 - F3) = B5 - F3 := IntWalk.i64_in _ (by omega)
            have e2 : IntKind.i64.wrap (B5 - F3 - F0) = B5 - F3 - F0 := IntWalk.i64_in _ (by omega)
            have e3 : IntKind.i64.wrap (B5 - F3 - F0 + u.lim.tmod 3) = B5 - F3 - F0 + u.lim.tmod 3 := IntWalk.i64_in _ (by omega)
            have b0 : (0 : Int) ≤ (b : Int) := by omega
            have b1 : (b : Int) < (TS.length : Int) := by omega
            have b2 : ((b : Int)).toNat = b := by omega
            have f0 : (0 : Int) ≤ (f : Int) := by omega
            have f1 : (f : Int) < (TS.length : Int) := by omega
            have f2 : ((f : Int)).toNat = f := by omega
            have HOm := Lib.hid o4
            have HVq := Lib.hid (show (Md9 w bx ⟨⟨en, mi, ma, TS, V.set q ⟨u.f, u.t, B5 - F3 - F0 + u.lim.tmod 3⟩⟩, some ⟨g, 0, none⟩, sc, some ⟨gw, 0, none⟩, wc⟩ (w3.setCell ⟨gw, q * 3 + 2, none⟩ (.int .i64 (B5 - F3 - F0 + u.lim.tmod 3)))) from by
              have hvq : V[q] = u := by
                have := HQ.out.2.2.1 q (Nat.le_refl q)
                rw [List.getElem?_eq_getElem hqV, List.getElem?_eq_getElem hlt] at this
                rw [Option.some.inj this]; exact HU.out
              exact M3.out.win hqV (o := 2) (by decide) (by rw [hvq]; rfl))
            clear o1 o2 o3 o4 hf hb SB SF q1 q2 q3 hmod zz
            obtain ⟨cw, hcw⟩ := own_block M3.out.wrow (k := gw) rfl
            obtain ⟨cg, hcg⟩ := own_block M3.out.srow (k := g) rfl
            have nb1 : ¬ gw = bx := ne_of_kind hcw M3.out.pb (by decide)
            have nb2 : ¬ gw = nx := fun e => by have := (HQ.out.2.2.2.wrow.lt gw rfl).2; have := HNx.out; omega
            have nb3 : ¬ gw = g := ne_of_kind hcw hcg (by decide)
            have nb4 : ¬ bx = gw := fun e => nb1 e.symm
            have nb5 : ¬ nx = gw := fun e => nb2 e.symm
            have nb6 : ¬ g = gw := fun e => nb3 e.symm
            clear hcw hcg
            go_region_held3 (fun v => v.cell? ⟨bx, 3, none⟩ = some (.slice (some ⟨g, 0, none⟩) TS.length sc) ∧ v.cell? ⟨bx, 4, none⟩ = some (.slice (some ⟨gw, 0, none⟩) V.length wc) ∧ v.cell? ⟨nx, 0, none⟩ = some (.int .i64 (f : Int)) ∧ v.cell? ⟨nx, 1, none⟩ = some (.int .i64 (b : Int)) ∧ v.cell? ⟨nx, 2, none⟩ = some (.int .i64 u.lim) ∧ v.cell? ⟨g, b * 6 + 5, none⟩ = some (.int .i64 B5) ∧ v.cell? ⟨g, f * 6 + 3, none⟩ = some (.int .i64 F3) ∧ v.cell? ⟨g, f * 6, none⟩ = some (.int .i64 F0)) (first | exact ⟨d3, d4, x0, x1, x2, sB, sF3, sF0⟩ | go_keep) (fail)
            have HV9 := Lib.hid (HVq.out.below (Below.refl _ _).drew)
            clear HVq nb1 nb2 nb3 nb4 nb5 nb6 d3 d4 x0 x1 x2 sB sF3 sF0 v2 z2 lg M3 X3 e1 e2 e3
            generalize (w3.setCell ⟨gw, q * 3 + 2, none⟩ (.int .i64 (B5 - F3 - F0 + u.lim.tmod 3))).drew = w5 at *
            go_wp2_with fail
            go_roundg (wn.length - (q + 1))
            case rel =>
              refine ⟨V.set q ⟨u.f, u.t, B5 - F3 - F0 + u.lim.tmod 3⟩, q + 1, by omega, rfl, by go_num, Lib.hid ⟨by rw [List.length_set]; exact HVL.out, fun i hi => ?_, fun i hi => ?_, HV9.out⟩⟩
              · by_cases e : i = q
                · subst e; rw [List.getElem?_set_self hqV, HMp.out, HW.out]
                · rw [List.getElem?_set_ne (fun h => e h.symm)]; exact HQ.out.2.1 i (by omega)
              · rw [List.getElem?_set_ne (by omega)]; exact HQ.out.2.2.1 i (by omega)
            case measure => omega
          · have i5 : ¬ (q : Int) < (V.length : Int) := by have := HVL.out; omega
            have HVV : wn.map (Pl.tightW TS) = V := by
              apply List.ext_getElem?
              intro i
              by_cases hi : i < q
              · exact (HQ.out.2.1 i hi).symm
              · rw [List.getElem?_eq_none (by rw [List.length_map]; omega), List.getElem?_eq_none (by rw [HVL.out]; omega)]
            rw [HVV] at HMd
            have M9 := Lib.hid HQ.out.2.2.2
            clear HQ HVV
            go_upto_region 24 with (fail)
            clear d4 i5
            have r0 := box_cell M9.out.rb 0 (.int .i64 0) rfl
            have r1 := box_cell M9.out.rb 1 (.int .i64 0) rfl
            have r2 := box_cell M9.out.rb 2 (.int .i64 0) rfl
            have r3 := box_cell M9.out.rb 3 (.slice none 0 0) rfl
            have r4 := box_cell M9.out.rb 4 (.slice none 0 0) rfl
            have c0 := box_cell M9.out.pb 0 (.int .i64 en) rfl
            have c1 := box_cell M9.out.pb 1 (.int .i64 mi) rfl
            have c2 := box_cell M9.out.pb 2 (.int .i64 ma) rfl
            have c3 := box_cell M9.out.pb 3 (.slice (some ⟨g, 0, none⟩) TS.length sc) rfl
            have c4 := box_cell M9.out.pb 4 (.slice wa V.length wc) rfl
            have z := fun k => box_fz M9.out.rb k
            have z0 := z 0; have z1 := z 1; have z2 := z 2; have z3 := z 3; have z4 := z 4
            have hlr := lt_of_block M9.out.rb
            obtain ⟨D1, D2⟩ := M9.out.done
            have D1 := Lib.hid D1; have D2 := Lib.hid D2
            clear z M9
            go_wp2_with fail
            clear r0 r1 r2 r3 r4 c0 c1 c2 c3 c4 z0 z1 z2 z3 z4 hlr
            generalize (((((wr).setCell ⟨w.heap.size, 0, none⟩ (.int .i64 en)).setCell ⟨w.heap.size, 1, none⟩ (.int .i64 mi)).setCell ⟨w.heap.size, 2, none⟩ (.int .i64 ma)).setCell ⟨w.heap.size, 3, none⟩ (.slice (some ⟨g, 0, none⟩) TS.length sc)).setCell ⟨w.heap.size, 4, none⟩ (.slice wa V.length wc) = we at *
            have r0 := box_cell D1.out 0 (.int .i64 en) rfl
            have r1 := box_cell D1.out 1 (.int .i64 mi) rfl
            have r2 := box_cell D1.out 2 (.int .i64 ma) rfl
            have r3 := box_cell D1.out 3 (.slice (some ⟨g, 0, none⟩) TS.length sc) rfl
            have r4 := box_cell D1.out 4 (.slice wa V.length wc) rfl
            refine bodyPost_ret (v := PlanP.val ⟨⟨en, mi, ma, TS, V⟩, (some ⟨g, 0, none⟩), sc, wa, wc⟩) (by simp [results, Tryd.results11, go_sem, r0, r1, r2, r3, r4]) rfl ?_
            show Made9Post X true w _ _
            unfold Made9Post
            rw [HMd.out]
            exact ⟨_, _, _, _, rfl, D2.out.1, D2.out.2.1, D2.out.2.2⟩
end Go.Proofs.YtihohjgjklcnlaaDoor
