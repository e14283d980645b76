/-
  What the reference's Made keeps in memory.
-/
import Derived.Test.YtngpkipblcihaaaPk
import Derived.Deep.AppendLies
namespace Go.Proofs.Ytngpkipblcihaaa
open Go.RowKit

abbrev zeroPlan : Obj := .cells #[.int .i64 0, .int .i64 0, .int .i64 0, .slice none 0 0, .slice none 0 0] 28
/-- A plan that is built: its box is the second block behind w0, the result's box the first. -/
structure MkM (w0 : World) (q : PlanP) (w : World) : Prop where
  rb : w.heap[w0.heap.size]? = some zeroPlan
  pb : w.heap[w0.heap.size + 1]? = some (planObj q)
  srow : StO w w0.heap.size (.slice q.sa q.p.st.length q.sc) q.p.st
  wrow : WnO w w0.heap.size (.slice q.wa q.p.wn.length q.wc) q.p.wn
  bel : Below w0.heap.size w0 w
theorem MkM.ok {w0 w : World} {q : PlanP} (h : MkM w0 q w) : q.ok w := by
  obtain ⟨a, c, e, h1, -⟩ := h.srow.arg stage_len
  injection e with e1 _ e2
  obtain ⟨a', c', e', h1', -⟩ := h.wrow.arg win_len
  injection e' with e3 _ e4
  exact ⟨by rw [e1, e2]; exact h1, by rw [e3, e4]; exact h1'⟩
theorem MkM.below {w0 w w' : World} {q : PlanP} (h : MkM w0 q w) (hb : Below w.heap.size w w') : MkM w0 q w' :=
  ⟨box_below h.rb hb, box_below h.pb hb, h.srow.below hb, h.wrow.below hb, below_step h.bel hb⟩
theorem MkM.size {w0 w : World} {q : PlanP} (h : MkM w0 q w) : w0.heap.size + 1 < w.heap.size := lt_of_block h.pb
/-- A box of the call's own is written that is none of the plan's blocks. -/
theorem MkM.other {w0 w : World} {q : PlanP} (h : MkM w0 q w) {S : Nat} (hS : w0.heap.size + 1 < S) (h1 : ∀ b, (Value.slice q.sa q.p.st.length q.sc).ownBlock = some b → b ≠ S) (h2 : ∀ b, (Value.slice q.wa q.p.wn.length q.wc).ownBlock = some b → b ≠ S) (o : Nat) (u : Value) :
    MkM w0 q (w.setCell ⟨S, o, none⟩ u) := by
  have hc : Ch (fun k => k = S) w (w.setCell ⟨S, o, none⟩ u) := Ch.grown (grown_set (w := w) S o u) (fun k hk => by injection hk with hk; exact hk.symm)
  exact ⟨(hc.block _ (lt_of_block h.rb) (by omega)).trans h.rb, (hc.block _ (lt_of_block h.pb) (by omega)).trans h.pb, own_ch h.srow hc (fun k hk => h1 k hk), own_ch h.wrow hc (fun k hk => h2 k hk), h.bel.setCell (p := ⟨S, o, none⟩) (by show w0.heap.size ≤ S; omega) u⟩
theorem plan_ne {w0 w : World} {q : PlanP} (h : MkM w0 q w) : (∀ b, (Value.slice q.sa q.p.st.length q.sc).ownBlock = some b → b ≠ w0.heap.size + 1 ∧ b < w.heap.size) ∧ (∀ b, (Value.slice q.wa q.p.wn.length q.wc).ownBlock = some b → b ≠ w0.heap.size + 1 ∧ b < w.heap.size) := by
  refine ⟨fun b hb => ?_, fun b hb => ?_⟩
  · obtain ⟨cs, hcs⟩ := own_block h.srow hb
    exact ⟨ne_of_kind hcs h.pb (by decide), lt_of_block hcs⟩
  · obtain ⟨cs, hcs⟩ := own_block h.wrow hb
    exact ⟨ne_of_kind hcs h.pb (by decide), lt_of_block hcs⟩
/-- A number of the plan is written. -/
theorem MkM.num {w0 w : World} {en mi ma : Int} {st : List Pl.Stage} {wn : List Pl.Win} {sa wa : Option Addr} {sc wc : Nat} (h : MkM w0 ⟨⟨en, mi, ma, st, wn⟩, sa, sc, wa, wc⟩ w) {en' mi' ma' : Int} {o : Nat} {u : Int}
    (hu : (#[.int .i64 en, .int .i64 mi, .int .i64 ma, .slice sa st.length sc, .slice wa wn.length wc] : Array Value).setIfInBounds o (.int .i64 u) = #[.int .i64 en', .int .i64 mi', .int .i64 ma', .slice sa st.length sc, .slice wa wn.length wc]) :
    MkM w0 ⟨⟨en', mi', ma', st, wn⟩, sa, sc, wa, wc⟩ (w.setCell ⟨w0.heap.size + 1, o, none⟩ (.int .i64 u)) := by
  have hc : Ch (fun k => k = w0.heap.size + 1) w (w.setCell ⟨w0.heap.size + 1, o, none⟩ (.int .i64 u)) := Ch.grown (grown_set (w := w) _ o _) (fun k hk => by injection hk with hk; exact hk.symm)
  have hne := plan_ne h
  refine ⟨(hc.block _ (lt_of_block h.rb) (by omega)).trans h.rb, ?_, own_ch h.srow hc (fun k hk => (hne.1 k hk).1), own_ch h.wrow hc (fun k hk => (hne.2 k hk).1), h.bel.setCell (p := ⟨w0.heap.size + 1, o, none⟩) (by show w0.heap.size ≤ w0.heap.size + 1; omega) _⟩
  rw [block_set h.pb, hu]
/-- A stage is appended. -/
theorem MkM.stage {w0 w wA w3 : World} {en mi ma : Int} {st : List Pl.Stage} {sa : Option Addr} {sc : Nat} (h : MkM w0 ⟨⟨en, mi, ma, st, []⟩, sa, sc, none, 0⟩ w) (x : Pl.Stage) {a' : Option Addr} {c' : Nat} (hA : Below w.heap.size w wA)
    (hown : w3.ownsRow w0.heap.size 45 6 (.slice a' (st.length + 1) c') (st.length + 1) (st.flatMap stageCells ++ stageCells x)) (hg : wA.grownBy w3 (Value.slice sa st.length sc).ownBlock) :
    MkM w0 ⟨⟨en, mi, ma, st ++ [x], []⟩, a', c', none, 0⟩ (w3.setCell ⟨w0.heap.size + 1, 3, none⟩ (.slice a' (st.length + 1) c')) ∧ w3.heap[w0.heap.size + 1]? = some (planObj ⟨⟨en, mi, ma, st, []⟩, sa, sc, none, 0⟩) := by
  have hA' := h.below hA
  have hne := plan_ne hA'
  have hr : StO w3 w0.heap.size (.slice a' (st ++ [x]).length c') (st ++ [x]) := by rw [List.length_append]; exact RowO.snoc hown
  have hp3 : w3.heap[w0.heap.size + 1]? = some (planObj ⟨⟨en, mi, ma, st, []⟩, sa, sc, none, 0⟩) := (hg.block _ (lt_of_block hA'.pb) (fun e => (hne.1 _ e.symm).1 rfl)).trans hA'.pb
  have hr3 : w3.heap[w0.heap.size]? = some zeroPlan := by
    refine (hg.block _ (lt_of_block hA'.rb) (fun e => ?_)).trans hA'.rb
    obtain ⟨cs, hcs⟩ := own_block hA'.srow e.symm
    exact ne_of_kind hcs hA'.rb (by decide) rfl
  have hc : Ch (fun k => k = w0.heap.size + 1) w3 (w3.setCell ⟨w0.heap.size + 1, 3, none⟩ (.slice a' (st.length + 1) c')) := Ch.grown (grown_set (w := w3) _ 3 _) (fun k hk => by injection hk with hk; exact hk.symm)
  refine ⟨⟨(hc.block _ (lt_of_block hr3) (by omega)).trans hr3, ?_, own_ch hr hc (fun k hk e => ?_), RowO.nil _ _ _ _ _, ?_⟩, hp3⟩
  · rw [block_set hp3]; simp
  · obtain ⟨cs, hcs⟩ := own_block hr hk
    exact ne_of_kind hcs hp3 (by decide) e
  · exact (hA'.bel.grown hg hA'.bel.size (fun b hb => (hA'.srow.lt b hb).1)).setCell (p := ⟨w0.heap.size + 1, 3, none⟩) (by show w0.heap.size ≤ w0.heap.size + 1; omega) _
/-- A window is appended. -/
theorem MkM.win {w0 w wA w3 : World} {en mi ma : Int} {st : List Pl.Stage} {wn : List Pl.Win} {sa wa : Option Addr} {sc wc : Nat} (h : MkM w0 ⟨⟨en, mi, ma, st, wn⟩, sa, sc, wa, wc⟩ w) (x : Pl.Win) {a' : Option Addr} {c' : Nat} (hA : Below w.heap.size w wA)
    (hown : w3.ownsRow w0.heap.size 47 3 (.slice a' (wn.length + 1) c') (wn.length + 1) (wn.flatMap winCells ++ winCells x)) (hg : wA.grownBy w3 (Value.slice wa wn.length wc).ownBlock) :
    MkM w0 ⟨⟨en, mi, ma, st, wn ++ [x]⟩, sa, sc, a', c'⟩ (w3.setCell ⟨w0.heap.size + 1, 4, none⟩ (.slice a' (wn.length + 1) c')) ∧ w3.heap[w0.heap.size + 1]? = some (planObj ⟨⟨en, mi, ma, st, wn⟩, sa, sc, wa, wc⟩) := by
  have hA' := h.below hA
  have hne := plan_ne hA'
  have hr : WnO w3 w0.heap.size (.slice a' (wn ++ [x]).length c') (wn ++ [x]) := by rw [List.length_append]; exact RowO.snoc hown
  have hp3 : w3.heap[w0.heap.size + 1]? = some (planObj ⟨⟨en, mi, ma, st, wn⟩, sa, sc, wa, wc⟩) := (hg.block _ (lt_of_block hA'.pb) (fun e => (hne.2 _ e.symm).1 rfl)).trans hA'.pb
  have hr3 : w3.heap[w0.heap.size]? = some zeroPlan := by
    refine (hg.block _ (lt_of_block hA'.rb) (fun e => ?_)).trans hA'.rb
    obtain ⟨cs, hcs⟩ := own_block hA'.wrow e.symm
    exact ne_of_kind hcs hA'.rb (by decide) rfl
  have hs3 : StO w3 w0.heap.size (.slice sa st.length sc) st := by
    refine own_ch hA'.srow (Ch.grown hg (S := fun k => (Value.slice wa wn.length wc).ownBlock = some k) (fun k hk => hk)) (fun k hk e => ?_)
    obtain ⟨cs, hcs⟩ := own_block hA'.srow hk
    obtain ⟨ds, hds⟩ := own_block hA'.wrow e
    exact ne_of_kind hcs hds (by decide) rfl
  have hc : Ch (fun k => k = w0.heap.size + 1) w3 (w3.setCell ⟨w0.heap.size + 1, 4, none⟩ (.slice a' (wn.length + 1) c')) := Ch.grown (grown_set (w := w3) _ 4 _) (fun k hk => by injection hk with hk; exact hk.symm)
  refine ⟨⟨(hc.block _ (lt_of_block hr3) (by omega)).trans hr3, ?_, own_ch hs3 hc (fun k hk e => ?_), own_ch hr hc (fun k hk e => ?_), ?_⟩, hp3⟩
  · rw [block_set hp3]; simp
  · obtain ⟨cs, hcs⟩ := own_block hs3 hk
    exact ne_of_kind hcs hp3 (by decide) e
  · obtain ⟨cs, hcs⟩ := own_block hr hk
    exact ne_of_kind hcs hp3 (by decide) e
  · exact (hA'.bel.grown hg hA'.bel.size (fun b hb => (hA'.wrow.lt b hb).1)).setCell (p := ⟨w0.heap.size + 1, 4, none⟩) (by show w0.heap.size ≤ w0.heap.size + 1; omega) _
/-- The plan is copied into the result's box. -/
theorem MkM.done {w0 w : World} {en mi ma : Int} {st : List Pl.Stage} {wn : List Pl.Win} {sa wa : Option Addr} {sc wc : Nat} (h : MkM w0 ⟨⟨en, mi, ma, st, wn⟩, sa, sc, wa, wc⟩ w) :
    (StO (((((w.setCell ⟨w0.heap.size, 0, none⟩ (.int .i64 en)).setCell ⟨w0.heap.size, 1, none⟩ (.int .i64 mi)).setCell ⟨w0.heap.size, 2, none⟩ (.int .i64 ma)).setCell ⟨w0.heap.size, 3, none⟩ (.slice sa st.length sc)).setCell ⟨w0.heap.size, 4, none⟩ (.slice wa wn.length wc)) w0.heap.size (.slice sa st.length sc) st ∧
      WnO (((((w.setCell ⟨w0.heap.size, 0, none⟩ (.int .i64 en)).setCell ⟨w0.heap.size, 1, none⟩ (.int .i64 mi)).setCell ⟨w0.heap.size, 2, none⟩ (.int .i64 ma)).setCell ⟨w0.heap.size, 3, none⟩ (.slice sa st.length sc)).setCell ⟨w0.heap.size, 4, none⟩ (.slice wa wn.length wc)) w0.heap.size (.slice wa wn.length wc) wn ∧
      Below w0.heap.size w0 (((((w.setCell ⟨w0.heap.size, 0, none⟩ (.int .i64 en)).setCell ⟨w0.heap.size, 1, none⟩ (.int .i64 mi)).setCell ⟨w0.heap.size, 2, none⟩ (.int .i64 ma)).setCell ⟨w0.heap.size, 3, none⟩ (.slice sa st.length sc)).setCell ⟨w0.heap.size, 4, none⟩ (.slice wa wn.length wc))) ∧
    (((((w.setCell ⟨w0.heap.size, 0, none⟩ (.int .i64 en)).setCell ⟨w0.heap.size, 1, none⟩ (.int .i64 mi)).setCell ⟨w0.heap.size, 2, none⟩ (.int .i64 ma)).setCell ⟨w0.heap.size, 3, none⟩ (.slice sa st.length sc)).setCell ⟨w0.heap.size, 4, none⟩ (.slice wa wn.length wc)).heap[w0.heap.size]? = some (.cells #[.int .i64 en, .int .i64 mi, .int .i64 ma, .slice sa st.length sc, .slice wa wn.length wc] 28) := by
  have one : ∀ (v : World) (o : Nat) (u : Value), Ch (fun k => k = w0.heap.size) v (v.setCell ⟨w0.heap.size, o, none⟩ u) := fun v o u => Ch.grown (grown_set (w := v) _ o _) (fun k hk => by injection hk with hk; exact hk.symm)
  have hc := ((((one w 0 (.int .i64 en)).trans (one _ 1 (.int .i64 mi)) (fun _ _ h => h)).trans (one _ 2 (.int .i64 ma)) (fun _ _ h => h)).trans (one _ 3 (.slice sa st.length sc)) (fun _ _ h => h)).trans (one _ 4 (.slice wa wn.length wc)) (fun _ _ h => h)
  refine ⟨⟨own_ch h.srow hc (fun k hk e => ?_), own_ch h.wrow hc (fun k hk e => ?_), ?_⟩, ?_⟩
  · obtain ⟨cs, hcs⟩ := own_block h.srow hk
    exact ne_of_kind hcs h.rb (by decide) e
  · obtain ⟨cs, hcs⟩ := own_block h.wrow hk
    exact ne_of_kind hcs h.rb (by decide) e
  · have up : ∀ (v : World) (o : Nat) (u : Value), Below w0.heap.size w0 v → Below w0.heap.size w0 (v.setCell ⟨w0.heap.size, o, none⟩ u) := fun v o u hv => hv.setCell (p := ⟨w0.heap.size, o, none⟩) (Nat.le_refl _) u
    exact up _ _ _ (up _ _ _ (up _ _ _ (up _ _ _ (up _ _ _ h.bel))))
  · rw [block_set (block_set (block_set (block_set (block_set h.rb (o := 0) (.int .i64 en)) (o := 1) (.int .i64 mi)) (o := 2) (.int .i64 ma)) (o := 3) (.slice sa st.length sc)) (o := 4) (.slice wa wn.length wc)]; rfl
/-- A box beside the plan. -/
structure Fil (w0 : World) (q : PlanP) (S : Nat) (cs : Array Value) (t : TypeId) (w : World) : Prop where
  m : MkM w0 q w
  box : w.heap[S]? = some (.cells cs t)
  hi : w0.heap.size + 1 < S
  s : ∀ b, (Value.slice q.sa q.p.st.length q.sc).ownBlock = some b → b ≠ S
  w : ∀ b, (Value.slice q.wa q.p.wn.length q.wc).ownBlock = some b → b ≠ S
theorem Fil.below {w0 : World} {q : PlanP} {S : Nat} {cs : Array Value} {t : TypeId} {w w' : World} (h : Fil w0 q S cs t w) (hb : Below w.heap.size w w') : Fil w0 q S cs t w' := ⟨h.m.below hb, box_below h.box hb, h.hi, h.s, h.w⟩
theorem Fil.new {w0 : World} {q : PlanP} {w : World} (h : MkM w0 q w) (cs : Array Value) (t : TypeId) : Fil w0 q w.heap.size cs t (w.alloc (.cells cs t)) :=
  ⟨h.below (below_new _ _), heap_alloc_new _ _, h.size, fun b hb => Nat.ne_of_lt ((plan_ne h).1 b hb).2, fun b hb => Nat.ne_of_lt ((plan_ne h).2 b hb).2⟩
theorem Fil.set {w0 : World} {q : PlanP} {S : Nat} {cs : Array Value} {t : TypeId} {w : World} (h : Fil w0 q S cs t w) (o : Nat) (u : Value) : Fil w0 q S (cs.setIfInBounds o u) t (w.setCell ⟨S, o, none⟩ u) :=
  ⟨h.m.other h.hi h.s h.w o u, block_set h.box u, h.hi, h.s, h.w⟩
theorem Fil.drew {w0 : World} {q : PlanP} {S : Nat} {cs : Array Value} {t : TypeId} {w : World} (h : Fil w0 q S cs t w) : Fil w0 q S cs t w.drew := h.below (Below.refl _ _).drew
end Go.Proofs.Ytngpkipblcihaaa
