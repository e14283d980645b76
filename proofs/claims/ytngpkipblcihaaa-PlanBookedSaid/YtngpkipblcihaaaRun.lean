/-
  The contract of Run.
-/
import Derived.Test.YtngpkipblcihaaaRn
import Derived.WalkMore
import Derived.Deep.LoopGhost
namespace Go.Proofs.Ytngpkipblcihaaa
open Go.RowKit

abbrev lateObj (k n : Int) : Obj := .cells #[.int .i64 k, .int .i64 n] 36
/-- What Run answers. -/
def Pl.answer (p : Pl.Plan) (s : Pl.Scen) : Pl.Res × Int := if Pl.possible p s then (Pl.run p s, 0) else (⟨[], 0, 0⟩, 80)
def RunPost (p : Pl.Plan) (s : Pl.Scen) (w : World) (e : Ending) (w' : World) : Prop :=
  ∃ a c, e = .returned (.tuple #[.slice a (Pl.answer p s).1.V.length c, .agg #[.int .i64 (Pl.answer p s).1.kind, .int .i64 (Pl.answer p s).1.num], .int .i64 (Pl.answer p s).2]) ∧ VsO w' w.heap.size (.slice a (Pl.answer p s).1.V.length c) (Pl.answer p s).1.V ∧ Below w.heap.size w w'
theorem info_visit : (Try.prog.info? 41).map (fun i => (i.zero, i.size, i.bytes)) = some (some (.agg #[.int .i64 0, .int .i64 0, .int .i64 0, .int .i64 0]), 4, 32) := by kernel_rfl
set_option maxRecDepth 100000 in
set_option maxHeartbeats 2000000 in
theorem Run_no (q : PlanP) (r : ScenP) (w : World) (h : q.ok w) (hr : r.ok w) (hp : Pl.possible q.p r.s = false) : Calls Try.prog 14 #[q.val, r.val] w (RunPost q.p r.s w) := by
  have HP := Lib.hid (fun v (hv : Below w.heap.size w v) => Possible_any q r v (h.below hv) (hr.below hv))
  rw [hp] at HP
  have HA := Lib.hid (show Pl.answer q.p r.s = (⟨[], 0, 0⟩, 80) by unfold Pl.answer; rw [hp]; rfl)
  have HG := Lib.hid (below_step (below_step (below_new w (planObj q)) (below_new _ (scenObj r))) (below_new _ (lateObj 0 0)))
  have hn3 : (((w.alloc (planObj q)).alloc (scenObj r)).alloc (lateObj 0 0)).heap[w.heap.size + 1 + 1]? = some (lateObj 0 0) := by
    have := heap_alloc_new ((w.alloc (planObj q)).alloc (scenObj r)) (lateObj 0 0)
    rw [show ((w.alloc (planObj q)).alloc (scenObj r)).heap.size = w.heap.size + 1 + 1 by simp] at this; exact this
  have hn1 : (((w.alloc (planObj q)).alloc (scenObj r)).alloc (lateObj 0 0)).heap[w.heap.size]? = some (planObj q) := box_below (box_below (heap_alloc_new _ _) (below_new _ _)) (below_new _ _)
  have hn2 : (((w.alloc (planObj q)).alloc (scenObj r)).alloc (lateObj 0 0)).heap[w.heap.size + 1]? = some (scenObj r) := by
    have := heap_alloc_new (w.alloc (planObj q)) (scenObj r)
    rw [show (w.alloc (planObj q)).heap.size = w.heap.size + 1 by simp] at this; exact box_below this (below_new _ _)
  have N1 := Lib.hid hn1; have N2 := Lib.hid hn2; have N3 := Lib.hid hn3
  clear h hr hp hn1 hn2 hn3
  obtain ⟨⟨en, mi, ma, st, wn⟩, sa, sc, wa, wc⟩ := q
  obtain ⟨⟨du, mv, de, to_, at_⟩, da, dc, xa, xc⟩ := r
  dsimp only [planObj, scenObj, lateObj] at N1 N2 N3 HG
  go_enter Try.func14, Try.ntmps14
  go_wp2_with fail
  generalize ((w.alloc (.cells #[.int .i64 en, .int .i64 mi, .int .i64 ma, .slice sa st.length sc, .slice wa wn.length wc] 28)).alloc (.cells #[.slice da du.length dc, .slice xa mv.length xc, .int .i64 de, .int .i64 to_, .int .i64 at_] 32)).alloc (.cells #[.int .i64 0, .int .i64 0] 36) = W at *
  go_step3
  have d0 := box_cell N1.out 0 (.int .i64 en) rfl
  have d1 := box_cell N1.out 1 (.int .i64 mi) rfl
  have d2 := box_cell N1.out 2 (.int .i64 ma) rfl
  have d3 := box_cell N1.out 3 (.slice sa st.length sc) rfl
  have d4 := box_cell N1.out 4 (.slice wa wn.length wc) rfl
  have c0 := box_cell N2.out 0 (.slice da du.length dc) rfl
  have c1 := box_cell N2.out 1 (.slice xa mv.length xc) rfl
  have c2 := box_cell N2.out 2 (.int .i64 de) rfl
  have c3 := box_cell N2.out 3 (.int .i64 to_) rfl
  have c4 := box_cell N2.out 4 (.int .i64 at_) rfl
  go_wp2_with fail
  refine (HP.out _ HG.out).mono ?_; rintro _ w1 ⟨rfl, g1⟩
  clear d0 d1 d2 d3 d4 c0 c1 c2 c3 c4 N1 N2
  have R1 := Lib.hid (box_below N3.out g1); have G1 := Lib.hid (below_step HG.out g1)
  clear g1 N3 HG
  have r0 := box_cell R1.out 0 (.int .i64 0) rfl
  have r1 := box_cell R1.out 1 (.int .i64 0) rfl
  have z0 := box_fz R1.out 0
  have z1 := box_fz R1.out 1
  have hRS := lt_of_block R1.out
  go_wp2_with fail
  have R3 := Lib.hid (block_set (block_set R1.out (o := 0) (.int .i64 0)) (o := 1) (.int .i64 0))
  have G3 := Lib.hid (((G1.out).setCell (p := ⟨w.heap.size + 1 + 1, 0, none⟩) (by show w.heap.size ≤ w.heap.size + 1 + 1; omega) (.int .i64 0)).setCell (p := ⟨w.heap.size + 1 + 1, 1, none⟩) (by show w.heap.size ≤ w.heap.size + 1 + 1; omega) (.int .i64 0))
  clear r0 r1 z0 z1
  generalize (w1.setCell ⟨w.heap.size + 1 + 1, 0, none⟩ (.int .i64 0)).setCell ⟨w.heap.size + 1 + 1, 1, none⟩ (.int .i64 0) = w3 at *
  have r0 := box_cell R3.out 0 (.int .i64 0) rfl
  have r1 := box_cell R3.out 1 (.int .i64 0) rfl
  try rw [Exit.noGoto_ret]
  refine bodyPost_ret (v := .tuple #[.slice none 0 0, .agg #[.int .i64 0, .int .i64 0], .int .i64 80]) (by simp [results, Try.results14, go_sem, r0, r1]) rfl ?_
  unfold RunPost
  rw [HA.out]
  exact ⟨none, 0, rfl, RowO.nil _ _ _ _ _, G3.out⟩
end Go.Proofs.Ytngpkipblcihaaa
