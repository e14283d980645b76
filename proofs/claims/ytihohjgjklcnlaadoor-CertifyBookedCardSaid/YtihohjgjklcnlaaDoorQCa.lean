/-
  The contract of Run where the scenario is possible.
-/
import Derived.Test.YtihohjgjklcnlaaDoorQBe
import Derived.Deep.DeepCutAuto
import Derived.Deep.AppendLies
namespace Go.Proofs.YtihohjgjklcnlaaDoor
open Go.RowKit

set_option maxRecDepth 100000 in
set_option maxHeartbeats 4000000 in
theorem Run_yes (q : PlanP) (r : ScenP) (w : World) (h : q.ok w) (hr : r.ok w) (hp : Pl.possible q.p r.s = true) : Calls Tryd.prog 14 #[q.val, r.val] w (RunPost q.p r.s w) := by
  have HP := Lib.hid (fun v (hv : Below w.heap.size w v) => Possible_any q r v (h.below hv) (hr.below hv))
  rw [hp] at HP
  have HA := Lib.hid (show Pl.answer q.p r.s = (Pl.run q.p r.s, 0) by unfold Pl.answer; rw [hp]; rfl)
  have PO := Lib.hid (Pl.possible_iff.1 hp)
  have HQ := Lib.hid h; have HR := Lib.hid hr
  have HG := Lib.hid (below_step (below_step (below_new w (planObj q)) (below_new _ (scenObj r))) (below_new _ (lateObj 0 0)))
  have hn3 : (((w.alloc (planObj q)).alloc (scenObj r)).alloc (lateObj 0 0)).heap[w.heap.size + 1 + 1]? = some (lateObj 0 0) := by
    have := heap_alloc_new ((w.alloc (planObj q)).alloc (scenObj r)) (lateObj 0 0)
    rw [show ((w.alloc (planObj q)).alloc (scenObj r)).heap.size = w.heap.size + 1 + 1 by simp] at this; exact this
  have hn1 : (((w.alloc (planObj q)).alloc (scenObj r)).alloc (lateObj 0 0)).heap[w.heap.size]? = some (planObj q) := box_below (box_below (heap_alloc_new _ _) (below_new _ _)) (below_new _ _)
  have hn2 : (((w.alloc (planObj q)).alloc (scenObj r)).alloc (lateObj 0 0)).heap[w.heap.size + 1]? = some (scenObj r) := by
    have := heap_alloc_new (w.alloc (planObj q)) (scenObj r)
    rw [show (w.alloc (planObj q)).heap.size = w.heap.size + 1 by simp] at this; exact box_below this (below_new _ _)
  have N1 := Lib.hid hn1; have N2 := Lib.hid hn2; have N3 := Lib.hid hn3
  have ls := h.st.len
  have lw := h.wn.len
  unfold maxLen at ls lw
  clear h hr hp hn1 hn2 hn3
  obtain ⟨⟨en, mi, ma, st, wn⟩, sa, sc, wa, wc⟩ := q
  obtain ⟨⟨du, mv, de, to_, at_⟩, da, dc, xa, xc⟩ := r
  simp only at ls lw
  dsimp only [planObj, scenObj, lateObj] at N1 N2 N3 HG
  go_enter Tryd.func14, Tryd.ntmps14
  go_wp2_with fail
  generalize ((w.alloc (.cells #[.int .i64 en, .int .i64 mi, .int .i64 ma, .slice sa st.length sc, .slice wa wn.length wc] 28)).alloc (.cells #[.slice da du.length dc, .slice xa mv.length xc, .int .i64 de, .int .i64 to_, .int .i64 at_] 32)).alloc (.cells #[.int .i64 0, .int .i64 0] 38) = W at *
  go_step3
  have d0 := box_cell N1.out 0 (.int .i64 en) rfl
  have d1 := box_cell N1.out 1 (.int .i64 mi) rfl
  have d2 := box_cell N1.out 2 (.int .i64 ma) rfl
  have d3 := box_cell N1.out 3 (.slice sa st.length sc) rfl
  have d4 := box_cell N1.out 4 (.slice wa wn.length wc) rfl
  have c0 := box_cell N2.out 0 (.slice da du.length dc) rfl
  have c1 := box_cell N2.out 1 (.slice xa mv.length xc) rfl
  have c2 := box_cell N2.out 2 (.int .i64 de) rfl
  have c3 := box_cell N2.out 3 (.int .i64 to_) rfl
  have c4 := box_cell N2.out 4 (.int .i64 at_) rfl
  go_wp2_with fail
  refine (HP.out _ HG.out).mono ?_; rintro _ w1 ⟨rfl, g1⟩
  have M0 : Hid (RunM ⟨⟨en, mi, ma, st, wn⟩, sa, sc, wa, wc⟩ ⟨⟨du, mv, de, to_, at_⟩, da, dc, xa, xc⟩ w w1.heap.size (w1.heap.size + 1) none 0 [] 0 0 ((w1.alloc (.cells #[.slice none 0 0] 36)).alloc (.cells #[.int .i64 0, .int .i64 0] 38))) := Lib.hid (by
    have hh := below_step (below_new w1 (.cells #[.slice none 0 0] 36)) (below_new (w1.alloc (.cells #[.slice none 0 0] 36)) (lateObj 0 0))
    have q3 := lt_of_block (box_below N3.out g1)
    refine ⟨box_below (box_below N1.out g1) hh, box_below (box_below N2.out g1) hh, box_below (box_below N3.out g1) hh, box_below (heap_alloc_new _ _) (below_new _ _), ?_, RowO.nil _ _ _ _ _, below_step (below_step HG.out g1) hh, (fun x hx => by cases hx), q3, by omega⟩
    have := heap_alloc_new (w1.alloc (.cells #[.slice none 0 0] 36)) (lateObj 0 0)
    rw [show (w1.alloc (.cells #[.slice none 0 0] 36)).heap.size = w1.heap.size + 1 by simp] at this; exact this)
  have hsz := lt_of_block (box_below N3.out g1)
  clear d0 d1 d2 d3 d4 c0 c1 c2 c3 c4 g1 N1 N2 N3 HG HP
  go_upto_region 6 with (fail)
  generalize (w1.alloc (.cells #[.slice none 0 0] 36)).alloc (.cells #[.int .i64 0, .int .i64 0] 38) = wz at *
  clear hsz
  generalize w1.heap.size = n7 at *
  have d0 := box_cell M0.out.pb 0 (.int .i64 en) rfl
  have d3 := box_cell M0.out.pb 3 (.slice sa st.length sc) rfl
  go_wp2_with fail
  go_step3
  go_wp2_with fail
  clear d0 d3
  go_loopg [10, 28] st.length (fun g lv iv wr => ∃ (k : Nat) (t : Int) (a : Option Addr) (c : Nat) (V : List Pl.Visit), k ≤ st.length ∧ g = st.length - k ∧ lv = .int .i64 t ∧ iv = .int .i64 (k : Int) ∧ Hid (RunM ⟨⟨en, mi, ma, st, wn⟩, sa, sc, wa, wc⟩ ⟨⟨du, mv, de, to_, at_⟩, da, dc, xa, xc⟩ w n7 (n7 + 1) a c V 0 0 wr) ∧
      Hid (V.length = k ∧ (0 ≤ t ∧ t ≤ 1010000) ∧ Pl.runFrom wn ⟨du, mv, de, to_, at_⟩ (st.drop k) k t V = Pl.run ⟨en, mi, ma, st, wn⟩ ⟨du, mv, de, to_, at_⟩))
  case atStart => exact ⟨0, en, none, 0, [], by omega, by omega, rfl, rfl, M0, Lib.hid ⟨rfl, by have := PO.out.v.entry; simp only at this; omega, rfl⟩⟩
  case round =>
    obtain ⟨k, t, a, c, V, hk, rfl, rfl, rfl, HM, HV⟩ := hrel
    by_cases hlt : k < st.length
    · obtain ⟨b, off, rfl, hb, hc⟩ := (HQ.out.st.below HM.out.bel).2.2 k hlt
      obtain ⟨c0, c1, c2, c3, c4, c5⟩ := st_cells hc
      have HX := Lib.hid (PO.out.v.st st[k] (List.getElem_mem hlt))
      have HD := Lib.hid (PO.out.dur k hlt)
      have HMv := Lib.hid (PO.out.mv k hlt)
      have HDr := Lib.hid (show st.drop k = st[k] :: st.drop (k + 1) from List.drop_eq_getElem_cons hlt)
      simp only at HD HMv
      clear hc
      generalize st[k] = x at *
      have PB := Lib.hid (show PassOk ⟨du, mv, de, to_, at_⟩ t (mv.getD k 0) (du.getD k 0) by
        have h1 := PO.out.v.mmin; have h2 := PO.out.v.mmax; have h3 := PO.out.det; have h4 := HX.out.mn; have h5 := HX.out.top; have h6 := HD.out; have h7 := HMv.out; have h8 := PO.out.fail; have h9 := HV.out.2.1
        simp only at h1 h2 h3 h6 h7 h8
        exact ⟨by omega, by omega, by omega, by simp only; omega, by simp only; omega⟩)
      go_upto_region 10 with (fail)
      have N12 := Lib.hid (heap_alloc_new wr (stageObj x))
      have HM9 := Lib.hid (HM.out.below (below_new wr (stageObj x)))
      dsimp only [stageObj] at N12 HM9
      clear c0 c1 c2 c3 c4 c5 hb
      generalize wr.alloc (.cells #[.int .i64 x.mn, .int .i64 x.mx, .int .i64 x.m.tool, .int .i64 x.m.start, .int .i64 x.s.tool, .int .i64 x.s.start] 45) = W9 at *
      generalize wr.heap.size = n12 at *
      have C1 := Lib.hid (fun v (hv : Below w.heap.size w v) => passageTo_any ⟨⟨du, mv, de, to_, at_⟩, da, dc, xa, xc⟩ k t v (HR.out.below hv) (by have := PO.out.dlen; simp only at this ⊢; omega) (by have := PO.out.mlen; simp only at this ⊢; omega))
      have C2 := Lib.hid (fun v => slot_any ⟨du, mv, de, to_, at_⟩ t (mv.getD k 0) (du.getD k 0) x v PB.out HX.out)
      have HS9 : Hid (W9.drew.cell? ⟨w.heap.size + 1, 0, none⟩ = some (.slice da du.length dc) ∧ W9.drew.cell? ⟨w.heap.size + 1, 1, none⟩ = some (.slice xa mv.length xc) ∧ W9.drew.cell? ⟨w.heap.size + 1, 2, none⟩ = some (.int .i64 de) ∧ W9.drew.cell? ⟨w.heap.size + 1, 3, none⟩ = some (.int .i64 to_) ∧ W9.drew.cell? ⟨w.heap.size + 1, 4, none⟩ = some (.int .i64 at_) ∧ W9.drew.cell? ⟨n12, 0, none⟩ = some (.int .i64 x.mn) ∧ W9.drew.cell? ⟨n12, 1, none⟩ = some (.int .i64 x.mx) ∧ W9.drew.cell? ⟨n12, 2, none⟩ = some (.int .i64 x.m.tool) ∧ W9.drew.cell? ⟨n12, 3, none⟩ = some (.int .i64 x.m.start) ∧ W9.drew.cell? ⟨n12, 4, none⟩ = some (.int .i64 x.s.tool) ∧ W9.drew.cell? ⟨n12, 5, none⟩ = some (.int .i64 x.s.start) ∧ Below W9.heap.size W9 W9.drew) := Lib.hid (by
        have h1 := HM9.out.sb
        have h2 := N12.out
        exact ⟨box_cell h1 0 _ rfl, box_cell h1 1 _ rfl, box_cell h1 2 _ rfl, box_cell h1 3 _ rfl, box_cell h1 4 _ rfl, box_cell h2 0 _ rfl, box_cell h2 1 _ rfl, box_cell h2 2 _ rfl, box_cell h2 3 _ rfl, box_cell h2 4 _ rfl, box_cell h2 5 _ rfl, (Below.refl _ _).drew⟩)
      have KEEP : Hid (∀ v v' : World, (v.cell? ⟨w.heap.size + 1, 0, none⟩ = some (.slice da du.length dc) ∧ v.cell? ⟨w.heap.size + 1, 1, none⟩ = some (.slice xa mv.length xc) ∧ v.cell? ⟨w.heap.size + 1, 2, none⟩ = some (.int .i64 de) ∧ v.cell? ⟨w.heap.size + 1, 3, none⟩ = some (.int .i64 to_) ∧ v.cell? ⟨w.heap.size + 1, 4, none⟩ = some (.int .i64 at_) ∧ v.cell? ⟨n12, 0, none⟩ = some (.int .i64 x.mn) ∧ v.cell? ⟨n12, 1, none⟩ = some (.int .i64 x.mx) ∧ v.cell? ⟨n12, 2, none⟩ = some (.int .i64 x.m.tool) ∧ v.cell? ⟨n12, 3, none⟩ = some (.int .i64 x.m.start) ∧ v.cell? ⟨n12, 4, none⟩ = some (.int .i64 x.s.tool) ∧ v.cell? ⟨n12, 5, none⟩ = some (.int .i64 x.s.start) ∧ Below W9.heap.size W9 v) → Below v.heap.size v v' → v'.cell? ⟨w.heap.size + 1, 0, none⟩ = some (.slice da du.length dc) ∧ v'.cell? ⟨w.heap.size + 1, 1, none⟩ = some (.slice xa mv.length xc) ∧ v'.cell? ⟨w.heap.size + 1, 2, none⟩ = some (.int .i64 de) ∧ v'.cell? ⟨w.heap.size + 1, 3, none⟩ = some (.int .i64 to_) ∧ v'.cell? ⟨w.heap.size + 1, 4, none⟩ = some (.int .i64 at_) ∧ v'.cell? ⟨n12, 0, none⟩ = some (.int .i64 x.mn) ∧ v'.cell? ⟨n12, 1, none⟩ = some (.int .i64 x.mx) ∧ v'.cell? ⟨n12, 2, none⟩ = some (.int .i64 x.m.tool) ∧ v'.cell? ⟨n12, 3, none⟩ = some (.int .i64 x.m.start) ∧ v'.cell? ⟨n12, 4, none⟩ = some (.int .i64 x.s.tool) ∧ v'.cell? ⟨n12, 5, none⟩ = some (.int .i64 x.s.start) ∧ Below W9.heap.size W9 v') := Lib.hid (fun v v' ⟨h0, h1, h2, h3, h4, h5, h6, h7, h8, h9, hX, hY⟩ hb =>
        ⟨cell_below hb h0, cell_below hb h1, cell_below hb h2, cell_below hb h3, cell_below hb h4, cell_below hb h5, cell_below hb h6, cell_below hb h7, cell_below hb h8, cell_below hb h9, cell_below hb hX, below_step hY hb⟩)
      have KEEPA : Hid (∀ v : World, (v.cell? ⟨w.heap.size + 1, 0, none⟩ = some (.slice da du.length dc) ∧ v.cell? ⟨w.heap.size + 1, 1, none⟩ = some (.slice xa mv.length xc) ∧ v.cell? ⟨w.heap.size + 1, 2, none⟩ = some (.int .i64 de) ∧ v.cell? ⟨w.heap.size + 1, 3, none⟩ = some (.int .i64 to_) ∧ v.cell? ⟨w.heap.size + 1, 4, none⟩ = some (.int .i64 at_) ∧ v.cell? ⟨n12, 0, none⟩ = some (.int .i64 x.mn) ∧ v.cell? ⟨n12, 1, none⟩ = some (.int .i64 x.mx) ∧ v.cell? ⟨n12, 2, none⟩ = some (.int .i64 x.m.tool) ∧ v.cell? ⟨n12, 3, none⟩ = some (.int .i64 x.m.start) ∧ v.cell? ⟨n12, 4, none⟩ = some (.int .i64 x.s.tool) ∧ v.cell? ⟨n12, 5, none⟩ = some (.int .i64 x.s.start) ∧ Below W9.heap.size W9 v) → (v.alloc (.cells #[.int .i64 0, .int .i64 0] 43)).cell? ⟨w.heap.size + 1, 0, none⟩ = some (.slice da du.length dc) ∧ (v.alloc (.cells #[.int .i64 0, .int .i64 0] 43)).cell? ⟨w.heap.size + 1, 1, none⟩ = some (.slice xa mv.length xc) ∧ (v.alloc (.cells #[.int .i64 0, .int .i64 0] 43)).cell? ⟨w.heap.size + 1, 2, none⟩ = some (.int .i64 de) ∧ (v.alloc (.cells #[.int .i64 0, .int .i64 0] 43)).cell? ⟨w.heap.size + 1, 3, none⟩ = some (.int .i64 to_) ∧ (v.alloc (.cells #[.int .i64 0, .int .i64 0] 43)).cell? ⟨w.heap.size + 1, 4, none⟩ = some (.int .i64 at_) ∧ (v.alloc (.cells #[.int .i64 0, .int .i64 0] 43)).cell? ⟨n12, 0, none⟩ = some (.int .i64 x.mn) ∧ (v.alloc (.cells #[.int .i64 0, .int .i64 0] 43)).cell? ⟨n12, 1, none⟩ = some (.int .i64 x.mx) ∧ (v.alloc (.cells #[.int .i64 0, .int .i64 0] 43)).cell? ⟨n12, 2, none⟩ = some (.int .i64 x.m.tool) ∧ (v.alloc (.cells #[.int .i64 0, .int .i64 0] 43)).cell? ⟨n12, 3, none⟩ = some (.int .i64 x.m.start) ∧ (v.alloc (.cells #[.int .i64 0, .int .i64 0] 43)).cell? ⟨n12, 4, none⟩ = some (.int .i64 x.s.tool) ∧ (v.alloc (.cells #[.int .i64 0, .int .i64 0] 43)).cell? ⟨n12, 5, none⟩ = some (.int .i64 x.s.start) ∧ Below W9.heap.size W9 (v.alloc (.cells #[.int .i64 0, .int .i64 0] 43))) := Lib.hid (fun v h => KEEP.out _ _ h (below_new _ _))
      have KEEPD : Hid (∀ v : World, (v.drew.cell? ⟨w.heap.size + 1, 0, none⟩ = some (.slice da du.length dc) ∧ v.drew.cell? ⟨w.heap.size + 1, 1, none⟩ = some (.slice xa mv.length xc) ∧ v.drew.cell? ⟨w.heap.size + 1, 2, none⟩ = some (.int .i64 de) ∧ v.drew.cell? ⟨w.heap.size + 1, 3, none⟩ = some (.int .i64 to_) ∧ v.drew.cell? ⟨w.heap.size + 1, 4, none⟩ = some (.int .i64 at_) ∧ v.drew.cell? ⟨n12, 0, none⟩ = some (.int .i64 x.mn) ∧ v.drew.cell? ⟨n12, 1, none⟩ = some (.int .i64 x.mx) ∧ v.drew.cell? ⟨n12, 2, none⟩ = some (.int .i64 x.m.tool) ∧ v.drew.cell? ⟨n12, 3, none⟩ = some (.int .i64 x.m.start) ∧ v.drew.cell? ⟨n12, 4, none⟩ = some (.int .i64 x.s.tool) ∧ v.drew.cell? ⟨n12, 5, none⟩ = some (.int .i64 x.s.start) ∧ Below W9.heap.size W9 v.drew) → (v.alloc (.cells #[.int .i64 0, .int .i64 0] 43)).drew.cell? ⟨w.heap.size + 1, 0, none⟩ = some (.slice da du.length dc) ∧ (v.alloc (.cells #[.int .i64 0, .int .i64 0] 43)).drew.cell? ⟨w.heap.size + 1, 1, none⟩ = some (.slice xa mv.length xc) ∧ (v.alloc (.cells #[.int .i64 0, .int .i64 0] 43)).drew.cell? ⟨w.heap.size + 1, 2, none⟩ = some (.int .i64 de) ∧ (v.alloc (.cells #[.int .i64 0, .int .i64 0] 43)).drew.cell? ⟨w.heap.size + 1, 3, none⟩ = some (.int .i64 to_) ∧ (v.alloc (.cells #[.int .i64 0, .int .i64 0] 43)).drew.cell? ⟨w.heap.size + 1, 4, none⟩ = some (.int .i64 at_) ∧ (v.alloc (.cells #[.int .i64 0, .int .i64 0] 43)).drew.cell? ⟨n12, 0, none⟩ = some (.int .i64 x.mn) ∧ (v.alloc (.cells #[.int .i64 0, .int .i64 0] 43)).drew.cell? ⟨n12, 1, none⟩ = some (.int .i64 x.mx) ∧ (v.alloc (.cells #[.int .i64 0, .int .i64 0] 43)).drew.cell? ⟨n12, 2, none⟩ = some (.int .i64 x.m.tool) ∧ (v.alloc (.cells #[.int .i64 0, .int .i64 0] 43)).drew.cell? ⟨n12, 3, none⟩ = some (.int .i64 x.m.start) ∧ (v.alloc (.cells #[.int .i64 0, .int .i64 0] 43)).drew.cell? ⟨n12, 4, none⟩ = some (.int .i64 x.s.tool) ∧ (v.alloc (.cells #[.int .i64 0, .int .i64 0] 43)).drew.cell? ⟨n12, 5, none⟩ = some (.int .i64 x.s.start) ∧ Below W9.heap.size W9 (v.alloc (.cells #[.int .i64 0, .int .i64 0] 43)).drew) := Lib.hid (fun v h => KEEP.out v.drew _ h ⟨rfl, rfl, rfl, (below_new v _).size, (below_new v _).block⟩)
      have SET : Hid (∀ (v : World) (m : Nat) (y0 y1 : Value), W9.heap.size ≤ m → (v.cell? ⟨w.heap.size + 1, 0, none⟩ = some (.slice da du.length dc) ∧ v.cell? ⟨w.heap.size + 1, 1, none⟩ = some (.slice xa mv.length xc) ∧ v.cell? ⟨w.heap.size + 1, 2, none⟩ = some (.int .i64 de) ∧ v.cell? ⟨w.heap.size + 1, 3, none⟩ = some (.int .i64 to_) ∧ v.cell? ⟨w.heap.size + 1, 4, none⟩ = some (.int .i64 at_) ∧ v.cell? ⟨n12, 0, none⟩ = some (.int .i64 x.mn) ∧ v.cell? ⟨n12, 1, none⟩ = some (.int .i64 x.mx) ∧ v.cell? ⟨n12, 2, none⟩ = some (.int .i64 x.m.tool) ∧ v.cell? ⟨n12, 3, none⟩ = some (.int .i64 x.m.start) ∧ v.cell? ⟨n12, 4, none⟩ = some (.int .i64 x.s.tool) ∧ v.cell? ⟨n12, 5, none⟩ = some (.int .i64 x.s.start) ∧ Below W9.heap.size W9 v) → ((v.setCell ⟨m, 0, none⟩ y0).setCell ⟨m, 1, none⟩ y1).cell? ⟨w.heap.size + 1, 0, none⟩ = some (.slice da du.length dc) ∧ ((v.setCell ⟨m, 0, none⟩ y0).setCell ⟨m, 1, none⟩ y1).cell? ⟨w.heap.size + 1, 1, none⟩ = some (.slice xa mv.length xc) ∧ ((v.setCell ⟨m, 0, none⟩ y0).setCell ⟨m, 1, none⟩ y1).cell? ⟨w.heap.size + 1, 2, none⟩ = some (.int .i64 de) ∧ ((v.setCell ⟨m, 0, none⟩ y0).setCell ⟨m, 1, none⟩ y1).cell? ⟨w.heap.size + 1, 3, none⟩ = some (.int .i64 to_) ∧ ((v.setCell ⟨m, 0, none⟩ y0).setCell ⟨m, 1, none⟩ y1).cell? ⟨w.heap.size + 1, 4, none⟩ = some (.int .i64 at_) ∧ ((v.setCell ⟨m, 0, none⟩ y0).setCell ⟨m, 1, none⟩ y1).cell? ⟨n12, 0, none⟩ = some (.int .i64 x.mn) ∧ ((v.setCell ⟨m, 0, none⟩ y0).setCell ⟨m, 1, none⟩ y1).cell? ⟨n12, 1, none⟩ = some (.int .i64 x.mx) ∧ ((v.setCell ⟨m, 0, none⟩ y0).setCell ⟨m, 1, none⟩ y1).cell? ⟨n12, 2, none⟩ = some (.int .i64 x.m.tool) ∧ ((v.setCell ⟨m, 0, none⟩ y0).setCell ⟨m, 1, none⟩ y1).cell? ⟨n12, 3, none⟩ = some (.int .i64 x.m.start) ∧ ((v.setCell ⟨m, 0, none⟩ y0).setCell ⟨m, 1, none⟩ y1).cell? ⟨n12, 4, none⟩ = some (.int .i64 x.s.tool) ∧ ((v.setCell ⟨m, 0, none⟩ y0).setCell ⟨m, 1, none⟩ y1).cell? ⟨n12, 5, none⟩ = some (.int .i64 x.s.start) ∧ Below W9.heap.size W9 ((v.setCell ⟨m, 0, none⟩ y0).setCell ⟨m, 1, none⟩ y1)) := Lib.hid (fun v m y0 y1 hm ⟨h0, h1, h2, h3, h4, h5, h6, h7, h8, h9, hX, hY⟩ => by
        have q1 := lt_of_block HM9.out.sb; have q2 := lt_of_block N12.out
        have all : ∀ (b o : Nat) (z : Value), b ≠ m → v.cell? ⟨b, o, none⟩ = some z → ((v.setCell ⟨m, 0, none⟩ y0).setCell ⟨m, 1, none⟩ y1).cell? ⟨b, o, none⟩ = some z := fun b o z hne hz =>
          (World.cell?_of_block (a := ⟨b, o, none⟩) (Below.heap_setCell _ _ _ _ hne)).trans ((World.cell?_of_block (a := ⟨b, o, none⟩) (Below.heap_setCell _ _ _ _ hne)).trans hz)
        have n1 : w.heap.size + 1 ≠ m := by omega
        have n2 : n12 ≠ m := by omega
        exact ⟨all _ _ _ n1 h0, all _ _ _ n1 h1, all _ _ _ n1 h2, all _ _ _ n1 h3, all _ _ _ n1 h4, all _ _ _ n2 h5, all _ _ _ n2 h6, all _ _ _ n2 h7, all _ _ _ n2 h8, all _ _ _ n2 h9, all _ _ _ n2 hX, (hY.setCell (p := ⟨m, 0, none⟩) hm _).setCell (p := ⟨m, 1, none⟩) hm _⟩)
      have SET0 : Hid (∀ (v : World) (y0 y1 : Value), (v.cell? ⟨w.heap.size + 1, 0, none⟩ = some (.slice da du.length dc) ∧ v.cell? ⟨w.heap.size + 1, 1, none⟩ = some (.slice xa mv.length xc) ∧ v.cell? ⟨w.heap.size + 1, 2, none⟩ = some (.int .i64 de) ∧ v.cell? ⟨w.heap.size + 1, 3, none⟩ = some (.int .i64 to_) ∧ v.cell? ⟨w.heap.size + 1, 4, none⟩ = some (.int .i64 at_) ∧ v.cell? ⟨n12, 0, none⟩ = some (.int .i64 x.mn) ∧ v.cell? ⟨n12, 1, none⟩ = some (.int .i64 x.mx) ∧ v.cell? ⟨n12, 2, none⟩ = some (.int .i64 x.m.tool) ∧ v.cell? ⟨n12, 3, none⟩ = some (.int .i64 x.m.start) ∧ v.cell? ⟨n12, 4, none⟩ = some (.int .i64 x.s.tool) ∧ v.cell? ⟨n12, 5, none⟩ = some (.int .i64 x.s.start) ∧ Below W9.heap.size W9 v) → ((v.setCell ⟨W9.heap.size, 0, none⟩ y0).setCell ⟨W9.heap.size, 1, none⟩ y1).cell? ⟨w.heap.size + 1, 0, none⟩ = some (.slice da du.length dc) ∧ ((v.setCell ⟨W9.heap.size, 0, none⟩ y0).setCell ⟨W9.heap.size, 1, none⟩ y1).cell? ⟨w.heap.size + 1, 1, none⟩ = some (.slice xa mv.length xc) ∧ ((v.setCell ⟨W9.heap.size, 0, none⟩ y0).setCell ⟨W9.heap.size, 1, none⟩ y1).cell? ⟨w.heap.size + 1, 2, none⟩ = some (.int .i64 de) ∧ ((v.setCell ⟨W9.heap.size, 0, none⟩ y0).setCell ⟨W9.heap.size, 1, none⟩ y1).cell? ⟨w.heap.size + 1, 3, none⟩ = some (.int .i64 to_) ∧ ((v.setCell ⟨W9.heap.size, 0, none⟩ y0).setCell ⟨W9.heap.size, 1, none⟩ y1).cell? ⟨w.heap.size + 1, 4, none⟩ = some (.int .i64 at_) ∧ ((v.setCell ⟨W9.heap.size, 0, none⟩ y0).setCell ⟨W9.heap.size, 1, none⟩ y1).cell? ⟨n12, 0, none⟩ = some (.int .i64 x.mn) ∧ ((v.setCell ⟨W9.heap.size, 0, none⟩ y0).setCell ⟨W9.heap.size, 1, none⟩ y1).cell? ⟨n12, 1, none⟩ = some (.int .i64 x.mx) ∧ ((v.setCell ⟨W9.heap.size, 0, none⟩ y0).setCell ⟨W9.heap.size, 1, none⟩ y1).cell? ⟨n12, 2, none⟩ = some (.int .i64 x.m.tool) ∧ ((v.setCell ⟨W9.heap.size, 0, none⟩ y0).setCell ⟨W9.heap.size, 1, none⟩ y1).cell? ⟨n12, 3, none⟩ = some (.int .i64 x.m.start) ∧ ((v.setCell ⟨W9.heap.size, 0, none⟩ y0).setCell ⟨W9.heap.size, 1, none⟩ y1).cell? ⟨n12, 4, none⟩ = some (.int .i64 x.s.tool) ∧ ((v.setCell ⟨W9.heap.size, 0, none⟩ y0).setCell ⟨W9.heap.size, 1, none⟩ y1).cell? ⟨n12, 5, none⟩ = some (.int .i64 x.s.start) ∧ Below W9.heap.size W9 ((v.setCell ⟨W9.heap.size, 0, none⟩ y0).setCell ⟨W9.heap.size, 1, none⟩ y1)) := Lib.hid (fun v y0 y1 h => SET.out v _ y0 y1 (Nat.le_refl _) h)
      have SET1 : Hid (∀ (v u : World) (y0 y1 : Value), (u.cell? ⟨w.heap.size + 1, 0, none⟩ = some (.slice da du.length dc) ∧ u.cell? ⟨w.heap.size + 1, 1, none⟩ = some (.slice xa mv.length xc) ∧ u.cell? ⟨w.heap.size + 1, 2, none⟩ = some (.int .i64 de) ∧ u.cell? ⟨w.heap.size + 1, 3, none⟩ = some (.int .i64 to_) ∧ u.cell? ⟨w.heap.size + 1, 4, none⟩ = some (.int .i64 at_) ∧ u.cell? ⟨n12, 0, none⟩ = some (.int .i64 x.mn) ∧ u.cell? ⟨n12, 1, none⟩ = some (.int .i64 x.mx) ∧ u.cell? ⟨n12, 2, none⟩ = some (.int .i64 x.m.tool) ∧ u.cell? ⟨n12, 3, none⟩ = some (.int .i64 x.m.start) ∧ u.cell? ⟨n12, 4, none⟩ = some (.int .i64 x.s.tool) ∧ u.cell? ⟨n12, 5, none⟩ = some (.int .i64 x.s.start) ∧ Below W9.heap.size W9 u) → (v.cell? ⟨w.heap.size + 1, 0, none⟩ = some (.slice da du.length dc) ∧ v.cell? ⟨w.heap.size + 1, 1, none⟩ = some (.slice xa mv.length xc) ∧ v.cell? ⟨w.heap.size + 1, 2, none⟩ = some (.int .i64 de) ∧ v.cell? ⟨w.heap.size + 1, 3, none⟩ = some (.int .i64 to_) ∧ v.cell? ⟨w.heap.size + 1, 4, none⟩ = some (.int .i64 at_) ∧ v.cell? ⟨n12, 0, none⟩ = some (.int .i64 x.mn) ∧ v.cell? ⟨n12, 1, none⟩ = some (.int .i64 x.mx) ∧ v.cell? ⟨n12, 2, none⟩ = some (.int .i64 x.m.tool) ∧ v.cell? ⟨n12, 3, none⟩ = some (.int .i64 x.m.start) ∧ v.cell? ⟨n12, 4, none⟩ = some (.int .i64 x.s.tool) ∧ v.cell? ⟨n12, 5, none⟩ = some (.int .i64 x.s.start) ∧ Below W9.heap.size W9 v) → ((v.setCell ⟨u.heap.size, 0, none⟩ y0).setCell ⟨u.heap.size, 1, none⟩ y1).cell? ⟨w.heap.size + 1, 0, none⟩ = some (.slice da du.length dc) ∧ ((v.setCell ⟨u.heap.size, 0, none⟩ y0).setCell ⟨u.heap.size, 1, none⟩ y1).cell? ⟨w.heap.size + 1, 1, none⟩ = some (.slice xa mv.length xc) ∧ ((v.setCell ⟨u.heap.size, 0, none⟩ y0).setCell ⟨u.heap.size, 1, none⟩ y1).cell? ⟨w.heap.size + 1, 2, none⟩ = some (.int .i64 de) ∧ ((v.setCell ⟨u.heap.size, 0, none⟩ y0).setCell ⟨u.heap.size, 1, none⟩ y1).cell? ⟨w.heap.size + 1, 3, none⟩ = some (.int .i64 to_) ∧ ((v.setCell ⟨u.heap.size, 0, none⟩ y0).setCell ⟨u.heap.size, 1, none⟩ y1).cell? ⟨w.heap.size + 1, 4, none⟩ = some (.int .i64 at_) ∧ ((v.setCell ⟨u.heap.size, 0, none⟩ y0).setCell ⟨u.heap.size, 1, none⟩ y1).cell? ⟨n12, 0, none⟩ = some (.int .i64 x.mn) ∧ ((v.setCell ⟨u.heap.size, 0, none⟩ y0).setCell ⟨u.heap.size, 1, none⟩ y1).cell? ⟨n12, 1, none⟩ = some (.int .i64 x.mx) ∧ ((v.setCell ⟨u.heap.size, 0, none⟩ y0).setCell ⟨u.heap.size, 1, none⟩ y1).cell? ⟨n12, 2, none⟩ = some (.int .i64 x.m.tool) ∧ ((v.setCell ⟨u.heap.size, 0, none⟩ y0).setCell ⟨u.heap.size, 1, none⟩ y1).cell? ⟨n12, 3, none⟩ = some (.int .i64 x.m.start) ∧ ((v.setCell ⟨u.heap.size, 0, none⟩ y0).setCell ⟨u.heap.size, 1, none⟩ y1).cell? ⟨n12, 4, none⟩ = some (.int .i64 x.s.tool) ∧ ((v.setCell ⟨u.heap.size, 0, none⟩ y0).setCell ⟨u.heap.size, 1, none⟩ y1).cell? ⟨n12, 5, none⟩ = some (.int .i64 x.s.start) ∧ Below W9.heap.size W9 ((v.setCell ⟨u.heap.size, 0, none⟩ y0).setCell ⟨u.heap.size, 1, none⟩ y1)) := Lib.hid (fun v u y0 y1 ⟨_, _, _, _, _, _, _, _, _, _, _, hu⟩ h => SET.out v _ y0 y1 hu.size h)
      have HNC : Hid (∀ v0 v1 : World, Below (v0.alloc (.cells #[.int .i64 0, .int .i64 0] 43)).heap.size (v0.alloc (.cells #[.int .i64 0, .int .i64 0] 43)) v1 → v1.heap[v0.heap.size]? = some (.cells #[.int .i64 0, .int .i64 0] 43)) := Lib.hid (fun v0 v1 g => box_below (heap_alloc_new v0 _) g)
      have HND : Hid (∀ v0 v1 : World, Below (v0.alloc (.cells #[.int .i64 0, .int .i64 0] 43)).drew.heap.size (v0.alloc (.cells #[.int .i64 0, .int .i64 0] 43)).drew v1 → v1.heap[v0.heap.size]? = some (.cells #[.int .i64 0, .int .i64 0] 43)) := Lib.hid (fun v0 v1 g => box_below (w := (v0.alloc (.cells #[.int .i64 0, .int .i64 0] 43)).drew) (heap_alloc_new v0 _) g)
      have HNE : Hid (∀ (m : Nat) (v0 v1 : World), v0.heap[m]? = some (.cells #[.int .i64 0, .int .i64 0] 43) → Below v0.heap.size v0 v1 → v1.heap[m]? = some (.cells #[.int .i64 0, .int .i64 0] 43)) := Lib.hid (fun m v0 v1 h g => box_below h g)
      have NCC : Hid (∀ (m : Nat) (v : World), v.heap[m]? = some (.cells #[.int .i64 0, .int .i64 0] 43) → (v.cell? ⟨m, 0, none⟩ = some (.int .i64 0) ∧ v.cell? ⟨m, 1, none⟩ = some (.int .i64 0)) ∧ v.frozen? ⟨m, 0, none⟩ = false ∧ v.frozen? ⟨m, 1, none⟩ = false) := Lib.hid (fun m v hS => ⟨⟨box_cell hS 0 _ rfl, box_cell hS 1 _ rfl⟩, box_fz hS 0, box_fz hS 1⟩)
      have C1' := Lib.hid (show ∀ v : World, (v.cell? ⟨w.heap.size + 1, 0, none⟩ = some (.slice da du.length dc) ∧ v.cell? ⟨w.heap.size + 1, 1, none⟩ = some (.slice xa mv.length xc) ∧ v.cell? ⟨w.heap.size + 1, 2, none⟩ = some (.int .i64 de) ∧ v.cell? ⟨w.heap.size + 1, 3, none⟩ = some (.int .i64 to_) ∧ v.cell? ⟨w.heap.size + 1, 4, none⟩ = some (.int .i64 at_) ∧ v.cell? ⟨n12, 0, none⟩ = some (.int .i64 x.mn) ∧ v.cell? ⟨n12, 1, none⟩ = some (.int .i64 x.mx) ∧ v.cell? ⟨n12, 2, none⟩ = some (.int .i64 x.m.tool) ∧ v.cell? ⟨n12, 3, none⟩ = some (.int .i64 x.m.start) ∧ v.cell? ⟨n12, 4, none⟩ = some (.int .i64 x.s.tool) ∧ v.cell? ⟨n12, 5, none⟩ = some (.int .i64 x.s.start) ∧ Below W9.heap.size W9 v) → Calls Tryd.prog 36 #[.int .i64 (k : Int), ScenP.val ⟨⟨du, mv, de, to_, at_⟩, da, dc, xa, xc⟩, .int .i64 t] v fun e w' => e = .returned (passV ⟨du, mv, de, to_, at_⟩ t (mv.getD k 0) (du.getD k 0)) ∧ Below v.heap.size v w' from
        fun v ⟨_, _, _, _, _, _, _, _, _, _, _, hv⟩ => C1.out v (below_step HM9.out.bel hv))
      have KB : Hid (∀ v1 : World, (v1.cell? ⟨w.heap.size + 1, 0, none⟩ = some (.slice da du.length dc) ∧ v1.cell? ⟨w.heap.size + 1, 1, none⟩ = some (.slice xa mv.length xc) ∧ v1.cell? ⟨w.heap.size + 1, 2, none⟩ = some (.int .i64 de) ∧ v1.cell? ⟨w.heap.size + 1, 3, none⟩ = some (.int .i64 to_) ∧ v1.cell? ⟨w.heap.size + 1, 4, none⟩ = some (.int .i64 at_) ∧ v1.cell? ⟨n12, 0, none⟩ = some (.int .i64 x.mn) ∧ v1.cell? ⟨n12, 1, none⟩ = some (.int .i64 x.mx) ∧ v1.cell? ⟨n12, 2, none⟩ = some (.int .i64 x.m.tool) ∧ v1.cell? ⟨n12, 3, none⟩ = some (.int .i64 x.m.start) ∧ v1.cell? ⟨n12, 4, none⟩ = some (.int .i64 x.s.tool) ∧ v1.cell? ⟨n12, 5, none⟩ = some (.int .i64 x.s.start) ∧ Below W9.heap.size W9 v1) → Below W9.heap.size W9 v1) := Lib.hid (fun v ⟨_, _, _, _, _, _, _, _, _, _, _, h⟩ => h)
      go_cut [13, 14] (fun s13 s14 wx => ∃ (n13 : Nat) (o : Pl.Slot) (ok : Bool), s13 = .pointer (some ⟨n13, 0, none⟩) ∧ s14 = .bool ok ∧ Hid (Pl.slot x ⟨du, mv, de, to_, at_⟩ t (mv.getD k 0) (du.getD k 0) = (if ok then some o else none)) ∧ Hid (Below W9.heap.size W9 wx ∧ wx.heap[n13]? = some (slotObj o)))
      case first =>
        go_region_held3 (fun v1 => v1.cell? ⟨w.heap.size + 1, 0, none⟩ = some (.slice da du.length dc) ∧ v1.cell? ⟨w.heap.size + 1, 1, none⟩ = some (.slice xa mv.length xc) ∧ v1.cell? ⟨w.heap.size + 1, 2, none⟩ = some (.int .i64 de) ∧ v1.cell? ⟨w.heap.size + 1, 3, none⟩ = some (.int .i64 to_) ∧ v1.cell? ⟨w.heap.size + 1, 4, none⟩ = some (.int .i64 at_) ∧ v1.cell? ⟨n12, 0, none⟩ = some (.int .i64 x.mn) ∧ v1.cell? ⟨n12, 1, none⟩ = some (.int .i64 x.mx) ∧ v1.cell? ⟨n12, 2, none⟩ = some (.int .i64 x.m.tool) ∧ v1.cell? ⟨n12, 3, none⟩ = some (.int .i64 x.m.start) ∧ v1.cell? ⟨n12, 4, none⟩ = some (.int .i64 x.s.tool) ∧ v1.cell? ⟨n12, 5, none⟩ = some (.int .i64 x.s.start) ∧ Below W9.heap.size W9 v1)
          (first | with_reducible exact HS9.out | with_reducible exact KEEPD.out _ HS9.out | with_reducible exact KEEP.out _ _ (by assumption) g2 | with_reducible exact KEEP.out _ _ (by assumption) g1 | with_reducible exact KEEPA.out _ (by assumption) | with_reducible exact KEEP.out _ _ hS2 (below_new _ _) | with_reducible exact SET0.out _ _ _ hS2 | with_reducible exact SET1.out _ _ _ _ hS1 hS2)
          (first | (go_at_call 36; with_reducible refine (C1'.out _ (by assumption)).mono ?_; rintro e v1 ⟨rfl, g1⟩; have hS1 := KEEP.out _ _ (by assumption) g1; (first | (have hO := HND.out _ _ g1) | skip)) | (go_at_call 37; refine (C2.out _).mono ?_; intro e v2 hh; obtain ⟨o, ok, he, ho, g2⟩ := hh; subst he; (first | (have hS2 := KEEP.out _ _ (by assumption) g2) | skip); (first | (have hO2 := HNE.out _ _ _ hO g2; have hS := NCC.out _ _ hO2; obtain ⟨⟨s0, s1⟩, f0, f1⟩ := hS) | (have hO2 := HNC.out _ _ g2; have hS := NCC.out _ _ hO2; obtain ⟨⟨s0, s1⟩, f0, f1⟩ := hS) | skip)))
        all_goals
          have hKB := KB.out _ (by assumption)
          have hho := Lib.hid ho
          clear ho
          go_wp2_with fail
          go_meet
          first
            | exact ⟨_, o, ok, rfl, rfl, hho, Lib.hid ⟨hKB, block_set (block_set hO2 (o := 0) (.int .i64 o.tool)) (o := 1) (.int .i64 o.start)⟩⟩
            | exact ⟨_, o, ok, rfl, rfl, hho, Lib.hid ⟨hKB, heap_alloc_new _ _⟩⟩
      case rest =>
        obtain ⟨n13, o, ok, rfl, rfl, HO, HWc⟩ := hcut
        have HMc := Lib.hid (HM9.out.below HWc.out.1)
        clear HS9 KEEP KEEPA KEEPD SET SET0 SET1 HNC HND HNE NCC C1 C1' C2 KB
        rename World => wc1
        have PS := Lib.hid HWc.out.2
        clear HWc HM9 N12 HM
        cases ok
        · have HR1 := Lib.hid (show Pl.run ⟨en, mi, ma, st, wn⟩ ⟨du, mv, de, to_, at_⟩ = ⟨V, 1, (k : Int)⟩ by
            rw [← HV.out.2.2, HDr.out]; unfold Pl.runFrom; simp only [HO.out]; rfl)
          have l0 := box_cell HMc.out.kb 0 (.int .i64 0) rfl
          have l1 := box_cell HMc.out.kb 1 (.int .i64 0) rfl
          have z0 := box_fz HMc.out.kb 0
          have z1 := box_fz HMc.out.kb 1
          have hlb := lt_of_block HMc.out.kb
          go_upto_region 22 with (fail)
          have HML := HMc.out.late 1 (k : Int)
          clear l0 l1 z0 z1 hlb
          generalize (wc1.setCell ⟨n7 + 1, 0, none⟩ (.int .i64 1)).setCell ⟨n7 + 1, 1, none⟩ (.int .i64 (k : Int)) = wf at *
          have FM := Lib.hid HML
          have v0 := box_cell FM.out.vb 0 (.slice a (V).length c) rfl
          have l0 := box_cell FM.out.kb 0 (.int .i64 1) rfl
          have l1 := box_cell FM.out.kb 1 (.int .i64 (k : Int)) rfl
          have y0 := box_cell FM.out.lb 0 (.int .i64 0) rfl
          have y1 := box_cell FM.out.lb 1 (.int .i64 0) rfl
          have z0 := box_fz FM.out.lb 0
          have z1 := box_fz FM.out.lb 1
          have hlb := lt_of_block FM.out.lb
          go_wp2_with fail
          go_region
          obtain ⟨E1, E2, E3⟩ := FM.out.fin 1 (k : Int)
          have E1 := Lib.hid E1; have E2 := Lib.hid E2; have E3 := Lib.hid E3
          go_wp2_with fail
          clear v0 l0 l1 y0 y1 z0 z1 hlb
          generalize (wf.setCell ⟨w.heap.size + 1 + 1, 0, none⟩ (.int .i64 1)).setCell ⟨w.heap.size + 1 + 1, 1, none⟩ (.int .i64 (k : Int)) = we at *
          have y0 := box_cell E3.out 0 (.int .i64 1) rfl
          have y1 := box_cell E3.out 1 (.int .i64 (k : Int)) rfl
          try rw [Exit.noGoto_ret]
          refine bodyPost_ret (v := .tuple #[.slice a (V).length c, .agg #[.int .i64 1, .int .i64 (k : Int)], .int .i64 0]) (by simp [results, Tryd.results14, go_sem, y0, y1]) rfl ?_
          unfold RunPost
          rw [HA.out, HR1.out]
          exact ⟨a, c, rfl, E1.out.below (Below.refl _ _).drew, E2.out.drew⟩
        · have HOB := Lib.hid (show (0 ≤ o.start ∧ o.start ≤ 1000000) ∧ 0 ≤ du.getD k 0 ∧ o.start + du.getD k 0 ≤ 1010000 ∧ du.getD k 0 ≤ 10000 by
            obtain ⟨-, h2⟩ := Pl.slot_some (by have := PB.out.det; simp only at this ⊢; omega) HO.out
            have h3 := HX.out; have h4 := HD.out; have h5 := h3.ms; have h6 := h3.ss; have h7 := h3.mn; have h8 := h3.top
            have h9 : o = x.m ∨ o = x.s := by rcases h2 with ⟨h, -⟩ | ⟨h, -⟩ <;> simp [h]
            rcases h9 with rfl | rfl <;> omega)
          have HKL := Lib.hid (show k < du.length by have := PO.out.dlen; simp only at this; omega)
          obtain ⟨b1, o1, eda, hb1, k1⟩ := (HR.out.du.below HMc.out.bel).2.2 k HKL.out
          have m1 : wc1.cell? ⟨b1, o1 + k, none⟩ = some (.int .i64 (du.getD k 0)) := by
            have := k1 0 _ rfl
            rw [List.getD_eq_getElem?_getD, List.getElem?_eq_getElem HKL.out]; simpa using this
          simp only at eda
          subst eda
          clear k1
          have HStep := Lib.hid (show Pl.runFrom wn ⟨du, mv, de, to_, at_⟩ (st.drop k) k t V = (match Pl.firstMiss (V ++ [(⟨(k : Int), o.tool, o.start, o.start + du.getD k 0⟩ : Pl.Visit)]) k wn 0 with
              | some m => ⟨V ++ [⟨(k : Int), o.tool, o.start, o.start + du.getD k 0⟩], 2, m⟩
              | none => Pl.runFrom wn ⟨du, mv, de, to_, at_⟩ (st.drop (k + 1)) (k + 1) (o.start + du.getD k 0) (V ++ [⟨(k : Int), o.tool, o.start, o.start + du.getD k 0⟩])) by
            rw [HDr.out]; conv => lhs; unfold Pl.runFrom
            simp only [HO.out]; rfl)
          rw [HV.out.2.2] at HStep
          generalize du.getD k 0 = d at *
          have e1 : IntKind.i64.wrap (o.start + d) = o.start + d := IntWalk.i64_in _ (by have := HOB.out; omega)
          have i1 : (0 : Int) ≤ (k : Int) := by omega
          have i2 : (k : Int) < (du.length : Int) := by have := HKL.out; omega
          have i4 : ((k : Int)).toNat = k := by omega
          have p0 := box_cell PS.out 0 (.int .i64 o.tool) rfl
          have p1 := box_cell PS.out 1 (.int .i64 o.start) rfl
          have q0 := box_cell HMc.out.sb 0 (.slice (some ⟨b1, o1, none⟩) du.length dc) rfl
          have v0 := box_cell HMc.out.vb 0 (.slice a V.length c) rfl
          have hvl := HMc.out.rowA.len
          unfold maxLen at hvl
          have hkV : V.length < 20 := by have := HV.out.1; have := PO.out.v.len; simp only at this; omega
          go_wp2_with fail
          go_quiet (fail)
          clear i1 i2 i4 m1
          go_upto_region 14 with (fail)
          have HOwn : Hid (∀ n, ((wc1.drewN n).alloc (.cells #[.int .i64 (k : Int), .int .i64 o.tool, .int .i64 o.start, .int .i64 (o.start + d)] 47)).ownsRow w.heap.size 47 4 (.slice a V.length c) V.length (V.flatMap visitCells)) := Lib.hid (fun n => own_below (own_below HMc.out.row (below_drewN (Below.refl _ _) n)) (below_new _ _))
          have HNW : Hid (∀ n, _) := Lib.hid (fun n => World.news_of_block (w := (wc1.drewN n).alloc (.cells #[.int .i64 (k : Int), .int .i64 o.tool, .int .i64 o.start, .int .i64 (o.start + d)] 47)) (B := wc1.heap.size) (cs := #[.int .i64 (k : Int), .int .i64 o.tool, .int .i64 o.start, .int .i64 (o.start + d)]) (t := 47) (fr := (0, 0)) (heap_alloc_new (wc1.drewN n) (.cells #[.int .i64 (k : Int), .int .i64 o.tool, .int .i64 o.start, .int .i64 (o.start + d)] 47)))
          have HAB : Hid (∀ n, Below wc1.heap.size wc1 ((wc1.drewN n).alloc (.cells #[.int .i64 (k : Int), .int .i64 o.tool, .int .i64 o.start, .int .i64 (o.start + d)] 47))) := Lib.hid (fun n => below_step (below_drewN (Below.refl _ _) n) (below_new _ _))
          have hsw := HMc.out.bel.size
          obtain ⟨i0, hi, hz0, hz1, hz2⟩ := info_parts info_visit
          go_wp2_with (at_builtin; refine wpList_append_own _ rfl _ _ 36 rfl w.heap.size 47 i0 _ 4 32 Tryd.underlying36 hi hz0 hz1 hz2 rfl (by decide) _ _ _ rfl (HOwn.out _) ⟨wc1.heap.size, 0, none⟩ 1 1 [.int .i64 (k : Int), .int .i64 o.tool, .int .i64 o.start, .int .i64 (o.start + d)] rfl rfl (HNW.out _) ?c2 ?c3 ?c4 ?c5 ?_)
          case c2 => simp [Value.oneCell']
          case c3 => unfold maxLen; omega
          case c4 => omega
          case c5 => omega
          intro v' w3 hown' hgrow _
          have hvb := HMc.out.vb3 (HAB.out _) hgrow
          obtain ⟨a', c', rfl, -⟩ := own_slice hown'
          have HM3 := HMc.out.app ⟨(k : Int), o.tool, o.start, o.start + d⟩ (by have := HOB.out; simp only; omega) (HAB.out _) hown' hgrow
          have v0 := box_cell hvb 0 _ rfl
          have vz := box_fz hvb 0
          have hvl2 := lt_of_block hvb
          clear hown' hgrow p0 p1 q0 HOwn HNW HAB hi hz0 hz1 hz2
          go_upto_region 15 with (fail)
          clear v0 vz hvl2 hvb
          generalize w3.setCell ⟨n7, 0, none⟩ (.slice a' (V.length + 1) c') = wi at *
          have HUl := Lib.hid (show (V ++ [(⟨(k : Int), o.tool, o.start, o.start + d⟩ : Pl.Visit)]).length = k + 1 by simp [HV.out.1])
          generalize V ++ [(⟨(k : Int), o.tool, o.start, o.start + d⟩ : Pl.Visit)] = U at *
          have HM3 := Lib.hid HM3
          have x4 := box_cell HM3.out.pb 4 (.slice wa wn.length wc) rfl
          clear e1
          go_wp2_with fail
          clear x4
          go_loopg [67] wn.length (fun g iv wq => ∃ m : Nat, m ≤ wn.length ∧ g = wn.length - m ∧ iv = .int .i64 (m : Int) ∧ Hid (RunM ⟨⟨en, mi, ma, st, wn⟩, some ⟨b, off, none⟩, sc, wa, wc⟩ ⟨⟨du, mv, de, to_, at_⟩, some ⟨b1, o1, none⟩, dc, xa, xc⟩ w n7 (n7 + 1) a' c' U 0 0 wq) ∧ Hid (Pl.firstMiss U k (wn.drop m) m = Pl.firstMiss U k wn 0))
          case atStart => exact ⟨0, by omega, by omega, rfl, HM3, Lib.hid rfl⟩
          case round =>
            obtain ⟨m, hm, rfl, rfl, HI, HF⟩ := hrel
            rename World => wq
            by_cases hml : m < wn.length
            · obtain ⟨b2, o2, ewa, hb2, h2⟩ := (HQ.out.wn.below HI.out.bel).2.2 m hml
              simp only at ewa
              subst ewa
              obtain ⟨f0, f1, f2⟩ := wn_cells h2
              have HY := Lib.hid (PO.out.v.wn wn[m] (List.getElem_mem hml))
              have HDm := Lib.hid (show wn.drop m = wn[m] :: wn.drop (m + 1) from List.drop_eq_getElem_cons hml)
              clear h2
              generalize wn[m] = y at *
              have HG2 := Lib.hid (below_new wq (winObj y))
              by_cases ht : y.t = (k : Int)
              · have ht' : (y.t == (k : Int)) = true := by simp [ht]
                have HC := Lib.hid (fun v (hv : Below wq.heap.size wq v) => Run1_any y n7 a' c' U v (box_cell (HI.out.below hv).vb 0 _ rfl) ((HI.out.below hv).rowA) HI.out.bd HY.out.f HY.out.ft (by rw [ht, HUl.out]; omega))
                have HT := Lib.hid ht
                clear ht
                have HB := Lib.hid (show Pl.firstMiss U k (y :: wn.drop (m + 1)) m = (if Pl.missed U y = true then some m else Pl.firstMiss U k (wn.drop (m + 1)) (m + 1)) by
                  rw [Pl.firstMiss]; simp only [HT.out, true_and])
                generalize Pl.missed U y = B at *
                cases B
                · go_wp2_with fail
                  refine (HC.out _ HG2.out).mono ?_; rintro _ w6 ⟨rfl, g6⟩
                  have HI2 := Lib.hid (HI.out.below (below_step HG2.out g6)); clear g6
                  go_wp2_with fail
                  go_roundg (wn.length - (m + 1))
                  case rel => exact ⟨m + 1, by omega, rfl, by go_num, HI2, Lib.hid (by rw [← HF.out, HDm.out, HB.out]; rfl)⟩
                  case measure => omega
                · have HRun := Lib.hid (show Pl.run ⟨en, mi, ma, st, wn⟩ ⟨du, mv, de, to_, at_⟩ = ⟨U, 2, (m : Int)⟩ by
                    rw [HStep.out, ← HF.out, HDm.out, HB.out]; rfl)
                  go_wp2_with fail
                  refine (HC.out _ HG2.out).mono ?_; rintro _ w6 ⟨rfl, g6⟩
                  have HI2 := Lib.hid (HI.out.below (below_step HG2.out g6)); clear g6
                  have l0 := box_cell HI2.out.kb 0 (.int .i64 0) rfl
                  have l1 := box_cell HI2.out.kb 1 (.int .i64 0) rfl
                  have z0 := box_fz HI2.out.kb 0
                  have z1 := box_fz HI2.out.kb 1
                  have hlb := lt_of_block HI2.out.kb
                  go_upto_region 22 with (fail)
                  have HML := HI2.out.late 2 (m : Int)
                  clear l0 l1 z0 z1 hlb
                  generalize (w6.setCell ⟨n7 + 1, 0, none⟩ (.int .i64 2)).setCell ⟨n7 + 1, 1, none⟩ (.int .i64 (m : Int)) = wf at *
                  have FM := Lib.hid HML
                  have v0 := box_cell FM.out.vb 0 (.slice a' (U).length c') rfl
                  have l0 := box_cell FM.out.kb 0 (.int .i64 2) rfl
                  have l1 := box_cell FM.out.kb 1 (.int .i64 (m : Int)) rfl
                  have y0 := box_cell FM.out.lb 0 (.int .i64 0) rfl
                  have y1 := box_cell FM.out.lb 1 (.int .i64 0) rfl
                  have z0 := box_fz FM.out.lb 0
                  have z1 := box_fz FM.out.lb 1
                  have hlb := lt_of_block FM.out.lb
                  go_wp2_with fail
                  go_region
                  obtain ⟨E1, E2, E3⟩ := FM.out.fin 2 (m : Int)
                  have E1 := Lib.hid E1; have E2 := Lib.hid E2; have E3 := Lib.hid E3
                  go_wp2_with fail
                  clear v0 l0 l1 y0 y1 z0 z1 hlb
                  generalize (wf.setCell ⟨w.heap.size + 1 + 1, 0, none⟩ (.int .i64 2)).setCell ⟨w.heap.size + 1 + 1, 1, none⟩ (.int .i64 (m : Int)) = we at *
                  have y0 := box_cell E3.out 0 (.int .i64 2) rfl
                  have y1 := box_cell E3.out 1 (.int .i64 (m : Int)) rfl
                  try rw [Exit.noGoto_ret]
                  refine bodyPost_ret (v := .tuple #[.slice a' (U).length c', .agg #[.int .i64 2, .int .i64 (m : Int)], .int .i64 0]) (by simp [results, Tryd.results14, go_sem, y0, y1]) rfl ?_
                  unfold RunPost
                  rw [HA.out, HRun.out]
                  exact ⟨a', c', rfl, E1.out.below (Below.refl _ _).drew, E2.out.drew⟩
              · have ht' : (y.t == (k : Int)) = false := by rw [beq_eq_false_iff_ne]; exact ht
                have HB := Lib.hid (show Pl.firstMiss U k (y :: wn.drop (m + 1)) m = Pl.firstMiss U k (wn.drop (m + 1)) (m + 1) by
                  rw [Pl.firstMiss, if_neg (fun h => ht h.1)])
                clear ht
                go_wp2_with fail
                go_roundg (wn.length - (m + 1))
                case rel => exact ⟨m + 1, by omega, rfl, by go_num, Lib.hid (HI.out.below HG2.out), Lib.hid (by rw [← HF.out, HDm.out, HB.out])⟩
                case measure => omega
            · have HN := Lib.hid (show Pl.firstMiss U k wn 0 = none by rw [← HF.out, List.drop_of_length_le (by omega)]; rfl)
              have HS2 := Lib.hid (show Pl.runFrom wn ⟨du, mv, de, to_, at_⟩ (st.drop (k + 1)) (k + 1) (o.start + d) U = Pl.run ⟨en, mi, ma, st, wn⟩ ⟨du, mv, de, to_, at_⟩ by rw [HStep.out, HN.out])
              go_wp2_with fail
              go_roundg (st.length - (k + 1))
              case rel => exact ⟨k + 1, o.start + d, a', c', U, by omega, rfl, rfl, by go_num, HI, Lib.hid ⟨HUl.out, by have := HOB.out; omega, HS2.out⟩⟩
              case measure => omega
    · have HRun := Lib.hid (show Pl.run ⟨en, mi, ma, st, wn⟩ ⟨du, mv, de, to_, at_⟩ = ⟨V, 0, 0⟩ by
        rw [← HV.out.2.2, List.drop_of_length_le (by omega)]; rfl)
      have FM := Lib.hid HM.out
      have v0 := box_cell FM.out.vb 0 (.slice a (V).length c) rfl
      have l0 := box_cell FM.out.kb 0 (.int .i64 0) rfl
      have l1 := box_cell FM.out.kb 1 (.int .i64 0) rfl
      have y0 := box_cell FM.out.lb 0 (.int .i64 0) rfl
      have y1 := box_cell FM.out.lb 1 (.int .i64 0) rfl
      have z0 := box_fz FM.out.lb 0
      have z1 := box_fz FM.out.lb 1
      have hlb := lt_of_block FM.out.lb
      go_wp2_with fail
      go_region
      obtain ⟨E1, E2, E3⟩ := FM.out.fin 0 0
      have E1 := Lib.hid E1; have E2 := Lib.hid E2; have E3 := Lib.hid E3
      go_wp2_with fail
      clear v0 l0 l1 y0 y1 z0 z1 hlb
      generalize (wr.setCell ⟨w.heap.size + 1 + 1, 0, none⟩ (.int .i64 0)).setCell ⟨w.heap.size + 1 + 1, 1, none⟩ (.int .i64 0) = we at *
      have y0 := box_cell E3.out 0 (.int .i64 0) rfl
      have y1 := box_cell E3.out 1 (.int .i64 0) rfl
      try rw [Exit.noGoto_ret]
      refine bodyPost_ret (v := .tuple #[.slice a (V).length c, .agg #[.int .i64 0, .int .i64 0], .int .i64 0]) (by simp [results, Tryd.results14, go_sem, y0, y1]) rfl ?_
      unfold RunPost
      rw [HA.out, HRun.out]
      exact ⟨a, c, rfl, E1.out.below (Below.refl _ _).drew, E2.out.drew⟩
theorem Run_any (q : PlanP) (r : ScenP) (w : World) (h : q.ok w) (hr : r.ok w) : Calls Tryd.prog 14 #[q.val, r.val] w (RunPost q.p r.s w) := by
  cases hp : Pl.possible q.p r.s
  · exact Run_no q r w h hr hp
  · exact Run_yes q r w h hr hp
end Go.Proofs.YtihohjgjklcnlaaDoor
