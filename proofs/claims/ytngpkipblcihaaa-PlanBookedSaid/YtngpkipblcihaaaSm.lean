/-
  Contracts of slot and passageTo.
-/
import Derived.Test.YtngpkipblcihaaaSl
namespace Go.Proofs.Ytngpkipblcihaaa
open Go.RowKit

set_option maxRecDepth 100000 in
set_option maxHeartbeats 4000000 in
theorem slot_any (s : Pl.Scen) (t m d : Int) (x : Pl.Stage) (w : World) (h : PassOk s t m d) (hx : Pl.OkStage x) :
    Calls Try.prog 30 #[passV s t m d, stageV x] w (SlotPost (Pl.slot x s t m d) w) := by
  have HA := Lib.hid (fun w => arrival_any s t m d w h)
  have HD := Lib.hid (fun w => detoured_any s t m d x.m w h)
  have HL := Lib.hid (fun w => loses_any s x.m d w (by have := hx.ms; have := hx.mn; have := hx.mx; omega) h.d)
  have HS1 := Lib.hid (show Pl.loses s x.m d = false → Pl.slot x s t m d = if t + m ≤ x.m.start then some x.m else none from fun h => by unfold Pl.slot; rw [h]; rfl)
  have HS2 := Lib.hid (fun h => detour_slot (x := x) (s := s) (t := t) (m := m) (d := d) h)
  clear h hx
  generalize Pl.slot x s t m d = R at *
  obtain ⟨du, mv, de, tl, a⟩ := s
  obtain ⟨mn, mx, ⟨mt, ms⟩, ⟨st, ss⟩⟩ := x
  simp only at HS1 HS2 HL HD
  have HG := Lib.hid (below_step (below_step (below_new w (passObj ⟨du, mv, de, tl, a⟩ t m d)) (below_new _ (stageObj ⟨mn, mx, ⟨mt, ms⟩, ⟨st, ss⟩⟩))) (below_new _ (slotObj ⟨0, 0⟩)))
  have hn1 : (((w.alloc (passObj ⟨du, mv, de, tl, a⟩ t m d)).alloc (stageObj ⟨mn, mx, ⟨mt, ms⟩, ⟨st, ss⟩⟩)).alloc (slotObj ⟨0, 0⟩)).heap[w.heap.size]? = some (passObj ⟨du, mv, de, tl, a⟩ t m d) := box_below (box_below (heap_alloc_new _ _) (below_new _ _)) (below_new _ _)
  have hn2 : (((w.alloc (passObj ⟨du, mv, de, tl, a⟩ t m d)).alloc (stageObj ⟨mn, mx, ⟨mt, ms⟩, ⟨st, ss⟩⟩)).alloc (slotObj ⟨0, 0⟩)).heap[w.heap.size + 1]? = some (stageObj ⟨mn, mx, ⟨mt, ms⟩, ⟨st, ss⟩⟩) := by
    have := heap_alloc_new (w.alloc (passObj ⟨du, mv, de, tl, a⟩ t m d)) (stageObj ⟨mn, mx, ⟨mt, ms⟩, ⟨st, ss⟩⟩)
    rw [show (w.alloc (passObj ⟨du, mv, de, tl, a⟩ t m d)).heap.size = w.heap.size + 1 by simp] at this; exact box_below this (below_new _ _)
  have hn3 : (((w.alloc (passObj ⟨du, mv, de, tl, a⟩ t m d)).alloc (stageObj ⟨mn, mx, ⟨mt, ms⟩, ⟨st, ss⟩⟩)).alloc (slotObj ⟨0, 0⟩)).heap[w.heap.size + 1 + 1]? = some (slotObj ⟨0, 0⟩) := by
    have := heap_alloc_new ((w.alloc (passObj ⟨du, mv, de, tl, a⟩ t m d)).alloc (stageObj ⟨mn, mx, ⟨mt, ms⟩, ⟨st, ss⟩⟩)) (slotObj ⟨0, 0⟩)
    rw [show ((w.alloc (passObj ⟨du, mv, de, tl, a⟩ t m d)).alloc (stageObj ⟨mn, mx, ⟨mt, ms⟩, ⟨st, ss⟩⟩)).heap.size = w.heap.size + 1 + 1 by simp] at this; exact this
  have N1 := Lib.hid hn1; have N2 := Lib.hid hn2; have N3 := Lib.hid hn3; clear hn1 hn2 hn3
  dsimp only [passObj, slotObj, stageObj] at N1 N2 N3 HG
  generalize Pl.loses ⟨du, mv, de, tl, a⟩ ⟨mt, ms⟩ d = L at *
  have hsz := Lib.hid (show w.heap.size ≠ w.heap.size + 1 + 1 ∧ w.heap.size + 1 ≠ w.heap.size + 1 + 1 by omega)
  go_enter Try.func30, Try.ntmps30
  go_wp2_with fail
  generalize ((w.alloc (.cells #[.int .i64 t, .int .i64 m, .int .i64 de, .int .i64 d, .int .i64 tl, .int .i64 a] 77)).alloc (.cells #[.int .i64 mn, .int .i64 mx, .int .i64 mt, .int .i64 ms, .int .i64 st, .int .i64 ss] 45)).alloc (.cells #[.int .i64 0, .int .i64 0] 43) = W at *
  refine (HL.out _).mono ?_; rintro _ w1 ⟨rfl, g1⟩
  have P1 := Lib.hid (box_below N1.out g1); have Q1 := Lib.hid (box_below N2.out g1); have R1 := Lib.hid (box_below N3.out g1); have G1 := Lib.hid (below_step HG.out g1)
  clear g1 N1 N2 N3 HG
  have hRS := lt_of_block R1.out
  cases L
  · have HE := Lib.hid (HS1.out rfl)
    clear HS1 HS2 HD
    have HS : Hid (∀ v v1, v.heap = w1.heap → Below v.heap.size v v1 → v1.heap[w.heap.size]? = some (.cells #[.int .i64 t, .int .i64 m, .int .i64 de, .int .i64 d, .int .i64 tl, .int .i64 a] 77) ∧
        v1.heap[w.heap.size + 1]? = some (.cells #[.int .i64 mn, .int .i64 mx, .int .i64 mt, .int .i64 ms, .int .i64 st, .int .i64 ss] 45) ∧ v1.heap[w.heap.size + 1 + 1]? = some (.cells #[.int .i64 0, .int .i64 0] 43)) := Lib.hid (fun v v1 hv hb => by
      have h1 := P1.out; rw [← hv] at h1
      have h2 := Q1.out; rw [← hv] at h2
      have h3 := R1.out; rw [← hv] at h3
      exact ⟨box_below h1 hb, box_below h2 hb, box_below h3 hb⟩)
    have HC : Hid (∀ v1 : World, v1.heap[w.heap.size]? = some (.cells #[.int .i64 t, .int .i64 m, .int .i64 de, .int .i64 d, .int .i64 tl, .int .i64 a] 77) → v1.heap[w.heap.size + 1]? = some (.cells #[.int .i64 mn, .int .i64 mx, .int .i64 mt, .int .i64 ms, .int .i64 st, .int .i64 ss] 45) →
        v1.cell? ⟨w.heap.size, 0, none⟩ = some (.int .i64 t) ∧ v1.cell? ⟨w.heap.size, 1, none⟩ = some (.int .i64 m) ∧ v1.cell? ⟨w.heap.size, 2, none⟩ = some (.int .i64 de) ∧ v1.cell? ⟨w.heap.size, 3, none⟩ = some (.int .i64 d) ∧ v1.cell? ⟨w.heap.size, 4, none⟩ = some (.int .i64 tl) ∧ v1.cell? ⟨w.heap.size, 5, none⟩ = some (.int .i64 a) ∧ v1.cell? ⟨w.heap.size + 1, 2, none⟩ = some (.int .i64 mt) ∧ v1.cell? ⟨w.heap.size + 1, 3, none⟩ = some (.int .i64 ms)) := Lib.hid (fun v1 h1 h2 =>
      ⟨box_cell h1 0 _ rfl, box_cell h1 1 _ rfl, box_cell h1 2 _ rfl, box_cell h1 3 _ rfl, box_cell h1 4 _ rfl, box_cell h1 5 _ rfl, box_cell h2 2 _ rfl, box_cell h2 3 _ rfl⟩)
    have HSS : Hid (∀ (v1 : World) (x y : Value), v1.heap[w.heap.size]? = some (.cells #[.int .i64 t, .int .i64 m, .int .i64 de, .int .i64 d, .int .i64 tl, .int .i64 a] 77) → v1.heap[w.heap.size + 1]? = some (.cells #[.int .i64 mn, .int .i64 mx, .int .i64 mt, .int .i64 ms, .int .i64 st, .int .i64 ss] 45) →
        ((v1.setCell ⟨w.heap.size + 1 + 1, 0, none⟩ x).setCell ⟨w.heap.size + 1 + 1, 1, none⟩ y).heap[w.heap.size]? = some (.cells #[.int .i64 t, .int .i64 m, .int .i64 de, .int .i64 d, .int .i64 tl, .int .i64 a] 77) ∧ ((v1.setCell ⟨w.heap.size + 1 + 1, 0, none⟩ x).setCell ⟨w.heap.size + 1 + 1, 1, none⟩ y).heap[w.heap.size + 1]? = some (.cells #[.int .i64 mn, .int .i64 mx, .int .i64 mt, .int .i64 ms, .int .i64 st, .int .i64 ss] 45)) := Lib.hid (fun v1 x y h1 h2 =>
      ⟨(Below.heap_setCell _ _ _ _ hsz.out.1).trans ((Below.heap_setCell _ _ _ _ hsz.out.1).trans h1), (Below.heap_setCell _ _ _ _ hsz.out.2).trans ((Below.heap_setCell _ _ _ _ hsz.out.2).trans h2)⟩)
    have HT : Hid (∀ v v1, v.heap = w1.heap → Below v.heap.size v v1 → (v1.cell? ⟨w.heap.size + 1 + 1, 0, none⟩ = some (.int .i64 0) ∧ v1.cell? ⟨w.heap.size + 1 + 1, 1, none⟩ = some (.int .i64 0)) ∧ v1.frozen? ⟨w.heap.size + 1 + 1, 0, none⟩ = false ∧ v1.frozen? ⟨w.heap.size + 1 + 1, 1, none⟩ = false) := Lib.hid (fun v v1 hv hb => by
      have h3 := (HS.out v v1 hv hb).2.2
      exact ⟨⟨box_cell h3 0 _ rfl, box_cell h3 1 _ rfl⟩, box_fz h3 0, box_fz h3 1⟩)
    have c2 := box_cell Q1.out 2 (.int .i64 mt) rfl
    have c3 := box_cell Q1.out 3 (.int .i64 ms) rfl
    go_wp2_with fail
    go_region_held3 (fun v1 => v1.cell? ⟨w.heap.size, 0, none⟩ = some (.int .i64 t) ∧ v1.cell? ⟨w.heap.size, 1, none⟩ = some (.int .i64 m) ∧ v1.cell? ⟨w.heap.size, 2, none⟩ = some (.int .i64 de) ∧ v1.cell? ⟨w.heap.size, 3, none⟩ = some (.int .i64 d) ∧ v1.cell? ⟨w.heap.size, 4, none⟩ = some (.int .i64 tl) ∧ v1.cell? ⟨w.heap.size, 5, none⟩ = some (.int .i64 a) ∧ v1.cell? ⟨w.heap.size + 1, 2, none⟩ = some (.int .i64 mt) ∧ v1.cell? ⟨w.heap.size + 1, 3, none⟩ = some (.int .i64 ms))
      (first | exact HC.out _ (HSS.out _ _ _ (HS.out _ _ (by rfl) g1).1 (HS.out _ _ (by rfl) g1).2.1).1 (HSS.out _ _ _ (HS.out _ _ (by rfl) g1).1 (HS.out _ _ (by rfl) g1).2.1).2 | exact HC.out _ (HS.out _ _ (by rfl) g1).1 (HS.out _ _ (by rfl) g1).2.1 | exact HC.out _ (HS.out _ _ (by rfl) (Below.refl _ _)).1 (HS.out _ _ (by rfl) (Below.refl _ _)).2.1)
      (first | (go_at_call 48; refine (HA.out _).mono ?_; rintro e v1 ⟨rfl, g1⟩; have hT := HT.out _ _ (by rfl) g1; obtain ⟨⟨hT1, hT2⟩, hT3, hT4⟩ := hT))
    have G2 := Lib.hid (show Below w1.heap.size w1 v1 from ⟨g1.os, g1.tape, g1.output, g1.size, g1.block⟩); clear g1
    have R2 := Lib.hid (block_set (block_set (box_below R1.out G2.out) (o := 0) (.int .i64 mt)) (o := 1) (.int .i64 ms))
    have G3 := Lib.hid (((below_step G1.out G2.out).setCell (p := ⟨w.heap.size + 1 + 1, 0, none⟩) (by show w.heap.size ≤ w.heap.size + 1 + 1; omega) (.int .i64 mt)).setCell (p := ⟨w.heap.size + 1 + 1, 1, none⟩) (by show w.heap.size ≤ w.heap.size + 1 + 1; omega) (.int .i64 ms))
    go_wp2_with fail
    clear hT1 hT2 hT3 hT4
    generalize (v1.setCell ⟨w.heap.size + 1 + 1, 0, none⟩ (.int .i64 mt)).setCell ⟨w.heap.size + 1 + 1, 1, none⟩ (.int .i64 ms) = w3 at *
    have r0 := box_cell R2.out 0 (.int .i64 mt) rfl
    have r1 := box_cell R2.out 1 (.int .i64 ms) rfl
    refine bodyPost_ret (v := .tuple #[slotV ⟨mt, ms⟩, .bool (decide (t + m ≤ ms))]) (by simp [results, Try.results30, go_sem, r0, r1]) rfl ?_
    exact ⟨⟨mt, ms⟩, decide (t + m ≤ ms), rfl, by rw [HE.out]; simp, G3.out⟩
  · have HE := Lib.hid (HS2.out rfl)
    clear HS1 HS2
    generalize detour ⟨du, mv, de, tl, a⟩ t m ⟨mt, ms⟩ = D at *
    obtain ⟨D1, D2⟩ := D
    have c0 := box_cell P1.out 0 (.int .i64 t) rfl
    have c1 := box_cell P1.out 1 (.int .i64 m) rfl
    have c2 := box_cell P1.out 2 (.int .i64 de) rfl
    have c3 := box_cell P1.out 3 (.int .i64 d) rfl
    have c4 := box_cell P1.out 4 (.int .i64 tl) rfl
    have c5 := box_cell P1.out 5 (.int .i64 a) rfl
    have q2 := box_cell Q1.out 2 (.int .i64 mt) rfl
    have q3 := box_cell Q1.out 3 (.int .i64 ms) rfl
    go_wp2_with fail
    refine (HD.out _).mono ?_; rintro _ w2 ⟨rfl, g2⟩
    have P2 := Lib.hid (box_below P1.out g2); have Q2 := Lib.hid (box_below Q1.out g2); have R2 := Lib.hid (box_below R1.out g2); have G2 := Lib.hid (below_step G1.out g2)
    clear g2 c0 c1 c2 c3 c4 c5 q2 q3 P1 Q1 R1 G1 hRS
    have q4 := box_cell Q2.out 4 (.int .i64 st) rfl
    have q5 := box_cell Q2.out 5 (.int .i64 ss) rfl
    have r0 := box_cell R2.out 0 (.int .i64 0) rfl
    have r1 := box_cell R2.out 1 (.int .i64 0) rfl
    have z0 := box_fz R2.out 0
    have z1 := box_fz R2.out 1
    have hRS := lt_of_block R2.out
    cases D2
    · go_wp2_with fail
      go_region
      go_wp2_with fail
      have R3 := Lib.hid (block_set (block_set R2.out (o := 0) (.int .i64 st)) (o := 1) (.int .i64 ss))
      have G3 := Lib.hid (((G2.out).setCell (p := ⟨w.heap.size + 1 + 1, 0, none⟩) (by show w.heap.size ≤ w.heap.size + 1 + 1; omega) (.int .i64 st)).setCell (p := ⟨w.heap.size + 1 + 1, 1, none⟩) (by show w.heap.size ≤ w.heap.size + 1 + 1; omega) (.int .i64 ss)).drew
      clear r0 r1 z0 z1
      generalize (w2.setCell ⟨w.heap.size + 1 + 1, 0, none⟩ (.int .i64 st)).setCell ⟨w.heap.size + 1 + 1, 1, none⟩ (.int .i64 ss) = w3 at *
      have r0 := box_cell R3.out 0 (.int .i64 st) rfl
      have r1 := box_cell R3.out 1 (.int .i64 ss) rfl
      refine bodyPost_ret (v := .tuple #[slotV ⟨st, ss⟩, .bool false]) (by simp [results, Try.results30, go_sem, r0, r1]) rfl ?_
      exact ⟨⟨st, ss⟩, false, rfl, by rw [HE.out]; simp, G3.out⟩
    · go_wp2_with fail
      go_region
      go_wp2_with fail
      have R3 := Lib.hid (block_set (block_set R2.out (o := 0) (.int .i64 st)) (o := 1) (.int .i64 ss))
      have G3 := Lib.hid (((G2.out).setCell (p := ⟨w.heap.size + 1 + 1, 0, none⟩) (by show w.heap.size ≤ w.heap.size + 1 + 1; omega) (.int .i64 st)).setCell (p := ⟨w.heap.size + 1 + 1, 1, none⟩) (by show w.heap.size ≤ w.heap.size + 1 + 1; omega) (.int .i64 ss)).drew
      clear r0 r1 z0 z1
      generalize (w2.setCell ⟨w.heap.size + 1 + 1, 0, none⟩ (.int .i64 st)).setCell ⟨w.heap.size + 1 + 1, 1, none⟩ (.int .i64 ss) = w3 at *
      have r0 := box_cell R3.out 0 (.int .i64 st) rfl
      have r1 := box_cell R3.out 1 (.int .i64 ss) rfl
      refine bodyPost_ret (v := .tuple #[slotV ⟨st, ss⟩, .bool (decide (D1 ≤ ss))]) (by simp [results, Try.results30, go_sem, r0, r1]) rfl ?_
      exact ⟨⟨st, ss⟩, decide (D1 ≤ ss), rfl, by rw [HE.out]; simp, G3.out⟩
set_option maxRecDepth 100000 in
set_option maxHeartbeats 4000000 in
theorem passageTo_any (r : ScenP) (i : Nat) (t : Int) (w : World) (hr : r.ok w) (h1 : i < r.s.dur.length) (h2 : i < r.s.mv.length) :
    Calls Try.prog 29 #[.int .i64 (i : Int), r.val, .int .i64 t] w fun e w' => e = .returned (passV r.s t (r.s.mv.getD i 0) (r.s.dur.getD i 0)) ∧ Below w.heap.size w w' := by
  have HF := Lib.hid (failureOf_any r)
  obtain ⟨b1, o1, ea, hb1, k1⟩ := hr.du.2.2 i h1
  obtain ⟨b2, o2, eb, hb2, k2⟩ := hr.mv.2.2 i h2
  have m1 : w.cell? ⟨b1, o1 + i, none⟩ = some (.int .i64 (r.s.dur.getD i 0)) := by
    have := k1 0 _ rfl
    rw [List.getD_eq_getElem?_getD, List.getElem?_eq_getElem h1]; simpa using this
  have m2 : w.cell? ⟨b2, o2 + i, none⟩ = some (.int .i64 (r.s.mv.getD i 0)) := by
    have := k2 0 _ rfl
    rw [List.getD_eq_getElem?_getD, List.getElem?_eq_getElem h2]; simpa using this
  have l1 := hr.du.len
  have l2 := hr.mv.len
  unfold maxLen at l1 l2
  clear k1 k2 hr
  generalize r.s.dur.getD i 0 = x1 at *
  generalize r.s.mv.getD i 0 = x2 at *
  obtain ⟨⟨du, mv, de, tl, a⟩, da, dc, ma, mc⟩ := r
  simp only at ea eb h1 h2 l1 l2
  subst ea; subst eb
  have HG := Lib.hid (below_step (below_new w (scenObj ⟨⟨du, mv, de, tl, a⟩, some ⟨b1, o1, none⟩, dc, some ⟨b2, o2, none⟩, mc⟩)) (below_new _ (passObj ⟨[], [], 0, 0, 0⟩ 0 0 0)))
  have hn1 : ((w.alloc (scenObj ⟨⟨du, mv, de, tl, a⟩, some ⟨b1, o1, none⟩, dc, some ⟨b2, o2, none⟩, mc⟩)).alloc (passObj ⟨[], [], 0, 0, 0⟩ 0 0 0)).heap[w.heap.size]? = some (scenObj ⟨⟨du, mv, de, tl, a⟩, some ⟨b1, o1, none⟩, dc, some ⟨b2, o2, none⟩, mc⟩) := box_below (heap_alloc_new _ _) (below_new _ _)
  have hn2 : ((w.alloc (scenObj ⟨⟨du, mv, de, tl, a⟩, some ⟨b1, o1, none⟩, dc, some ⟨b2, o2, none⟩, mc⟩)).alloc (passObj ⟨[], [], 0, 0, 0⟩ 0 0 0)).heap[w.heap.size + 1]? = some (passObj ⟨[], [], 0, 0, 0⟩ 0 0 0) := by
    have := heap_alloc_new (w.alloc (scenObj ⟨⟨du, mv, de, tl, a⟩, some ⟨b1, o1, none⟩, dc, some ⟨b2, o2, none⟩, mc⟩)) (passObj ⟨[], [], 0, 0, 0⟩ 0 0 0)
    rw [show (w.alloc (scenObj ⟨⟨du, mv, de, tl, a⟩, some ⟨b1, o1, none⟩, dc, some ⟨b2, o2, none⟩, mc⟩)).heap.size = w.heap.size + 1 by simp] at this; exact this
  have M1 := Lib.hid (cell_below HG.out m1); have M2 := Lib.hid (cell_below HG.out m2)
  have N1 := Lib.hid hn1; have N2 := Lib.hid hn2; clear hn1 hn2 m1 m2
  dsimp only [passObj, scenObj] at N1 N2 HG M1 M2
  have hsz := Lib.hid (show w.heap.size ≠ w.heap.size + 1 by omega)
  have i1 : (0 : Int) ≤ (i : Int) := by omega
  have i2 : (i : Int) < (du.length : Int) := by omega
  have i3 : (i : Int) < (mv.length : Int) := by omega
  have i4 : ((i : Int)).toNat = i := by omega
  go_enter Try.func29, Try.ntmps29
  go_wp2_with fail
  generalize (w.alloc (.cells #[.slice (some ⟨b1, o1, none⟩) du.length dc, .slice (some ⟨b2, o2, none⟩) mv.length mc, .int .i64 de, .int .i64 tl, .int .i64 a] 32)).alloc (.cells #[.int .i64 0, .int .i64 0, .int .i64 0, .int .i64 0, .int .i64 0, .int .i64 0] 77) = W at *
  have hlt := Lib.hid (show b1 ≠ w.heap.size + 1 ∧ b2 ≠ w.heap.size + 1 from ⟨Nat.ne_of_lt (Nat.lt_succ_of_lt hb1), Nat.ne_of_lt (Nat.lt_succ_of_lt hb2)⟩)
  have HS : Hid (∀ v v1, v.heap = W.heap → Below v.heap.size v v1 → v1.cell? ⟨w.heap.size, 0, none⟩ = some (.slice (some ⟨b1, o1, none⟩) du.length dc) ∧ v1.cell? ⟨w.heap.size, 1, none⟩ = some (.slice (some ⟨b2, o2, none⟩) mv.length mc) ∧ v1.cell? ⟨w.heap.size, 2, none⟩ = some (.int .i64 de) ∧ v1.cell? ⟨w.heap.size, 3, none⟩ = some (.int .i64 tl) ∧ v1.cell? ⟨w.heap.size, 4, none⟩ = some (.int .i64 a) ∧ v1.cell? ⟨b1, o1 + i, none⟩ = some (.int .i64 x1) ∧ v1.cell? ⟨b2, o2 + i, none⟩ = some (.int .i64 x2)) := Lib.hid (fun v v1 hv hb => by
    have h1 := N1.out; rw [← hv] at h1
    have h1 := box_below h1 hb
    have c1 : v.cell? ⟨b1, o1 + i, none⟩ = some (.int .i64 x1) := by rw [← M1.out]; unfold World.cell?; rw [hv]
    have c2 : v.cell? ⟨b2, o2 + i, none⟩ = some (.int .i64 x2) := by rw [← M2.out]; unfold World.cell?; rw [hv]
    exact ⟨box_cell h1 0 _ rfl, box_cell h1 1 _ rfl, box_cell h1 2 _ rfl, box_cell h1 3 _ rfl, box_cell h1 4 _ rfl, cell_below hb c1, cell_below hb c2⟩)
  have HSS : Hid (∀ (v1 : World) (y0 y1 y2 y3 y4 y5 : Value), (v1.cell? ⟨w.heap.size, 0, none⟩ = some (.slice (some ⟨b1, o1, none⟩) du.length dc) ∧ v1.cell? ⟨w.heap.size, 1, none⟩ = some (.slice (some ⟨b2, o2, none⟩) mv.length mc) ∧ v1.cell? ⟨w.heap.size, 2, none⟩ = some (.int .i64 de) ∧ v1.cell? ⟨w.heap.size, 3, none⟩ = some (.int .i64 tl) ∧ v1.cell? ⟨w.heap.size, 4, none⟩ = some (.int .i64 a) ∧ v1.cell? ⟨b1, o1 + i, none⟩ = some (.int .i64 x1) ∧ v1.cell? ⟨b2, o2 + i, none⟩ = some (.int .i64 x2)) → ((((((v1.setCell ⟨w.heap.size + 1, 0, none⟩ y0).setCell ⟨w.heap.size + 1, 1, none⟩ y1).setCell ⟨w.heap.size + 1, 2, none⟩ y2).setCell ⟨w.heap.size + 1, 3, none⟩ y3).setCell ⟨w.heap.size + 1, 4, none⟩ y4).setCell ⟨w.heap.size + 1, 5, none⟩ y5).cell? ⟨w.heap.size, 0, none⟩ = some (.slice (some ⟨b1, o1, none⟩) du.length dc) ∧ ((((((v1.setCell ⟨w.heap.size + 1, 0, none⟩ y0).setCell ⟨w.heap.size + 1, 1, none⟩ y1).setCell ⟨w.heap.size + 1, 2, none⟩ y2).setCell ⟨w.heap.size + 1, 3, none⟩ y3).setCell ⟨w.heap.size + 1, 4, none⟩ y4).setCell ⟨w.heap.size + 1, 5, none⟩ y5).cell? ⟨w.heap.size, 1, none⟩ = some (.slice (some ⟨b2, o2, none⟩) mv.length mc) ∧ ((((((v1.setCell ⟨w.heap.size + 1, 0, none⟩ y0).setCell ⟨w.heap.size + 1, 1, none⟩ y1).setCell ⟨w.heap.size + 1, 2, none⟩ y2).setCell ⟨w.heap.size + 1, 3, none⟩ y3).setCell ⟨w.heap.size + 1, 4, none⟩ y4).setCell ⟨w.heap.size + 1, 5, none⟩ y5).cell? ⟨w.heap.size, 2, none⟩ = some (.int .i64 de) ∧ ((((((v1.setCell ⟨w.heap.size + 1, 0, none⟩ y0).setCell ⟨w.heap.size + 1, 1, none⟩ y1).setCell ⟨w.heap.size + 1, 2, none⟩ y2).setCell ⟨w.heap.size + 1, 3, none⟩ y3).setCell ⟨w.heap.size + 1, 4, none⟩ y4).setCell ⟨w.heap.size + 1, 5, none⟩ y5).cell? ⟨w.heap.size, 3, none⟩ = some (.int .i64 tl) ∧ ((((((v1.setCell ⟨w.heap.size + 1, 0, none⟩ y0).setCell ⟨w.heap.size + 1, 1, none⟩ y1).setCell ⟨w.heap.size + 1, 2, none⟩ y2).setCell ⟨w.heap.size + 1, 3, none⟩ y3).setCell ⟨w.heap.size + 1, 4, none⟩ y4).setCell ⟨w.heap.size + 1, 5, none⟩ y5).cell? ⟨w.heap.size, 4, none⟩ = some (.int .i64 a) ∧ ((((((v1.setCell ⟨w.heap.size + 1, 0, none⟩ y0).setCell ⟨w.heap.size + 1, 1, none⟩ y1).setCell ⟨w.heap.size + 1, 2, none⟩ y2).setCell ⟨w.heap.size + 1, 3, none⟩ y3).setCell ⟨w.heap.size + 1, 4, none⟩ y4).setCell ⟨w.heap.size + 1, 5, none⟩ y5).cell? ⟨b1, o1 + i, none⟩ = some (.int .i64 x1) ∧ ((((((v1.setCell ⟨w.heap.size + 1, 0, none⟩ y0).setCell ⟨w.heap.size + 1, 1, none⟩ y1).setCell ⟨w.heap.size + 1, 2, none⟩ y2).setCell ⟨w.heap.size + 1, 3, none⟩ y3).setCell ⟨w.heap.size + 1, 4, none⟩ y4).setCell ⟨w.heap.size + 1, 5, none⟩ y5).cell? ⟨b2, o2 + i, none⟩ = some (.int .i64 x2)) := Lib.hid (fun v1 y0 y1 y2 y3 y4 y5 ⟨h0, h1, h2, h3, h4, h5, h6⟩ => by
    have st : ∀ (v : World) (k : Nat) (y : Value) (b o : Nat) (z : Value), b ≠ w.heap.size + 1 → v.cell? ⟨b, o, none⟩ = some z → (v.setCell ⟨w.heap.size + 1, k, none⟩ y).cell? ⟨b, o, none⟩ = some z := fun v k y b o z hne hz =>
      (World.cell?_of_block (a := ⟨b, o, none⟩) (Below.heap_setCell _ _ _ _ hne)).trans hz
    have all : ∀ (b o : Nat) (z : Value), b ≠ w.heap.size + 1 → v1.cell? ⟨b, o, none⟩ = some z → ((((((v1.setCell ⟨w.heap.size + 1, 0, none⟩ y0).setCell ⟨w.heap.size + 1, 1, none⟩ y1).setCell ⟨w.heap.size + 1, 2, none⟩ y2).setCell ⟨w.heap.size + 1, 3, none⟩ y3).setCell ⟨w.heap.size + 1, 4, none⟩ y4).setCell ⟨w.heap.size + 1, 5, none⟩ y5).cell? ⟨b, o, none⟩ = some z := fun b o z hne hz =>
      st _ _ _ _ _ _ hne (st _ _ _ _ _ _ hne (st _ _ _ _ _ _ hne (st _ _ _ _ _ _ hne (st _ _ _ _ _ _ hne (st _ _ _ _ _ _ hne hz)))))
    exact ⟨all _ _ _ hsz.out h0, all _ _ _ hsz.out h1, all _ _ _ hsz.out h2, all _ _ _ hsz.out h3, all _ _ _ hsz.out h4, all _ _ _ hlt.out.1 h5, all _ _ _ hlt.out.2 h6⟩)
  have HT : Hid (∀ v v1, v.heap = W.heap → Below v.heap.size v v1 → (v1.cell? ⟨w.heap.size + 1, 0, none⟩ = some (.int .i64 0) ∧ v1.cell? ⟨w.heap.size + 1, 1, none⟩ = some (.int .i64 0) ∧ v1.cell? ⟨w.heap.size + 1, 2, none⟩ = some (.int .i64 0) ∧ v1.cell? ⟨w.heap.size + 1, 3, none⟩ = some (.int .i64 0) ∧ v1.cell? ⟨w.heap.size + 1, 4, none⟩ = some (.int .i64 0) ∧ v1.cell? ⟨w.heap.size + 1, 5, none⟩ = some (.int .i64 0)) ∧
      v1.frozen? ⟨w.heap.size + 1, 0, none⟩ = false ∧ v1.frozen? ⟨w.heap.size + 1, 1, none⟩ = false ∧ v1.frozen? ⟨w.heap.size + 1, 2, none⟩ = false ∧ v1.frozen? ⟨w.heap.size + 1, 3, none⟩ = false ∧ v1.frozen? ⟨w.heap.size + 1, 4, none⟩ = false ∧ v1.frozen? ⟨w.heap.size + 1, 5, none⟩ = false) := Lib.hid (fun v v1 hv hb => by
    have h2 := N2.out; rw [← hv] at h2
    have h2 := box_below h2 hb
    exact ⟨⟨box_cell h2 0 _ rfl, box_cell h2 1 _ rfl, box_cell h2 2 _ rfl, box_cell h2 3 _ rfl, box_cell h2 4 _ rfl, box_cell h2 5 _ rfl⟩, box_fz h2 0, box_fz h2 1, box_fz h2 2, box_fz h2 3, box_fz h2 4, box_fz h2 5⟩)
  have hRS := lt_of_block N2.out
  have HW : Hid (W.drew.heap = W.heap) := Lib.hid rfl
  have HS0 : Hid (W.drew.cell? ⟨w.heap.size, 0, none⟩ = some (.slice (some ⟨b1, o1, none⟩) du.length dc) ∧ W.drew.cell? ⟨w.heap.size, 1, none⟩ = some (.slice (some ⟨b2, o2, none⟩) mv.length mc) ∧ W.drew.cell? ⟨w.heap.size, 2, none⟩ = some (.int .i64 de) ∧ W.drew.cell? ⟨w.heap.size, 3, none⟩ = some (.int .i64 tl) ∧ W.drew.cell? ⟨w.heap.size, 4, none⟩ = some (.int .i64 a) ∧ W.drew.cell? ⟨b1, o1 + i, none⟩ = some (.int .i64 x1) ∧ W.drew.cell? ⟨b2, o2 + i, none⟩ = some (.int .i64 x2)) := Lib.hid (HS.out W.drew W.drew rfl (Below.refl _ _))
  go_region_held3 (fun v1 => v1.cell? ⟨w.heap.size, 0, none⟩ = some (.slice (some ⟨b1, o1, none⟩) du.length dc) ∧ v1.cell? ⟨w.heap.size, 1, none⟩ = some (.slice (some ⟨b2, o2, none⟩) mv.length mc) ∧ v1.cell? ⟨w.heap.size, 2, none⟩ = some (.int .i64 de) ∧ v1.cell? ⟨w.heap.size, 3, none⟩ = some (.int .i64 tl) ∧ v1.cell? ⟨w.heap.size, 4, none⟩ = some (.int .i64 a) ∧ v1.cell? ⟨b1, o1 + i, none⟩ = some (.int .i64 x1) ∧ v1.cell? ⟨b2, o2 + i, none⟩ = some (.int .i64 x2))
    (first | with_reducible exact HS0.out | with_reducible exact HS.out _ _ hv1 g1 | with_reducible exact HSS.out _ _ _ _ _ _ _ (HS.out _ _ hv1 g1))
    (first | (go_at_call 41; refine (HF.out _).mono ?_; rintro e v1 ⟨rfl, g1⟩; have hv1 := HW.out; have hT := HT.out _ _ (HW.out) g1; obtain ⟨⟨hT0, hT1, hT2, hT3, hT4, hT5⟩, hT6, hT7, hT8, hT9, hTa, hTb⟩ := hT))
  have G2 := Lib.hid (show Below W.heap.size W v1 from ⟨g1.os, g1.tape, g1.output, g1.size, g1.block⟩); clear g1 hv1
  have R2 := Lib.hid (block_set (block_set (block_set (block_set (block_set (block_set (box_below N2.out G2.out) (o := 0) (.int .i64 t)) (o := 1) (.int .i64 x2)) (o := 2) (.int .i64 de)) (o := 3) (.int .i64 x1)) (o := 4) (.int .i64 tl)) (o := 5) (.int .i64 a))
  have up : ∀ (v : World) (k : Nat) (y : Value), Below w.heap.size w v → Below w.heap.size w (v.setCell ⟨w.heap.size + 1, k, none⟩ y) := fun v k y h => h.setCell (p := ⟨w.heap.size + 1, k, none⟩) (by show w.heap.size ≤ w.heap.size + 1; omega) y
  have G3 := Lib.hid (up _ 5 (.int .i64 a) (up _ 4 (.int .i64 tl) (up _ 3 (.int .i64 x1) (up _ 2 (.int .i64 de) (up _ 1 (.int .i64 x2) (up _ 0 (.int .i64 t) (below_step HG.out G2.out)))))))
  go_wp2_with fail
  clear hT0 hT1 hT2 hT3 hT4 hT5 hT6 hT7 hT8 hT9 hTa hTb up
  generalize ((((((v1.setCell ⟨w.heap.size + 1, 0, none⟩ (.int .i64 t)).setCell ⟨w.heap.size + 1, 1, none⟩ (.int .i64 x2)).setCell ⟨w.heap.size + 1, 2, none⟩ (.int .i64 de)).setCell ⟨w.heap.size + 1, 3, none⟩ (.int .i64 x1)).setCell ⟨w.heap.size + 1, 4, none⟩ (.int .i64 tl)).setCell ⟨w.heap.size + 1, 5, none⟩ (.int .i64 a)) = w3 at *
  have r0 := box_cell R2.out 0 (.int .i64 t) rfl
  have r1 := box_cell R2.out 1 (.int .i64 x2) rfl
  have r2 := box_cell R2.out 2 (.int .i64 de) rfl
  have r3 := box_cell R2.out 3 (.int .i64 x1) rfl
  have r4 := box_cell R2.out 4 (.int .i64 tl) rfl
  have r5 := box_cell R2.out 5 (.int .i64 a) rfl
  refine bodyPost_ret (v := passV ⟨du, mv, de, tl, a⟩ t x2 x1) (by simp [results, Try.results29, go_sem, r0, r1, r2, r3, r4, r5]) rfl ?_
  exact ⟨rfl, G3.out⟩
end Go.Proofs.Ytngpkipblcihaaa
