/-
  Contracts of loses, arrival, detoured.
  Contracts of slot and passageTo.
  What Run keeps in memory; the contract of its closure.
  The contract of Run.
  What Run keeps in memory while its loops run.
-/
import Derived.Test.YtihohjgjklcnlaaDoorQBd
import Derived.StillTailTactics
import Derived.Deep.RegionHeld3
import Derived.BigRegion
import Derived.WalkMore
import Derived.Deep.LoopGhost
namespace Go.Proofs.YtihohjgjklcnlaaDoor
open Go.RowKit

/-- A passage: when they leave, the move, the duration, in a scenario. -/
abbrev passV (s : Pl.Scen) (t m d : Int) : Value := .agg #[.int .i64 t, .int .i64 m, .int .i64 s.det, .int .i64 d, .int .i64 s.tool, .int .i64 s.at_]
abbrev passObj (s : Pl.Scen) (t m d : Int) : Obj := .cells #[.int .i64 t, .int .i64 m, .int .i64 s.det, .int .i64 d, .int .i64 s.tool, .int .i64 s.at_] 89
abbrev slotObj (o : Pl.Slot) : Obj := .cells #[.int .i64 o.tool, .int .i64 o.start] 43
theorem loses_any (s : Pl.Scen) (x : Pl.Slot) (d : Int) (w : World) (h1 : 0 ≤ x.start ∧ x.start ≤ 1000000) (h2 : 0 ≤ d ∧ d ≤ 10000) :
    Calls Tryd.prog 64 #[failV s, slotV x, .int .i64 d] w fun e w' => e = .returned (.bool (Pl.loses s x d)) ∧ Below w.heap.size w w' := by
  obtain ⟨du, mv, de, t, a⟩ := s
  obtain ⟨xt, xs⟩ := x
  simp only at h1
  have HG := Lib.hid (below_step (below_new w (.cells #[.int .i64 t, .int .i64 a] 87)) (below_new _ (slotObj ⟨xt, xs⟩)))
  have e1 : IntKind.i64.wrap (xs + d) = xs + d := IntWalk.i64_in _ (by omega)
  unfold Pl.loses
  simp only
  by_cases h : t = xt
  · subst h
    go_enter Tryd.func64, Tryd.ntmps64
    go_wp2_with fail
    go_ret
    exact ⟨ret_bool (by simp), HG.out⟩
  · have h' : (t == xt) = false := by rw [beq_eq_false_iff_ne]; exact h
    have H := Lib.hid h; clear h
    go_enter Tryd.func64, Tryd.ntmps64
    go_wp2_with fail
    go_ret
    exact ⟨ret_bool (by rw [decide_eq_false H.out]; rfl), HG.out⟩
/-- Bounds of a passage. -/
structure PassOk (s : Pl.Scen) (t m d : Int) : Prop where
  t : 0 ≤ t ∧ t ≤ 1100000
  m : 0 ≤ m ∧ m ≤ 10000
  d : 0 ≤ d ∧ d ≤ 10000
  det : 0 ≤ s.det ∧ s.det ≤ 10000
  at_ : 0 ≤ s.at_ ∧ s.at_ ≤ 1000000
theorem arrival_any (s : Pl.Scen) (t m d : Int) (w : World) (h : PassOk s t m d) : Calls Tryd.prog 65 #[passV s t m d] w fun e w' => e = .returned (.int .i64 (t + m)) ∧ Below w.heap.size w w' := by
  have e1 : IntKind.i64.wrap (t + m) = t + m := IntWalk.i64_in _ (by have := h.t; have := h.m; omega)
  clear h
  go_enter Tryd.func65, Tryd.ntmps65
  go_wp2_with fail
  go_ret
  exact ⟨rfl, below_new _ _⟩
/-- When the wafers are at the spare slot's tool. -/
def detour (s : Pl.Scen) (t m : Int) (x : Pl.Slot) : Int × Bool :=
  if s.at_ ≤ t then (t + m, true) else if s.at_ < x.start then (max (t + m) s.at_ + s.det, true) else (s.at_ + s.det, decide (t + m ≤ x.start))
set_option maxRecDepth 100000 in
set_option maxHeartbeats 2000000 in
theorem detoured_any (s : Pl.Scen) (t m d : Int) (x : Pl.Slot) (w : World) (h : PassOk s t m d) :
    Calls Tryd.prog 66 #[passV s t m d, slotV x] w fun e w' => e = .returned (.tuple #[.int .i64 (detour s t m x).1, .bool (detour s t m x).2]) ∧ Below w.heap.size w w' := by
  have HA := Lib.hid (fun w => arrival_any s t m d w h)
  obtain ⟨h1, h2, h3, h4, h5⟩ := h
  obtain ⟨du, mv, de, tl, a⟩ := s
  obtain ⟨xt, xs⟩ := x
  simp only at h4 h5
  have HG := Lib.hid (below_step (below_new w (passObj ⟨du, mv, de, tl, a⟩ t m d)) (below_new _ (slotObj ⟨xt, xs⟩)))
  have hn1 : ((w.alloc (passObj ⟨du, mv, de, tl, a⟩ t m d)).alloc (slotObj ⟨xt, xs⟩)).heap[w.heap.size]? = some (passObj ⟨du, mv, de, tl, a⟩ t m d) := box_below (heap_alloc_new _ _) (below_new _ _)
  have hn2 : ((w.alloc (passObj ⟨du, mv, de, tl, a⟩ t m d)).alloc (slotObj ⟨xt, xs⟩)).heap[w.heap.size + 1]? = some (slotObj ⟨xt, xs⟩) := by
    have := heap_alloc_new (w.alloc (passObj ⟨du, mv, de, tl, a⟩ t m d)) (slotObj ⟨xt, xs⟩)
    rw [show (w.alloc (passObj ⟨du, mv, de, tl, a⟩ t m d)).heap.size = w.heap.size + 1 by simp] at this; exact this
  have N1 := Lib.hid hn1; have N2 := Lib.hid hn2; clear hn1 hn2
  have e1 : IntKind.i64.wrap (a + de) = a + de := IntWalk.i64_in _ (by omega)
  have e2 : IntKind.i64.wrap (t + m + de) = t + m + de := IntWalk.i64_in _ (by omega)
  clear h1 h2 h3 h4 h5
  dsimp only [passObj, slotObj] at N1 N2 HG
  by_cases k1 : a ≤ t
  · have HE := Lib.hid (show detour ⟨du, mv, de, tl, a⟩ t m ⟨xt, xs⟩ = (t + m, true) by unfold detour; rw [if_pos k1])
    go_enter Tryd.func66, Tryd.ntmps66
    go_wp2_with fail
    refine (HA.out _).mono ?_; rintro _ w1 ⟨rfl, g1⟩
    have G1 := Lib.hid g1; clear g1
    go_wp2_with fail
    go_ret2
    exact ⟨by rw [HE.out]; rfl, below_step HG.out G1.out⟩
  · by_cases k2 : a < xs
    · have HE := Lib.hid (show detour ⟨du, mv, de, tl, a⟩ t m ⟨xt, xs⟩ = (max (t + m) a + de, true) by unfold detour; rw [if_neg k1, if_pos k2])
      go_enter Tryd.func66, Tryd.ntmps66
      go_wp2_with fail
      generalize (w.alloc (.cells #[.int .i64 t, .int .i64 m, .int .i64 de, .int .i64 d, .int .i64 tl, .int .i64 a] 89)).alloc (.cells #[.int .i64 xt, .int .i64 xs] 43) = W at *
      have HS : Hid (∀ v v1, v.heap = W.heap → Below v.heap.size v v1 → v1.cell? ⟨w.heap.size, 0, none⟩ = some (.int .i64 t) ∧ v1.cell? ⟨w.heap.size, 1, none⟩ = some (.int .i64 m) ∧ v1.cell? ⟨w.heap.size, 2, none⟩ = some (.int .i64 de) ∧ v1.cell? ⟨w.heap.size, 3, none⟩ = some (.int .i64 d) ∧ v1.cell? ⟨w.heap.size, 4, none⟩ = some (.int .i64 tl) ∧ v1.cell? ⟨w.heap.size, 5, none⟩ = some (.int .i64 a)) := Lib.hid (fun v v1 hv hb => by
        have hm := N1.out; rw [← hv] at hm
        have hm := box_below hm hb
        exact ⟨box_cell hm 0 _ rfl, box_cell hm 1 _ rfl, box_cell hm 2 _ rfl, box_cell hm 3 _ rfl, box_cell hm 4 _ rfl, box_cell hm 5 _ rfl⟩)
      go_region_held3 (fun v1 => v1.cell? ⟨w.heap.size, 0, none⟩ = some (.int .i64 t) ∧ v1.cell? ⟨w.heap.size, 1, none⟩ = some (.int .i64 m) ∧ v1.cell? ⟨w.heap.size, 2, none⟩ = some (.int .i64 de) ∧ v1.cell? ⟨w.heap.size, 3, none⟩ = some (.int .i64 d) ∧ v1.cell? ⟨w.heap.size, 4, none⟩ = some (.int .i64 tl) ∧ v1.cell? ⟨w.heap.size, 5, none⟩ = some (.int .i64 a))
        (first | exact HS.out _ _ (by rfl) g1 | exact HS.out _ _ (by rfl) (Below.refl _ _))
        (first | (go_at_call 65; refine (HA.out _).mono ?_; rintro e v1 ⟨rfl, g1⟩))
      all_goals
        have G1 := Lib.hid (show Below W.heap.size W v1 from ⟨g1.os, g1.tape, g1.output, g1.size, g1.block⟩); clear g1
        go_wp2_with fail
        all_goals
          go_ret2
          exact ⟨by rw [HE.out]; first | (rw [Int.max_eq_right (by omega)]; rfl) | (rw [Int.max_eq_left (by omega)]; rfl), below_step HG.out G1.out⟩
    · have HE := Lib.hid (show detour ⟨du, mv, de, tl, a⟩ t m ⟨xt, xs⟩ = (a + de, decide (t + m ≤ xs)) by unfold detour; rw [if_neg k1, if_neg k2])
      go_enter Tryd.func66, Tryd.ntmps66
      go_wp2_with fail
      generalize (w.alloc (.cells #[.int .i64 t, .int .i64 m, .int .i64 de, .int .i64 d, .int .i64 tl, .int .i64 a] 89)).alloc (.cells #[.int .i64 xt, .int .i64 xs] 43) = W at *
      have HS : Hid (∀ v v1, v.heap = W.heap → Below v.heap.size v v1 → v1.cell? ⟨w.heap.size, 0, none⟩ = some (.int .i64 t) ∧ v1.cell? ⟨w.heap.size, 1, none⟩ = some (.int .i64 m) ∧ v1.cell? ⟨w.heap.size, 2, none⟩ = some (.int .i64 de) ∧ v1.cell? ⟨w.heap.size, 3, none⟩ = some (.int .i64 d) ∧ v1.cell? ⟨w.heap.size, 4, none⟩ = some (.int .i64 tl) ∧ v1.cell? ⟨w.heap.size, 5, none⟩ = some (.int .i64 a) ∧ v1.cell? ⟨w.heap.size + 1, 1, none⟩ = some (.int .i64 xs)) := Lib.hid (fun v v1 hv hb => by
        have hm := N1.out; rw [← hv] at hm
        have hm := box_below hm hb
        have hk := N2.out; rw [← hv] at hk
        have hk := box_below hk hb
        exact ⟨box_cell hm 0 _ rfl, box_cell hm 1 _ rfl, box_cell hm 2 _ rfl, box_cell hm 3 _ rfl, box_cell hm 4 _ rfl, box_cell hm 5 _ rfl, box_cell hk 1 _ rfl⟩)
      go_region_held3 (fun v1 => v1.cell? ⟨w.heap.size, 0, none⟩ = some (.int .i64 t) ∧ v1.cell? ⟨w.heap.size, 1, none⟩ = some (.int .i64 m) ∧ v1.cell? ⟨w.heap.size, 2, none⟩ = some (.int .i64 de) ∧ v1.cell? ⟨w.heap.size, 3, none⟩ = some (.int .i64 d) ∧ v1.cell? ⟨w.heap.size, 4, none⟩ = some (.int .i64 tl) ∧ v1.cell? ⟨w.heap.size, 5, none⟩ = some (.int .i64 a) ∧ v1.cell? ⟨w.heap.size + 1, 1, none⟩ = some (.int .i64 xs))
        (first | exact HS.out _ _ (by rfl) g1 | exact HS.out _ _ (by rfl) (Below.refl _ _))
        (first | (go_at_call 65; refine (HA.out _).mono ?_; rintro e v1 ⟨rfl, g1⟩))
      have G1 := Lib.hid (show Below W.heap.size W v1 from ⟨g1.os, g1.tape, g1.output, g1.size, g1.block⟩); clear g1
      go_wp2_with fail
      go_ret2
      exact ⟨by rw [HE.out]; rfl, below_step HG.out G1.out⟩
theorem detour_slot {x : Pl.Stage} {s : Pl.Scen} {t m d : Int} (h : Pl.loses s x.m d = true) : Pl.slot x s t m d = if (detour s t m x.m).2 && decide ((detour s t m x.m).1 ≤ x.s.start) then some x.s else none := by
  unfold Pl.slot detour
  rw [if_pos h]
  by_cases c1 : s.at_ ≤ t
  · rw [if_pos c1, if_pos c1]; simp only [Bool.true_and, decide_eq_true_eq]
  · rw [if_neg c1, if_neg c1]
    by_cases c2 : s.at_ < x.m.start
    · rw [if_pos c2, if_pos c2]; simp only [Bool.true_and, decide_eq_true_eq]
    · rw [if_neg c2, if_neg c2]; simp only [Bool.and_eq_true, decide_eq_true_eq]
/-- What slot answers. -/
def SlotPost (o : Option Pl.Slot) (w : World) (e : Ending) (w' : World) : Prop := ∃ (p : Pl.Slot) (b : Bool), e = .returned (.tuple #[slotV p, .bool b]) ∧ o = (if b then some p else none) ∧ Below w.heap.size w w'
end Go.Proofs.YtihohjgjklcnlaaDoor

namespace Go.Proofs.YtihohjgjklcnlaaDoor
open Go.RowKit

set_option maxRecDepth 100000 in
set_option maxHeartbeats 4000000 in
theorem slot_any (s : Pl.Scen) (t m d : Int) (x : Pl.Stage) (w : World) (h : PassOk s t m d) (hx : Pl.OkStage x) :
    Calls Tryd.prog 37 #[passV s t m d, stageV x] w (SlotPost (Pl.slot x s t m d) w) := by
  have HA := Lib.hid (fun w => arrival_any s t m d w h)
  have HD := Lib.hid (fun w => detoured_any s t m d x.m w h)
  have HL := Lib.hid (fun w => loses_any s x.m d w (by have := hx.ms; have := hx.mn; have := hx.mx; omega) h.d)
  have HS1 := Lib.hid (show Pl.loses s x.m d = false → Pl.slot x s t m d = if t + m ≤ x.m.start then some x.m else none from fun h => by unfold Pl.slot; rw [h]; rfl)
  have HS2 := Lib.hid (fun h => detour_slot (x := x) (s := s) (t := t) (m := m) (d := d) h)
  clear h hx
  generalize Pl.slot x s t m d = R at *
  obtain ⟨du, mv, de, tl, a⟩ := s
  obtain ⟨mn, mx, ⟨mt, ms⟩, ⟨st, ss⟩⟩ := x
  simp only at HS1 HS2 HL HD
  have HG := Lib.hid (below_step (below_step (below_new w (passObj ⟨du, mv, de, tl, a⟩ t m d)) (below_new _ (stageObj ⟨mn, mx, ⟨mt, ms⟩, ⟨st, ss⟩⟩))) (below_new _ (slotObj ⟨0, 0⟩)))
  have hn1 : (((w.alloc (passObj ⟨du, mv, de, tl, a⟩ t m d)).alloc (stageObj ⟨mn, mx, ⟨mt, ms⟩, ⟨st, ss⟩⟩)).alloc (slotObj ⟨0, 0⟩)).heap[w.heap.size]? = some (passObj ⟨du, mv, de, tl, a⟩ t m d) := box_below (box_below (heap_alloc_new _ _) (below_new _ _)) (below_new _ _)
  have hn2 : (((w.alloc (passObj ⟨du, mv, de, tl, a⟩ t m d)).alloc (stageObj ⟨mn, mx, ⟨mt, ms⟩, ⟨st, ss⟩⟩)).alloc (slotObj ⟨0, 0⟩)).heap[w.heap.size + 1]? = some (stageObj ⟨mn, mx, ⟨mt, ms⟩, ⟨st, ss⟩⟩) := by
    have := heap_alloc_new (w.alloc (passObj ⟨du, mv, de, tl, a⟩ t m d)) (stageObj ⟨mn, mx, ⟨mt, ms⟩, ⟨st, ss⟩⟩)
    rw [show (w.alloc (passObj ⟨du, mv, de, tl, a⟩ t m d)).heap.size = w.heap.size + 1 by simp] at this; exact box_below this (below_new _ _)
  have hn3 : (((w.alloc (passObj ⟨du, mv, de, tl, a⟩ t m d)).alloc (stageObj ⟨mn, mx, ⟨mt, ms⟩, ⟨st, ss⟩⟩)).alloc (slotObj ⟨0, 0⟩)).heap[w.heap.size + 1 + 1]? = some (slotObj ⟨0, 0⟩) := by
    have := heap_alloc_new ((w.alloc (passObj ⟨du, mv, de, tl, a⟩ t m d)).alloc (stageObj ⟨mn, mx, ⟨mt, ms⟩, ⟨st, ss⟩⟩)) (slotObj ⟨0, 0⟩)
    rw [show ((w.alloc (passObj ⟨du, mv, de, tl, a⟩ t m d)).alloc (stageObj ⟨mn, mx, ⟨mt, ms⟩, ⟨st, ss⟩⟩)).heap.size = w.heap.size + 1 + 1 by simp] at this; exact this
  have N1 := Lib.hid hn1; have N2 := Lib.hid hn2; have N3 := Lib.hid hn3; clear hn1 hn2 hn3
  dsimp only [passObj, slotObj, stageObj] at N1 N2 N3 HG
  generalize Pl.loses ⟨du, mv, de, tl, a⟩ ⟨mt, ms⟩ d = L at *
  have hsz := Lib.hid (show w.heap.size ≠ w.heap.size + 1 + 1 ∧ w.heap.size + 1 ≠ w.heap.size + 1 + 1 by omega)
  go_enter Tryd.func37, Tryd.ntmps37
  go_wp2_with fail
  generalize ((w.alloc (.cells #[.int .i64 t, .int .i64 m, .int .i64 de, .int .i64 d, .int .i64 tl, .int .i64 a] 89)).alloc (.cells #[.int .i64 mn, .int .i64 mx, .int .i64 mt, .int .i64 ms, .int .i64 st, .int .i64 ss] 45)).alloc (.cells #[.int .i64 0, .int .i64 0] 43) = W at *
  refine (HL.out _).mono ?_; rintro _ w1 ⟨rfl, g1⟩
  have P1 := Lib.hid (box_below N1.out g1); have Q1 := Lib.hid (box_below N2.out g1); have R1 := Lib.hid (box_below N3.out g1); have G1 := Lib.hid (below_step HG.out g1)
  clear g1 N1 N2 N3 HG
  have hRS := lt_of_block R1.out
  cases L
  · have HE := Lib.hid (HS1.out rfl)
    clear HS1 HS2 HD
    have HS : Hid (∀ v v1, v.heap = w1.heap → Below v.heap.size v v1 → v1.heap[w.heap.size]? = some (.cells #[.int .i64 t, .int .i64 m, .int .i64 de, .int .i64 d, .int .i64 tl, .int .i64 a] 89) ∧
        v1.heap[w.heap.size + 1]? = some (.cells #[.int .i64 mn, .int .i64 mx, .int .i64 mt, .int .i64 ms, .int .i64 st, .int .i64 ss] 45) ∧ v1.heap[w.heap.size + 1 + 1]? = some (.cells #[.int .i64 0, .int .i64 0] 43)) := Lib.hid (fun v v1 hv hb => by
      have h1 := P1.out; rw [← hv] at h1
      have h2 := Q1.out; rw [← hv] at h2
      have h3 := R1.out; rw [← hv] at h3
      exact ⟨box_below h1 hb, box_below h2 hb, box_below h3 hb⟩)
    have HC : Hid (∀ v1 : World, v1.heap[w.heap.size]? = some (.cells #[.int .i64 t, .int .i64 m, .int .i64 de, .int .i64 d, .int .i64 tl, .int .i64 a] 89) → v1.heap[w.heap.size + 1]? = some (.cells #[.int .i64 mn, .int .i64 mx, .int .i64 mt, .int .i64 ms, .int .i64 st, .int .i64 ss] 45) →
        v1.cell? ⟨w.heap.size, 0, none⟩ = some (.int .i64 t) ∧ v1.cell? ⟨w.heap.size, 1, none⟩ = some (.int .i64 m) ∧ v1.cell? ⟨w.heap.size, 2, none⟩ = some (.int .i64 de) ∧ v1.cell? ⟨w.heap.size, 3, none⟩ = some (.int .i64 d) ∧ v1.cell? ⟨w.heap.size, 4, none⟩ = some (.int .i64 tl) ∧ v1.cell? ⟨w.heap.size, 5, none⟩ = some (.int .i64 a) ∧ v1.cell? ⟨w.heap.size + 1, 2, none⟩ = some (.int .i64 mt) ∧ v1.cell? ⟨w.heap.size + 1, 3, none⟩ = some (.int .i64 ms)) := Lib.hid (fun v1 h1 h2 =>
      ⟨box_cell h1 0 _ rfl, box_cell h1 1 _ rfl, box_cell h1 2 _ rfl, box_cell h1 3 _ rfl, box_cell h1 4 _ rfl, box_cell h1 5 _ rfl, box_cell h2 2 _ rfl, box_cell h2 3 _ rfl⟩)
    have HSS : Hid (∀ (v1 : World) (x y : Value), v1.heap[w.heap.size]? = some (.cells #[.int .i64 t, .int .i64 m, .int .i64 de, .int .i64 d, .int .i64 tl, .int .i64 a] 89) → v1.heap[w.heap.size + 1]? = some (.cells #[.int .i64 mn, .int .i64 mx, .int .i64 mt, .int .i64 ms, .int .i64 st, .int .i64 ss] 45) →
        ((v1.setCell ⟨w.heap.size + 1 + 1, 0, none⟩ x).setCell ⟨w.heap.size + 1 + 1, 1, none⟩ y).heap[w.heap.size]? = some (.cells #[.int .i64 t, .int .i64 m, .int .i64 de, .int .i64 d, .int .i64 tl, .int .i64 a] 89) ∧ ((v1.setCell ⟨w.heap.size + 1 + 1, 0, none⟩ x).setCell ⟨w.heap.size + 1 + 1, 1, none⟩ y).heap[w.heap.size + 1]? = some (.cells #[.int .i64 mn, .int .i64 mx, .int .i64 mt, .int .i64 ms, .int .i64 st, .int .i64 ss] 45)) := Lib.hid (fun v1 x y h1 h2 =>
      ⟨(Below.heap_setCell _ _ _ _ hsz.out.1).trans ((Below.heap_setCell _ _ _ _ hsz.out.1).trans h1), (Below.heap_setCell _ _ _ _ hsz.out.2).trans ((Below.heap_setCell _ _ _ _ hsz.out.2).trans h2)⟩)
    have HT : Hid (∀ v v1, v.heap = w1.heap → Below v.heap.size v v1 → (v1.cell? ⟨w.heap.size + 1 + 1, 0, none⟩ = some (.int .i64 0) ∧ v1.cell? ⟨w.heap.size + 1 + 1, 1, none⟩ = some (.int .i64 0)) ∧ v1.frozen? ⟨w.heap.size + 1 + 1, 0, none⟩ = false ∧ v1.frozen? ⟨w.heap.size + 1 + 1, 1, none⟩ = false) := Lib.hid (fun v v1 hv hb => by
      have h3 := (HS.out v v1 hv hb).2.2
      exact ⟨⟨box_cell h3 0 _ rfl, box_cell h3 1 _ rfl⟩, box_fz h3 0, box_fz h3 1⟩)
    have c2 := box_cell Q1.out 2 (.int .i64 mt) rfl
    have c3 := box_cell Q1.out 3 (.int .i64 ms) rfl
    go_wp2_with fail
    go_region_held3 (fun v1 => v1.cell? ⟨w.heap.size, 0, none⟩ = some (.int .i64 t) ∧ v1.cell? ⟨w.heap.size, 1, none⟩ = some (.int .i64 m) ∧ v1.cell? ⟨w.heap.size, 2, none⟩ = some (.int .i64 de) ∧ v1.cell? ⟨w.heap.size, 3, none⟩ = some (.int .i64 d) ∧ v1.cell? ⟨w.heap.size, 4, none⟩ = some (.int .i64 tl) ∧ v1.cell? ⟨w.heap.size, 5, none⟩ = some (.int .i64 a) ∧ v1.cell? ⟨w.heap.size + 1, 2, none⟩ = some (.int .i64 mt) ∧ v1.cell? ⟨w.heap.size + 1, 3, none⟩ = some (.int .i64 ms))
      (first | exact HC.out _ (HSS.out _ _ _ (HS.out _ _ (by rfl) g1).1 (HS.out _ _ (by rfl) g1).2.1).1 (HSS.out _ _ _ (HS.out _ _ (by rfl) g1).1 (HS.out _ _ (by rfl) g1).2.1).2 | exact HC.out _ (HS.out _ _ (by rfl) g1).1 (HS.out _ _ (by rfl) g1).2.1 | exact HC.out _ (HS.out _ _ (by rfl) (Below.refl _ _)).1 (HS.out _ _ (by rfl) (Below.refl _ _)).2.1)
      (first | (go_at_call 65; refine (HA.out _).mono ?_; rintro e v1 ⟨rfl, g1⟩; have hT := HT.out _ _ (by rfl) g1; obtain ⟨⟨hT1, hT2⟩, hT3, hT4⟩ := hT))
    have G2 := Lib.hid (show Below w1.heap.size w1 v1 from ⟨g1.os, g1.tape, g1.output, g1.size, g1.block⟩); clear g1
    have R2 := Lib.hid (block_set (block_set (box_below R1.out G2.out) (o := 0) (.int .i64 mt)) (o := 1) (.int .i64 ms))
    have G3 := Lib.hid (((below_step G1.out G2.out).setCell (p := ⟨w.heap.size + 1 + 1, 0, none⟩) (by show w.heap.size ≤ w.heap.size + 1 + 1; omega) (.int .i64 mt)).setCell (p := ⟨w.heap.size + 1 + 1, 1, none⟩) (by show w.heap.size ≤ w.heap.size + 1 + 1; omega) (.int .i64 ms))
    go_wp2_with fail
    clear hT1 hT2 hT3 hT4
    generalize (v1.setCell ⟨w.heap.size + 1 + 1, 0, none⟩ (.int .i64 mt)).setCell ⟨w.heap.size + 1 + 1, 1, none⟩ (.int .i64 ms) = w3 at *
    have r0 := box_cell R2.out 0 (.int .i64 mt) rfl
    have r1 := box_cell R2.out 1 (.int .i64 ms) rfl
    refine bodyPost_ret (v := .tuple #[slotV ⟨mt, ms⟩, .bool (decide (t + m ≤ ms))]) (by simp [results, Tryd.results37, go_sem, r0, r1]) rfl ?_
    exact ⟨⟨mt, ms⟩, decide (t + m ≤ ms), rfl, by rw [HE.out]; simp, G3.out⟩
  · have HE := Lib.hid (HS2.out rfl)
    clear HS1 HS2
    generalize detour ⟨du, mv, de, tl, a⟩ t m ⟨mt, ms⟩ = D at *
    obtain ⟨D1, D2⟩ := D
    have c0 := box_cell P1.out 0 (.int .i64 t) rfl
    have c1 := box_cell P1.out 1 (.int .i64 m) rfl
    have c2 := box_cell P1.out 2 (.int .i64 de) rfl
    have c3 := box_cell P1.out 3 (.int .i64 d) rfl
    have c4 := box_cell P1.out 4 (.int .i64 tl) rfl
    have c5 := box_cell P1.out 5 (.int .i64 a) rfl
    have q2 := box_cell Q1.out 2 (.int .i64 mt) rfl
    have q3 := box_cell Q1.out 3 (.int .i64 ms) rfl
    go_wp2_with fail
    refine (HD.out _).mono ?_; rintro _ w2 ⟨rfl, g2⟩
    have P2 := Lib.hid (box_below P1.out g2); have Q2 := Lib.hid (box_below Q1.out g2); have R2 := Lib.hid (box_below R1.out g2); have G2 := Lib.hid (below_step G1.out g2)
    clear g2 c0 c1 c2 c3 c4 c5 q2 q3 P1 Q1 R1 G1 hRS
    have q4 := box_cell Q2.out 4 (.int .i64 st) rfl
    have q5 := box_cell Q2.out 5 (.int .i64 ss) rfl
    have r0 := box_cell R2.out 0 (.int .i64 0) rfl
    have r1 := box_cell R2.out 1 (.int .i64 0) rfl
    have z0 := box_fz R2.out 0
    have z1 := box_fz R2.out 1
    have hRS := lt_of_block R2.out
    cases D2
    · go_wp2_with fail
      go_region
      go_wp2_with fail
      have R3 := Lib.hid (block_set (block_set R2.out (o := 0) (.int .i64 st)) (o := 1) (.int .i64 ss))
      have G3 := Lib.hid (((G2.out).setCell (p := ⟨w.heap.size + 1 + 1, 0, none⟩) (by show w.heap.size ≤ w.heap.size + 1 + 1; omega) (.int .i64 st)).setCell (p := ⟨w.heap.size + 1 + 1, 1, none⟩) (by show w.heap.size ≤ w.heap.size + 1 + 1; omega) (.int .i64 ss)).drew
      clear r0 r1 z0 z1
      generalize (w2.setCell ⟨w.heap.size + 1 + 1, 0, none⟩ (.int .i64 st)).setCell ⟨w.heap.size + 1 + 1, 1, none⟩ (.int .i64 ss) = w3 at *
      have r0 := box_cell R3.out 0 (.int .i64 st) rfl
      have r1 := box_cell R3.out 1 (.int .i64 ss) rfl
      refine bodyPost_ret (v := .tuple #[slotV ⟨st, ss⟩, .bool false]) (by simp [results, Tryd.results37, go_sem, r0, r1]) rfl ?_
      exact ⟨⟨st, ss⟩, false, rfl, by rw [HE.out]; simp, G3.out⟩
    · go_wp2_with fail
      go_region
      go_wp2_with fail
      have R3 := Lib.hid (block_set (block_set R2.out (o := 0) (.int .i64 st)) (o := 1) (.int .i64 ss))
      have G3 := Lib.hid (((G2.out).setCell (p := ⟨w.heap.size + 1 + 1, 0, none⟩) (by show w.heap.size ≤ w.heap.size + 1 + 1; omega) (.int .i64 st)).setCell (p := ⟨w.heap.size + 1 + 1, 1, none⟩) (by show w.heap.size ≤ w.heap.size + 1 + 1; omega) (.int .i64 ss)).drew
      clear r0 r1 z0 z1
      generalize (w2.setCell ⟨w.heap.size + 1 + 1, 0, none⟩ (.int .i64 st)).setCell ⟨w.heap.size + 1 + 1, 1, none⟩ (.int .i64 ss) = w3 at *
      have r0 := box_cell R3.out 0 (.int .i64 st) rfl
      have r1 := box_cell R3.out 1 (.int .i64 ss) rfl
      refine bodyPost_ret (v := .tuple #[slotV ⟨st, ss⟩, .bool (decide (D1 ≤ ss))]) (by simp [results, Tryd.results37, go_sem, r0, r1]) rfl ?_
      exact ⟨⟨st, ss⟩, decide (D1 ≤ ss), rfl, by rw [HE.out]; simp, G3.out⟩
set_option maxRecDepth 100000 in
set_option maxHeartbeats 4000000 in
theorem passageTo_any (r : ScenP) (i : Nat) (t : Int) (w : World) (hr : r.ok w) (h1 : i < r.s.dur.length) (h2 : i < r.s.mv.length) :
    Calls Tryd.prog 36 #[.int .i64 (i : Int), r.val, .int .i64 t] w fun e w' => e = .returned (passV r.s t (r.s.mv.getD i 0) (r.s.dur.getD i 0)) ∧ Below w.heap.size w w' := by
  have HF := Lib.hid (failureOf_any r)
  obtain ⟨b1, o1, ea, hb1, k1⟩ := hr.du.2.2 i h1
  obtain ⟨b2, o2, eb, hb2, k2⟩ := hr.mv.2.2 i h2
  have m1 : w.cell? ⟨b1, o1 + i, none⟩ = some (.int .i64 (r.s.dur.getD i 0)) := by
    have := k1 0 _ rfl
    rw [List.getD_eq_getElem?_getD, List.getElem?_eq_getElem h1]; simpa using this
  have m2 : w.cell? ⟨b2, o2 + i, none⟩ = some (.int .i64 (r.s.mv.getD i 0)) := by
    have := k2 0 _ rfl
    rw [List.getD_eq_getElem?_getD, List.getElem?_eq_getElem h2]; simpa using this
  have l1 := hr.du.len
  have l2 := hr.mv.len
  unfold maxLen at l1 l2
  clear k1 k2 hr
  generalize r.s.dur.getD i 0 = x1 at *
  generalize r.s.mv.getD i 0 = x2 at *
  obtain ⟨⟨du, mv, de, tl, a⟩, da, dc, ma, mc⟩ := r
  simp only at ea eb h1 h2 l1 l2
  subst ea; subst eb
  have HG := Lib.hid (below_step (below_new w (scenObj ⟨⟨du, mv, de, tl, a⟩, some ⟨b1, o1, none⟩, dc, some ⟨b2, o2, none⟩, mc⟩)) (below_new _ (passObj ⟨[], [], 0, 0, 0⟩ 0 0 0)))
  have hn1 : ((w.alloc (scenObj ⟨⟨du, mv, de, tl, a⟩, some ⟨b1, o1, none⟩, dc, some ⟨b2, o2, none⟩, mc⟩)).alloc (passObj ⟨[], [], 0, 0, 0⟩ 0 0 0)).heap[w.heap.size]? = some (scenObj ⟨⟨du, mv, de, tl, a⟩, some ⟨b1, o1, none⟩, dc, some ⟨b2, o2, none⟩, mc⟩) := box_below (heap_alloc_new _ _) (below_new _ _)
  have hn2 : ((w.alloc (scenObj ⟨⟨du, mv, de, tl, a⟩, some ⟨b1, o1, none⟩, dc, some ⟨b2, o2, none⟩, mc⟩)).alloc (passObj ⟨[], [], 0, 0, 0⟩ 0 0 0)).heap[w.heap.size + 1]? = some (passObj ⟨[], [], 0, 0, 0⟩ 0 0 0) := by
    have := heap_alloc_new (w.alloc (scenObj ⟨⟨du, mv, de, tl, a⟩, some ⟨b1, o1, none⟩, dc, some ⟨b2, o2, none⟩, mc⟩)) (passObj ⟨[], [], 0, 0, 0⟩ 0 0 0)
    rw [show (w.alloc (scenObj ⟨⟨du, mv, de, tl, a⟩, some ⟨b1, o1, none⟩, dc, some ⟨b2, o2, none⟩, mc⟩)).heap.size = w.heap.size + 1 by simp] at this; exact this
  have M1 := Lib.hid (cell_below HG.out m1); have M2 := Lib.hid (cell_below HG.out m2)
  have N1 := Lib.hid hn1; have N2 := Lib.hid hn2; clear hn1 hn2 m1 m2
  dsimp only [passObj, scenObj] at N1 N2 HG M1 M2
  have hsz := Lib.hid (show w.heap.size ≠ w.heap.size + 1 by omega)
  have i1 : (0 : Int) ≤ (i : Int) := by omega
  have i2 : (i : Int) < (du.length : Int) := by omega
  have i3 : (i : Int) < (mv.length : Int) := by omega
  have i4 : ((i : Int)).toNat = i := by omega
  go_enter Tryd.func36, Tryd.ntmps36
  go_wp2_with fail
  generalize (w.alloc (.cells #[.slice (some ⟨b1, o1, none⟩) du.length dc, .slice (some ⟨b2, o2, none⟩) mv.length mc, .int .i64 de, .int .i64 tl, .int .i64 a] 32)).alloc (.cells #[.int .i64 0, .int .i64 0, .int .i64 0, .int .i64 0, .int .i64 0, .int .i64 0] 89) = W at *
  have hlt := Lib.hid (show b1 ≠ w.heap.size + 1 ∧ b2 ≠ w.heap.size + 1 from ⟨Nat.ne_of_lt (Nat.lt_succ_of_lt hb1), Nat.ne_of_lt (Nat.lt_succ_of_lt hb2)⟩)
  have HS : Hid (∀ v v1, v.heap = W.heap → Below v.heap.size v v1 → v1.cell? ⟨w.heap.size, 0, none⟩ = some (.slice (some ⟨b1, o1, none⟩) du.length dc) ∧ v1.cell? ⟨w.heap.size, 1, none⟩ = some (.slice (some ⟨b2, o2, none⟩) mv.length mc) ∧ v1.cell? ⟨w.heap.size, 2, none⟩ = some (.int .i64 de) ∧ v1.cell? ⟨w.heap.size, 3, none⟩ = some (.int .i64 tl) ∧ v1.cell? ⟨w.heap.size, 4, none⟩ = some (.int .i64 a) ∧ v1.cell? ⟨b1, o1 + i, none⟩ = some (.int .i64 x1) ∧ v1.cell? ⟨b2, o2 + i, none⟩ = some (.int .i64 x2)) := Lib.hid (fun v v1 hv hb => by
    have h1 := N1.out; rw [← hv] at h1
    have h1 := box_below h1 hb
    have c1 : v.cell? ⟨b1, o1 + i, none⟩ = some (.int .i64 x1) := by rw [← M1.out]; unfold World.cell?; rw [hv]
    have c2 : v.cell? ⟨b2, o2 + i, none⟩ = some (.int .i64 x2) := by rw [← M2.out]; unfold World.cell?; rw [hv]
    exact ⟨box_cell h1 0 _ rfl, box_cell h1 1 _ rfl, box_cell h1 2 _ rfl, box_cell h1 3 _ rfl, box_cell h1 4 _ rfl, cell_below hb c1, cell_below hb c2⟩)
  have HSS : Hid (∀ (v1 : World) (y0 y1 y2 y3 y4 y5 : Value), (v1.cell? ⟨w.heap.size, 0, none⟩ = some (.slice (some ⟨b1, o1, none⟩) du.length dc) ∧ v1.cell? ⟨w.heap.size, 1, none⟩ = some (.slice (some ⟨b2, o2, none⟩) mv.length mc) ∧ v1.cell? ⟨w.heap.size, 2, none⟩ = some (.int .i64 de) ∧ v1.cell? ⟨w.heap.size, 3, none⟩ = some (.int .i64 tl) ∧ v1.cell? ⟨w.heap.size, 4, none⟩ = some (.int .i64 a) ∧ v1.cell? ⟨b1, o1 + i, none⟩ = some (.int .i64 x1) ∧ v1.cell? ⟨b2, o2 + i, none⟩ = some (.int .i64 x2)) → ((((((v1.setCell ⟨w.heap.size + 1, 0, none⟩ y0).setCell ⟨w.heap.size + 1, 1, none⟩ y1).setCell ⟨w.heap.size + 1, 2, none⟩ y2).setCell ⟨w.heap.size + 1, 3, none⟩ y3).setCell ⟨w.heap.size + 1, 4, none⟩ y4).setCell ⟨w.heap.size + 1, 5, none⟩ y5).cell? ⟨w.heap.size, 0, none⟩ = some (.slice (some ⟨b1, o1, none⟩) du.length dc) ∧ ((((((v1.setCell ⟨w.heap.size + 1, 0, none⟩ y0).setCell ⟨w.heap.size + 1, 1, none⟩ y1).setCell ⟨w.heap.size + 1, 2, none⟩ y2).setCell ⟨w.heap.size + 1, 3, none⟩ y3).setCell ⟨w.heap.size + 1, 4, none⟩ y4).setCell ⟨w.heap.size + 1, 5, none⟩ y5).cell? ⟨w.heap.size, 1, none⟩ = some (.slice (some ⟨b2, o2, none⟩) mv.length mc) ∧ ((((((v1.setCell ⟨w.heap.size + 1, 0, none⟩ y0).setCell ⟨w.heap.size + 1, 1, none⟩ y1).setCell ⟨w.heap.size + 1, 2, none⟩ y2).setCell ⟨w.heap.size + 1, 3, none⟩ y3).setCell ⟨w.heap.size + 1, 4, none⟩ y4).setCell ⟨w.heap.size + 1, 5, none⟩ y5).cell? ⟨w.heap.size, 2, none⟩ = some (.int .i64 de) ∧ ((((((v1.setCell ⟨w.heap.size + 1, 0, none⟩ y0).setCell ⟨w.heap.size + 1, 1, none⟩ y1).setCell ⟨w.heap.size + 1, 2, none⟩ y2).setCell ⟨w.heap.size + 1, 3, none⟩ y3).setCell ⟨w.heap.size + 1, 4, none⟩ y4).setCell ⟨w.heap.size + 1, 5, none⟩ y5).cell? ⟨w.heap.size, 3, none⟩ = some (.int .i64 tl) ∧ ((((((v1.setCell ⟨w.heap.size + 1, 0, none⟩ y0).setCell ⟨w.heap.size + 1, 1, none⟩ y1).setCell ⟨w.heap.size + 1, 2, none⟩ y2).setCell ⟨w.heap.size + 1, 3, none⟩ y3).setCell ⟨w.heap.size + 1, 4, none⟩ y4).setCell ⟨w.heap.size + 1, 5, none⟩ y5).cell? ⟨w.heap.size, 4, none⟩ = some (.int .i64 a) ∧ ((((((v1.setCell ⟨w.heap.size + 1, 0, none⟩ y0).setCell ⟨w.heap.size + 1, 1, none⟩ y1).setCell ⟨w.heap.size + 1, 2, none⟩ y2).setCell ⟨w.heap.size + 1, 3, none⟩ y3).setCell ⟨w.heap.size + 1, 4, none⟩ y4).setCell ⟨w.heap.size + 1, 5, none⟩ y5).cell? ⟨b1, o1 + i, none⟩ = some (.int .i64 x1) ∧ ((((((v1.setCell ⟨w.heap.size + 1, 0, none⟩ y0).setCell ⟨w.heap.size + 1, 1, none⟩ y1).setCell ⟨w.heap.size + 1, 2, none⟩ y2).setCell ⟨w.heap.size + 1, 3, none⟩ y3).setCell ⟨w.heap.size + 1, 4, none⟩ y4).setCell ⟨w.heap.size + 1, 5, none⟩ y5).cell? ⟨b2, o2 + i, none⟩ = some (.int .i64 x2)) := Lib.hid (fun v1 y0 y1 y2 y3 y4 y5 ⟨h0, h1, h2, h3, h4, h5, h6⟩ => by
    have st : ∀ (v : World) (k : Nat) (y : Value) (b o : Nat) (z : Value), b ≠ w.heap.size + 1 → v.cell? ⟨b, o, none⟩ = some z → (v.setCell ⟨w.heap.size + 1, k, none⟩ y).cell? ⟨b, o, none⟩ = some z := fun v k y b o z hne hz =>
      (World.cell?_of_block (a := ⟨b, o, none⟩) (Below.heap_setCell _ _ _ _ hne)).trans hz
    have all : ∀ (b o : Nat) (z : Value), b ≠ w.heap.size + 1 → v1.cell? ⟨b, o, none⟩ = some z → ((((((v1.setCell ⟨w.heap.size + 1, 0, none⟩ y0).setCell ⟨w.heap.size + 1, 1, none⟩ y1).setCell ⟨w.heap.size + 1, 2, none⟩ y2).setCell ⟨w.heap.size + 1, 3, none⟩ y3).setCell ⟨w.heap.size + 1, 4, none⟩ y4).setCell ⟨w.heap.size + 1, 5, none⟩ y5).cell? ⟨b, o, none⟩ = some z := fun b o z hne hz =>
      st _ _ _ _ _ _ hne (st _ _ _ _ _ _ hne (st _ _ _ _ _ _ hne (st _ _ _ _ _ _ hne (st _ _ _ _ _ _ hne (st _ _ _ _ _ _ hne hz)))))
    exact ⟨all _ _ _ hsz.out h0, all _ _ _ hsz.out h1, all _ _ _ hsz.out h2, all _ _ _ hsz.out h3, all _ _ _ hsz.out h4, all _ _ _ hlt.out.1 h5, all _ _ _ hlt.out.2 h6⟩)
  have HT : Hid (∀ v v1, v.heap = W.heap → Below v.heap.size v v1 → (v1.cell? ⟨w.heap.size + 1, 0, none⟩ = some (.int .i64 0) ∧ v1.cell? ⟨w.heap.size + 1, 1, none⟩ = some (.int .i64 0) ∧ v1.cell? ⟨w.heap.size + 1, 2, none⟩ = some (.int .i64 0) ∧ v1.cell? ⟨w.heap.size + 1, 3, none⟩ = some (.int .i64 0) ∧ v1.cell? ⟨w.heap.size + 1, 4, none⟩ = some (.int .i64 0) ∧ v1.cell? ⟨w.heap.size + 1, 5, none⟩ = some (.int .i64 0)) ∧
      v1.frozen? ⟨w.heap.size + 1, 0, none⟩ = false ∧ v1.frozen? ⟨w.heap.size + 1, 1, none⟩ = false ∧ v1.frozen? ⟨w.heap.size + 1, 2, none⟩ = false ∧ v1.frozen? ⟨w.heap.size + 1, 3, none⟩ = false ∧ v1.frozen? ⟨w.heap.size + 1, 4, none⟩ = false ∧ v1.frozen? ⟨w.heap.size + 1, 5, none⟩ = false) := Lib.hid (fun v v1 hv hb => by
    have h2 := N2.out; rw [← hv] at h2
    have h2 := box_below h2 hb
    exact ⟨⟨box_cell h2 0 _ rfl, box_cell h2 1 _ rfl, box_cell h2 2 _ rfl, box_cell h2 3 _ rfl, box_cell h2 4 _ rfl, box_cell h2 5 _ rfl⟩, box_fz h2 0, box_fz h2 1, box_fz h2 2, box_fz h2 3, box_fz h2 4, box_fz h2 5⟩)
  have hRS := lt_of_block N2.out
  have HW : Hid (W.drew.heap = W.heap) := Lib.hid rfl
  have HS0 : Hid (W.drew.cell? ⟨w.heap.size, 0, none⟩ = some (.slice (some ⟨b1, o1, none⟩) du.length dc) ∧ W.drew.cell? ⟨w.heap.size, 1, none⟩ = some (.slice (some ⟨b2, o2, none⟩) mv.length mc) ∧ W.drew.cell? ⟨w.heap.size, 2, none⟩ = some (.int .i64 de) ∧ W.drew.cell? ⟨w.heap.size, 3, none⟩ = some (.int .i64 tl) ∧ W.drew.cell? ⟨w.heap.size, 4, none⟩ = some (.int .i64 a) ∧ W.drew.cell? ⟨b1, o1 + i, none⟩ = some (.int .i64 x1) ∧ W.drew.cell? ⟨b2, o2 + i, none⟩ = some (.int .i64 x2)) := Lib.hid (HS.out W.drew W.drew rfl (Below.refl _ _))
  go_region_held3 (fun v1 => v1.cell? ⟨w.heap.size, 0, none⟩ = some (.slice (some ⟨b1, o1, none⟩) du.length dc) ∧ v1.cell? ⟨w.heap.size, 1, none⟩ = some (.slice (some ⟨b2, o2, none⟩) mv.length mc) ∧ v1.cell? ⟨w.heap.size, 2, none⟩ = some (.int .i64 de) ∧ v1.cell? ⟨w.heap.size, 3, none⟩ = some (.int .i64 tl) ∧ v1.cell? ⟨w.heap.size, 4, none⟩ = some (.int .i64 a) ∧ v1.cell? ⟨b1, o1 + i, none⟩ = some (.int .i64 x1) ∧ v1.cell? ⟨b2, o2 + i, none⟩ = some (.int .i64 x2))
    (first | with_reducible exact HS0.out | with_reducible exact HS.out _ _ hv1 g1 | with_reducible exact HSS.out _ _ _ _ _ _ _ (HS.out _ _ hv1 g1))
    (first | (go_at_call 41; refine (HF.out _).mono ?_; rintro e v1 ⟨rfl, g1⟩; have hv1 := HW.out; have hT := HT.out _ _ (HW.out) g1; obtain ⟨⟨hT0, hT1, hT2, hT3, hT4, hT5⟩, hT6, hT7, hT8, hT9, hTa, hTb⟩ := hT))
  have G2 := Lib.hid (show Below W.heap.size W v1 from ⟨g1.os, g1.tape, g1.output, g1.size, g1.block⟩); clear g1 hv1
  have R2 := Lib.hid (block_set (block_set (block_set (block_set (block_set (block_set (box_below N2.out G2.out) (o := 0) (.int .i64 t)) (o := 1) (.int .i64 x2)) (o := 2) (.int .i64 de)) (o := 3) (.int .i64 x1)) (o := 4) (.int .i64 tl)) (o := 5) (.int .i64 a))
  have up : ∀ (v : World) (k : Nat) (y : Value), Below w.heap.size w v → Below w.heap.size w (v.setCell ⟨w.heap.size + 1, k, none⟩ y) := fun v k y h => h.setCell (p := ⟨w.heap.size + 1, k, none⟩) (by show w.heap.size ≤ w.heap.size + 1; omega) y
  have G3 := Lib.hid (up _ 5 (.int .i64 a) (up _ 4 (.int .i64 tl) (up _ 3 (.int .i64 x1) (up _ 2 (.int .i64 de) (up _ 1 (.int .i64 x2) (up _ 0 (.int .i64 t) (below_step HG.out G2.out)))))))
  go_wp2_with fail
  clear hT0 hT1 hT2 hT3 hT4 hT5 hT6 hT7 hT8 hT9 hTa hTb up
  generalize ((((((v1.setCell ⟨w.heap.size + 1, 0, none⟩ (.int .i64 t)).setCell ⟨w.heap.size + 1, 1, none⟩ (.int .i64 x2)).setCell ⟨w.heap.size + 1, 2, none⟩ (.int .i64 de)).setCell ⟨w.heap.size + 1, 3, none⟩ (.int .i64 x1)).setCell ⟨w.heap.size + 1, 4, none⟩ (.int .i64 tl)).setCell ⟨w.heap.size + 1, 5, none⟩ (.int .i64 a)) = w3 at *
  have r0 := box_cell R2.out 0 (.int .i64 t) rfl
  have r1 := box_cell R2.out 1 (.int .i64 x2) rfl
  have r2 := box_cell R2.out 2 (.int .i64 de) rfl
  have r3 := box_cell R2.out 3 (.int .i64 x1) rfl
  have r4 := box_cell R2.out 4 (.int .i64 tl) rfl
  have r5 := box_cell R2.out 5 (.int .i64 a) rfl
  refine bodyPost_ret (v := passV ⟨du, mv, de, tl, a⟩ t x2 x1) (by simp [results, Tryd.results36, go_sem, r0, r1, r2, r3, r4, r5]) rfl ?_
  exact ⟨rfl, G3.out⟩
end Go.Proofs.YtihohjgjklcnlaaDoor

namespace Go.Proofs.YtihohjgjklcnlaaDoor
open Go.RowKit

theorem vs_cells {w : World} {b o : Nat} {x : Pl.Visit} (h : ∀ (j : Nat) (v : Value), (visitCells x)[j]? = some v → w.cell? ⟨b, o + j, none⟩ = some v) :
    w.cell? ⟨b, o, none⟩ = some (.int .i64 x.step) ∧ w.cell? ⟨b, o + 1, none⟩ = some (.int .i64 x.tool) ∧ w.cell? ⟨b, o + 2, none⟩ = some (.int .i64 x.start) ∧ w.cell? ⟨b, o + 3, none⟩ = some (.int .i64 x.fin) := ⟨h 0 _ rfl, h 1 _ rfl, h 2 _ rfl, h 3 _ rfl⟩
/-- Times within a million. -/
def VBd (V : List Pl.Visit) : Prop := ∀ x ∈ V, (0 ≤ x.start ∧ x.start ≤ 1000000) ∧ 0 ≤ x.fin ∧ x.fin ≤ 1010000
abbrev winObj (x : Pl.Win) : Obj := .cells #[.int .i64 x.f, .int .i64 x.t, .int .i64 x.lim] 49
set_option maxRecDepth 100000 in
set_option maxHeartbeats 2000000 in
theorem Run1_any (x : Pl.Win) (g : Nat) (a : Option Addr) (c : Nat) (V : List Pl.Visit) (w : World) (hg : w.cell? ⟨g, 0, none⟩ = some (.slice a V.length c)) (hV : VsA w a c V) (hb : VBd V) (h0 : 0 ≤ x.f) (h1 : x.f < x.t) (h2 : x.t < V.length) :
    Calls Tryd.prog 35 #[winV x, .pointer (some ⟨g, 0, none⟩)] w fun e w' => e = .returned (.bool (Pl.missed V x)) ∧ Below w.heap.size w w' := by
  obtain ⟨f, t, lim⟩ := x
  simp only at h0 h1 h2
  obtain ⟨n, rfl⟩ := Int.eq_ofNat_of_zero_le h0
  obtain ⟨m, rfl⟩ := Int.eq_ofNat_of_zero_le (show 0 ≤ t by omega)
  have hn : n < V.length := by omega
  have hm : m < V.length := by omega
  obtain ⟨b, off, rfl, hbb, hc⟩ := hV.at (by omega)
  obtain ⟨-, -, -, n3⟩ := vs_cells (hc n hn)
  obtain ⟨-, -, m2, -⟩ := vs_cells (hc m hm)
  have hl := hV.len
  unfold maxLen at hl
  have HE := Lib.hid (show Pl.missed V ⟨(n : Int), (m : Int), lim⟩ = decide (V[m].start - V[n].fin > lim) by unfold Pl.missed; rw [Pl.nth_lt hn, Pl.nth_lt hm])
  have b1 := hb _ (List.getElem_mem hn)
  have b2 := hb _ (List.getElem_mem hm)
  have e1 : IntKind.i64.wrap (V[m].start - V[n].fin) = V[m].start - V[n].fin := IntWalk.i64_in _ (by omega)
  rw [HE.out]
  clear hc hb b1 b2 hV HE h0 h1 h2
  have HG := Lib.hid (below_new w (winObj ⟨(n : Int), (m : Int), lim⟩))
  have i1 : (0 : Int) ≤ (n : Int) := by omega
  have i2 : (n : Int) < (V.length : Int) := by omega
  have i3 : (0 : Int) ≤ (m : Int) := by omega
  have i4 : (m : Int) < (V.length : Int) := by omega
  have i5 : ((n : Int)).toNat = n := by omega
  have i6 : ((m : Int)).toNat = m := by omega
  generalize V[m].start = s at *
  generalize V[n].fin = e at *
  clear hn hm
  generalize V.length = l at *
  have hw : w.heap[w.heap.size]? = none := by simp
  have N := Lib.hid (heap_alloc_new w (winObj ⟨(n : Int), (m : Int), lim⟩))
  have C := Lib.hid (show (w.alloc (winObj ⟨(n : Int), (m : Int), lim⟩)).cell? ⟨g, 0, none⟩ = some (.slice (some ⟨b, off, none⟩) l c) ∧ (w.alloc (winObj ⟨(n : Int), (m : Int), lim⟩)).cell? ⟨b, off + n * 4 + 3, none⟩ = some (.int .i64 e) ∧ (w.alloc (winObj ⟨(n : Int), (m : Int), lim⟩)).cell? ⟨b, off + m * 4 + 2, none⟩ = some (.int .i64 s) from ⟨cell_below HG.out hg, cell_below HG.out n3, cell_below HG.out m2⟩)
  clear hg n3 m2 hw
  dsimp only [winObj] at N HG C
  go_enter Tryd.func35, Tryd.ntmps35
  go_wp2_with fail
  generalize w.alloc (.cells #[.int .i64 (n : Int), .int .i64 (m : Int), .int .i64 lim] 49) = W at *
  obtain ⟨c1, c2, c3⟩ := C.out
  have k0 := box_cell N.out 0 (.int .i64 (n : Int)) rfl
  have k1 := box_cell N.out 1 (.int .i64 (m : Int)) rfl
  have k2 := box_cell N.out 2 (.int .i64 lim) rfl
  clear C N
  go_quiet (fail)
  go_wp2_with fail
  go_ret
  exact ⟨rfl, below_drewN HG.out _⟩
end Go.Proofs.YtihohjgjklcnlaaDoor

namespace Go.Proofs.YtihohjgjklcnlaaDoor
open Go.RowKit

abbrev lateObj (k n : Int) : Obj := .cells #[.int .i64 k, .int .i64 n] 38
/-- What Run answers. -/
def Pl.answer (p : Pl.Plan) (s : Pl.Scen) : Pl.Res × Int := if Pl.possible p s then (Pl.run p s, 0) else (⟨[], 0, 0⟩, 80)
def RunPost (p : Pl.Plan) (s : Pl.Scen) (w : World) (e : Ending) (w' : World) : Prop :=
  ∃ a c, e = .returned (.tuple #[.slice a (Pl.answer p s).1.V.length c, .agg #[.int .i64 (Pl.answer p s).1.kind, .int .i64 (Pl.answer p s).1.num], .int .i64 (Pl.answer p s).2]) ∧ VsO w' w.heap.size (.slice a (Pl.answer p s).1.V.length c) (Pl.answer p s).1.V ∧ Below w.heap.size w w'
theorem info_visit : (Tryd.prog.info? 47).map (fun i => (i.zero, i.size, i.bytes)) = some (some (.agg #[.int .i64 0, .int .i64 0, .int .i64 0, .int .i64 0]), 4, 32) := by kernel_rfl
set_option maxRecDepth 100000 in
set_option maxHeartbeats 2000000 in
theorem Run_no (q : PlanP) (r : ScenP) (w : World) (h : q.ok w) (hr : r.ok w) (hp : Pl.possible q.p r.s = false) : Calls Tryd.prog 14 #[q.val, r.val] w (RunPost q.p r.s w) := by
  have HP := Lib.hid (fun v (hv : Below w.heap.size w v) => Possible_any q r v (h.below hv) (hr.below hv))
  rw [hp] at HP
  have HA := Lib.hid (show Pl.answer q.p r.s = (⟨[], 0, 0⟩, 80) by unfold Pl.answer; rw [hp]; rfl)
  have HG := Lib.hid (below_step (below_step (below_new w (planObj q)) (below_new _ (scenObj r))) (below_new _ (lateObj 0 0)))
  have hn3 : (((w.alloc (planObj q)).alloc (scenObj r)).alloc (lateObj 0 0)).heap[w.heap.size + 1 + 1]? = some (lateObj 0 0) := by
    have := heap_alloc_new ((w.alloc (planObj q)).alloc (scenObj r)) (lateObj 0 0)
    rw [show ((w.alloc (planObj q)).alloc (scenObj r)).heap.size = w.heap.size + 1 + 1 by simp] at this; exact this
  have hn1 : (((w.alloc (planObj q)).alloc (scenObj r)).alloc (lateObj 0 0)).heap[w.heap.size]? = some (planObj q) := box_below (box_below (heap_alloc_new _ _) (below_new _ _)) (below_new _ _)
  have hn2 : (((w.alloc (planObj q)).alloc (scenObj r)).alloc (lateObj 0 0)).heap[w.heap.size + 1]? = some (scenObj r) := by
    have := heap_alloc_new (w.alloc (planObj q)) (scenObj r)
    rw [show (w.alloc (planObj q)).heap.size = w.heap.size + 1 by simp] at this; exact box_below this (below_new _ _)
  have N1 := Lib.hid hn1; have N2 := Lib.hid hn2; have N3 := Lib.hid hn3
  clear h hr hp hn1 hn2 hn3
  obtain ⟨⟨en, mi, ma, st, wn⟩, sa, sc, wa, wc⟩ := q
  obtain ⟨⟨du, mv, de, to_, at_⟩, da, dc, xa, xc⟩ := r
  dsimp only [planObj, scenObj, lateObj] at N1 N2 N3 HG
  go_enter Tryd.func14, Tryd.ntmps14
  go_wp2_with fail
  generalize ((w.alloc (.cells #[.int .i64 en, .int .i64 mi, .int .i64 ma, .slice sa st.length sc, .slice wa wn.length wc] 28)).alloc (.cells #[.slice da du.length dc, .slice xa mv.length xc, .int .i64 de, .int .i64 to_, .int .i64 at_] 32)).alloc (.cells #[.int .i64 0, .int .i64 0] 38) = W at *
  go_step3
  have d0 := box_cell N1.out 0 (.int .i64 en) rfl
  have d1 := box_cell N1.out 1 (.int .i64 mi) rfl
  have d2 := box_cell N1.out 2 (.int .i64 ma) rfl
  have d3 := box_cell N1.out 3 (.slice sa st.length sc) rfl
  have d4 := box_cell N1.out 4 (.slice wa wn.length wc) rfl
  have c0 := box_cell N2.out 0 (.slice da du.length dc) rfl
  have c1 := box_cell N2.out 1 (.slice xa mv.length xc) rfl
  have c2 := box_cell N2.out 2 (.int .i64 de) rfl
  have c3 := box_cell N2.out 3 (.int .i64 to_) rfl
  have c4 := box_cell N2.out 4 (.int .i64 at_) rfl
  go_wp2_with fail
  refine (HP.out _ HG.out).mono ?_; rintro _ w1 ⟨rfl, g1⟩
  clear d0 d1 d2 d3 d4 c0 c1 c2 c3 c4 N1 N2
  have R1 := Lib.hid (box_below N3.out g1); have G1 := Lib.hid (below_step HG.out g1)
  clear g1 N3 HG
  have r0 := box_cell R1.out 0 (.int .i64 0) rfl
  have r1 := box_cell R1.out 1 (.int .i64 0) rfl
  have z0 := box_fz R1.out 0
  have z1 := box_fz R1.out 1
  have hRS := lt_of_block R1.out
  go_wp2_with fail
  have R3 := Lib.hid (block_set (block_set R1.out (o := 0) (.int .i64 0)) (o := 1) (.int .i64 0))
  have G3 := Lib.hid (((G1.out).setCell (p := ⟨w.heap.size + 1 + 1, 0, none⟩) (by show w.heap.size ≤ w.heap.size + 1 + 1; omega) (.int .i64 0)).setCell (p := ⟨w.heap.size + 1 + 1, 1, none⟩) (by show w.heap.size ≤ w.heap.size + 1 + 1; omega) (.int .i64 0))
  clear r0 r1 z0 z1
  generalize (w1.setCell ⟨w.heap.size + 1 + 1, 0, none⟩ (.int .i64 0)).setCell ⟨w.heap.size + 1 + 1, 1, none⟩ (.int .i64 0) = w3 at *
  have r0 := box_cell R3.out 0 (.int .i64 0) rfl
  have r1 := box_cell R3.out 1 (.int .i64 0) rfl
  try rw [Exit.noGoto_ret]
  refine bodyPost_ret (v := .tuple #[.slice none 0 0, .agg #[.int .i64 0, .int .i64 0], .int .i64 80]) (by simp [results, Tryd.results14, go_sem, r0, r1]) rfl ?_
  unfold RunPost
  rw [HA.out]
  exact ⟨none, 0, rfl, RowO.nil _ _ _ _ _, G3.out⟩
end Go.Proofs.YtihohjgjklcnlaaDoor

namespace Go.Proofs.YtihohjgjklcnlaaDoor
open Go.RowKit

theorem ne_of_type {w : World} {i j : Nat} {cs ds : Array Value} {t u : TypeId} (h1 : w.heap[i]? = some (.cells cs t)) (h2 : w.heap[j]? = some (.cells ds u)) (h : t ≠ u) : i ≠ j := by
  rintro rfl; rw [h1] at h2; injection h2 with h2; injection h2 with _ h2; exact h h2
structure RunM (q : PlanP) (r : ScenP) (w0 : World) (n7 n8 : Nat) (a : Option Addr) (c : Nat) (V : List Pl.Visit) (k n : Int) (w : World) : Prop where
  pb : w.heap[w0.heap.size]? = some (planObj q)
  sb : w.heap[w0.heap.size + 1]? = some (scenObj r)
  lb : w.heap[w0.heap.size + 1 + 1]? = some (lateObj 0 0)
  vb : w.heap[n7]? = some (.cells #[.slice a V.length c] 36)
  kb : w.heap[n8]? = some (lateObj k n)
  row : VsO w w0.heap.size (.slice a V.length c) V
  bel : Below w0.heap.size w0 w
  bd : VBd V
  g7 : w0.heap.size + 1 + 1 < n7
  g8 : w0.heap.size + 1 + 1 < n8
theorem RunM.below {q : PlanP} {r : ScenP} {w0 : World} {n7 n8 : Nat} {a : Option Addr} {c : Nat} {V : List Pl.Visit} {k n : Int} {w w' : World} (h : RunM q r w0 n7 n8 a c V k n w) (hb : Below w.heap.size w w') : RunM q r w0 n7 n8 a c V k n w' :=
  ⟨box_below h.pb hb, box_below h.sb hb, box_below h.lb hb, box_below h.vb hb, box_below h.kb hb, h.row.below hb, below_step h.bel hb, h.bd, h.g7, h.g8⟩
theorem RunM.rowA {q : PlanP} {r : ScenP} {w0 : World} {n7 n8 : Nat} {a : Option Addr} {c : Nat} {V : List Pl.Visit} {k n : Int} {w : World} (h : RunM q r w0 n7 n8 a c V k n w) : VsA w a c V := by
  obtain ⟨a', c', e, h1, -⟩ := h.row.arg visit_len
  injection e with e1 _ e2; subst e1; subst e2; exact h1
/-- The lateness is written. -/
theorem RunM.late {q : PlanP} {r : ScenP} {w0 : World} {n7 n8 : Nat} {a : Option Addr} {c : Nat} {V : List Pl.Visit} {k n : Int} {w : World} (h : RunM q r w0 n7 n8 a c V k n w) (k' n' : Int) :
    RunM q r w0 n7 n8 a c V k' n' ((w.setCell ⟨n8, 0, none⟩ (.int .i64 k')).setCell ⟨n8, 1, none⟩ (.int .i64 n')) := by
  have two : ∀ b, b ≠ n8 → ((w.setCell ⟨n8, 0, none⟩ (.int .i64 k')).setCell ⟨n8, 1, none⟩ (.int .i64 n')).heap[b]? = w.heap[b]? := fun b hb => (Below.heap_setCell _ _ _ _ hb).trans (Below.heap_setCell _ _ _ _ hb)
  have g8 := h.g8
  refine ⟨(two _ (by omega)).trans h.pb, (two _ (by omega)).trans h.sb, (two _ (by omega)).trans h.lb, (two _ (ne_of_type h.vb h.kb (by decide))).trans h.vb, ?_, ?_, ?_, h.bd, h.g7, h.g8⟩
  · rw [block_set (block_set h.kb (o := 0) (.int .i64 k')) (o := 1) (.int .i64 n')]; rfl
  · refine own_ch (S := fun b => b = n8) h.row ⟨rfl, rfl, rfl, by simp [World.setCell], fun b _ hb => two b hb⟩ (fun b hb e => ?_)
    obtain ⟨cs, hcs⟩ := own_block h.row hb
    exact ne_of_type hcs h.kb (by decide) e
  · exact (h.bel.setCell (p := ⟨n8, 0, none⟩) (by show w0.heap.size ≤ n8; omega) _).setCell (p := ⟨n8, 1, none⟩) (by show w0.heap.size ≤ n8; omega) _
/-- A visit is appended. -/
theorem RunM.app {q : PlanP} {r : ScenP} {w0 : World} {n7 n8 : Nat} {a a' : Option Addr} {c c' : Nat} {V : List Pl.Visit} {k n : Int} {w wA w3 : World} (h : RunM q r w0 n7 n8 a c V k n w) (x : Pl.Visit) (hx : (0 ≤ x.start ∧ x.start ≤ 1000000) ∧ 0 ≤ x.fin ∧ x.fin ≤ 1010000)
    (hA : Below w.heap.size w wA) (hown : w3.ownsRow w0.heap.size 47 4 (.slice a' (V.length + 1) c') (V.length + 1) (V.flatMap visitCells ++ visitCells x)) (hg : wA.grownBy w3 (Value.slice a V.length c).ownBlock) :
    RunM q r w0 n7 n8 a' c' (V ++ [x]) k n (w3.setCell ⟨n7, 0, none⟩ (.slice a' (V.length + 1) c')) := by
  have hA' := h.below hA
  have g7 := h.g7
  have g8 := h.g8
  have far : ∀ b cs t, wA.heap[b]? = some (.cells cs t) → t ≠ 47 → b ≠ n7 → (w3.setCell ⟨n7, 0, none⟩ (.slice a' (V.length + 1) c')).heap[b]? = some (.cells cs t) := fun b cs t hb ht hn => by
    rw [Below.heap_setCell _ _ _ _ hn, hg.block b (lt_of_block hb) (fun e => ?_)]
    · exact hb
    · obtain ⟨ds, hds⟩ := own_block hA'.row (e.symm)
      exact ne_of_type hb hds ht rfl
  have hv3 : w3.heap[n7]? = some (.cells #[.slice a V.length c] 36) := by
    rw [hg.block n7 (lt_of_block hA'.vb) (fun e => ?_)]
    · exact hA'.vb
    · obtain ⟨ds, hds⟩ := own_block hA'.row (e.symm)
      exact ne_of_type hA'.vb hds (by decide) rfl
  refine ⟨far _ _ _ hA'.pb (by decide) (by omega), far _ _ _ hA'.sb (by decide) (by omega), far _ _ _ hA'.lb (by decide) (by omega), ?_, far _ _ _ hA'.kb (by decide) (ne_of_type hA'.kb hA'.vb (by decide)), ?_, ?_, ?_, g7, g8⟩
  · rw [block_set hv3]; simp
  · have hr : VsO w3 w0.heap.size (.slice a' (V ++ [x]).length c') (V ++ [x]) := by rw [List.length_append]; exact RowO.snoc hown
    refine own_ch (S := fun b => b = n7) hr (Ch.grown (grown_set (w := w3) n7 0 _) (fun b hb => by injection hb with hb; exact hb.symm)) (fun b hb e => ?_)
    obtain ⟨cs, hcs⟩ := own_block hr hb
    exact ne_of_type hcs hv3 (by decide) e
  · exact ((hA'.bel).grown hg (hA'.bel.size) (fun b hb => (hA'.row.lt b hb).1)).setCell (p := ⟨n7, 0, none⟩) (by show w0.heap.size ≤ n7; omega) _
  · intro y hy
    rcases List.mem_append.1 hy with hy | hy
    · exact h.bd y hy
    · simp at hy; subst hy; exact hx
/-- The cell of the visits, behind the append. -/
theorem RunM.vb3 {q : PlanP} {r : ScenP} {w0 : World} {n7 n8 : Nat} {a : Option Addr} {c : Nat} {V : List Pl.Visit} {k n : Int} {w wA w3 : World} (h : RunM q r w0 n7 n8 a c V k n w)
    (hA : Below w.heap.size w wA) (hg : wA.grownBy w3 (Value.slice a V.length c).ownBlock) : w3.heap[n7]? = some (.cells #[.slice a V.length c] 36) := by
  have hA' := h.below hA
  rw [hg.block n7 (lt_of_block hA'.vb) (fun e => ?_)]
  · exact hA'.vb
  · obtain ⟨ds, hds⟩ := own_block hA'.row (e.symm)
    exact ne_of_type hA'.vb hds (by decide) rfl
/-- What is returned. -/
theorem RunM.fin {q : PlanP} {r : ScenP} {w0 : World} {n7 n8 : Nat} {a : Option Addr} {c : Nat} {V : List Pl.Visit} {k n : Int} {w : World} (h : RunM q r w0 n7 n8 a c V k n w) (k' n' : Int) :
    VsO ((w.setCell ⟨w0.heap.size + 1 + 1, 0, none⟩ (.int .i64 k')).setCell ⟨w0.heap.size + 1 + 1, 1, none⟩ (.int .i64 n')) w0.heap.size (.slice a V.length c) V ∧
    Below w0.heap.size w0 ((w.setCell ⟨w0.heap.size + 1 + 1, 0, none⟩ (.int .i64 k')).setCell ⟨w0.heap.size + 1 + 1, 1, none⟩ (.int .i64 n')) ∧
    ((w.setCell ⟨w0.heap.size + 1 + 1, 0, none⟩ (.int .i64 k')).setCell ⟨w0.heap.size + 1 + 1, 1, none⟩ (.int .i64 n')).heap[w0.heap.size + 1 + 1]? = some (lateObj k' n') := by
  refine ⟨?_, ?_, ?_⟩
  · refine own_ch (S := fun b => b = w0.heap.size + 1 + 1) h.row ⟨rfl, rfl, rfl, by simp [World.setCell], fun b _ hb => (Below.heap_setCell _ _ _ _ hb).trans (Below.heap_setCell _ _ _ _ hb)⟩ (fun b hb e => ?_)
    obtain ⟨cs, hcs⟩ := own_block h.row hb
    exact ne_of_type hcs h.lb (by decide) e
  · exact (h.bel.setCell (p := ⟨w0.heap.size + 1 + 1, 0, none⟩) (by show w0.heap.size ≤ w0.heap.size + 1 + 1; omega) _).setCell (p := ⟨w0.heap.size + 1 + 1, 1, none⟩) (by show w0.heap.size ≤ w0.heap.size + 1 + 1; omega) _
  · rw [block_set (block_set h.lb (o := 0) (.int .i64 k')) (o := 1) (.int .i64 n')]; rfl
end Go.Proofs.YtihohjgjklcnlaaDoor
