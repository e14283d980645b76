/-
  Contracts of loses, arrival, detoured.
  Contracts of slot and passageTo.
  What Run keeps in memory; the contract of its closure.
  The contract of Run.
  What Run keeps in memory while its loops run.
  The contract of Run where the scenario is possible.
  The contract of Bookings.
-/
import Derived.Test.YtjdhjlhcdpekbaaQpBb
import Derived.StillTailTactics
import Derived.Deep.RegionHeld3
import Derived.BigRegion
import Derived.WalkMore
import Derived.Deep.LoopGhost
import Derived.Deep.DeepCutAuto
import Derived.Deep.AppendLies
namespace Go.Proofs.Ytjdhjlhcdpekbaa.Pe
open Go.RowKit

/-- A passage: when they leave, the move, the duration, in a scenario. -/
abbrev passV (s : Pl.Scen) (t m d : Int) : Value := .agg #[.int .i64 t, .int .i64 m, .int .i64 s.det, .int .i64 d, .int .i64 s.tool, .int .i64 s.at_]
abbrev passObj (s : Pl.Scen) (t m d : Int) : Obj := .cells #[.int .i64 t, .int .i64 m, .int .i64 s.det, .int .i64 d, .int .i64 s.tool, .int .i64 s.at_] 120
abbrev slotObj (o : Pl.Slot) : Obj := .cells #[.int .i64 o.tool, .int .i64 o.start] 106
theorem loses_any (s : Pl.Scen) (x : Pl.Slot) (d : Int) (w : World) (h1 : 0 ≤ x.start ∧ x.start ≤ 1000000) (h2 : 0 ≤ d ∧ d ≤ 10000) :
    Calls Try.prog 85 #[failV s, slotV x, .int .i64 d] w fun e w' => e = .returned (.bool (Pl.loses s x d)) ∧ Below w.heap.size w w' := by
  obtain ⟨du, mv, de, t, a⟩ := s
  obtain ⟨xt, xs⟩ := x
  simp only at h1
  have HG := Lib.hid (below_step (below_new w (.cells #[.int .i64 t, .int .i64 a] 118)) (below_new _ (slotObj ⟨xt, xs⟩)))
  have e1 : IntKind.i64.wrap (xs + d) = xs + d := IntWalk.i64_in _ (by omega)
  unfold Pl.loses
  simp only
  by_cases h : t = xt
  · subst h
    go_enter Try.func85, Try.ntmps85
    go_wp2_with fail
    go_ret
    exact ⟨ret_bool (by simp), HG.out⟩
  · have h' : (t == xt) = false := by rw [beq_eq_false_iff_ne]; exact h
    have H := Lib.hid h; clear h
    go_enter Try.func85, Try.ntmps85
    go_wp2_with fail
    go_ret
    exact ⟨ret_bool (by rw [decide_eq_false H.out]; rfl), HG.out⟩
/-- Bounds of a passage. -/
structure PassOk (s : Pl.Scen) (t m d : Int) : Prop where
  t : 0 ≤ t ∧ t ≤ 1100000
  m : 0 ≤ m ∧ m ≤ 10000
  d : 0 ≤ d ∧ d ≤ 10000
  det : 0 ≤ s.det ∧ s.det ≤ 10000
  at_ : 0 ≤ s.at_ ∧ s.at_ ≤ 1000000
theorem arrival_any (s : Pl.Scen) (t m d : Int) (w : World) (h : PassOk s t m d) : Calls Try.prog 86 #[passV s t m d] w fun e w' => e = .returned (.int .i64 (t + m)) ∧ Below w.heap.size w w' := by
  have e1 : IntKind.i64.wrap (t + m) = t + m := IntWalk.i64_in _ (by have := h.t; have := h.m; omega)
  clear h
  go_enter Try.func86, Try.ntmps86
  go_wp2_with fail
  go_ret
  exact ⟨rfl, below_new _ _⟩
/-- When the wafers are at the spare slot's tool. -/
def detour (s : Pl.Scen) (t m : Int) (x : Pl.Slot) : Int × Bool :=
  if s.at_ ≤ t then (t + m, true) else if s.at_ < x.start then (max (t + m) s.at_ + s.det, true) else (s.at_ + s.det, decide (t + m ≤ x.start))
set_option maxRecDepth 100000 in
set_option maxHeartbeats 2000000 in
theorem detoured_any (s : Pl.Scen) (t m d : Int) (x : Pl.Slot) (w : World) (h : PassOk s t m d) :
    Calls Try.prog 87 #[passV s t m d, slotV x] w fun e w' => e = .returned (.tuple #[.int .i64 (detour s t m x).1, .bool (detour s t m x).2]) ∧ Below w.heap.size w w' := by
  have HA := Lib.hid (fun w => arrival_any s t m d w h)
  obtain ⟨h1, h2, h3, h4, h5⟩ := h
  obtain ⟨du, mv, de, tl, a⟩ := s
  obtain ⟨xt, xs⟩ := x
  simp only at h4 h5
  have HG := Lib.hid (below_step (below_new w (passObj ⟨du, mv, de, tl, a⟩ t m d)) (below_new _ (slotObj ⟨xt, xs⟩)))
  have hn1 : ((w.alloc (passObj ⟨du, mv, de, tl, a⟩ t m d)).alloc (slotObj ⟨xt, xs⟩)).heap[w.heap.size]? = some (passObj ⟨du, mv, de, tl, a⟩ t m d) := box_below (heap_alloc_new _ _) (below_new _ _)
  have hn2 : ((w.alloc (passObj ⟨du, mv, de, tl, a⟩ t m d)).alloc (slotObj ⟨xt, xs⟩)).heap[w.heap.size + 1]? = some (slotObj ⟨xt, xs⟩) := by
    have := heap_alloc_new (w.alloc (passObj ⟨du, mv, de, tl, a⟩ t m d)) (slotObj ⟨xt, xs⟩)
    rw [show (w.alloc (passObj ⟨du, mv, de, tl, a⟩ t m d)).heap.size = w.heap.size + 1 by simp] at this; exact this
  have N1 := Lib.hid hn1; have N2 := Lib.hid hn2; clear hn1 hn2
  have e1 : IntKind.i64.wrap (a + de) = a + de := IntWalk.i64_in _ (by omega)
  have e2 : IntKind.i64.wrap (t + m + de) = t + m + de := IntWalk.i64_in _ (by omega)
  clear h1 h2 h3 h4 h5
  dsimp only [passObj, slotObj] at N1 N2 HG
  by_cases k1 : a ≤ t
  · have HE := Lib.hid (show detour ⟨du, mv, de, tl, a⟩ t m ⟨xt, xs⟩ = (t + m, true) by unfold detour; rw [if_pos k1])
    go_enter Try.func87, Try.ntmps87
    go_wp2_with fail
    refine (HA.out _).mono ?_; rintro _ w1 ⟨rfl, g1⟩
    have G1 := Lib.hid g1; clear g1
    go_wp2_with fail
    go_ret2
    exact ⟨by rw [HE.out]; rfl, below_step HG.out G1.out⟩
  · by_cases k2 : a < xs
    · have HE := Lib.hid (show detour ⟨du, mv, de, tl, a⟩ t m ⟨xt, xs⟩ = (max (t + m) a + de, true) by unfold detour; rw [if_neg k1, if_pos k2])
      go_enter Try.func87, Try.ntmps87
      go_wp2_with fail
      generalize (w.alloc (.cells #[.int .i64 t, .int .i64 m, .int .i64 de, .int .i64 d, .int .i64 tl, .int .i64 a] 120)).alloc (.cells #[.int .i64 xt, .int .i64 xs] 106) = W at *
      have HS : Hid (∀ v v1, v.heap = W.heap → Below v.heap.size v v1 → v1.cell? ⟨w.heap.size, 0, none⟩ = some (.int .i64 t) ∧ v1.cell? ⟨w.heap.size, 1, none⟩ = some (.int .i64 m) ∧ v1.cell? ⟨w.heap.size, 2, none⟩ = some (.int .i64 de) ∧ v1.cell? ⟨w.heap.size, 3, none⟩ = some (.int .i64 d) ∧ v1.cell? ⟨w.heap.size, 4, none⟩ = some (.int .i64 tl) ∧ v1.cell? ⟨w.heap.size, 5, none⟩ = some (.int .i64 a)) := Lib.hid (fun v v1 hv hb => by
        have hm := N1.out; rw [← hv] at hm
        have hm := box_below hm hb
        exact ⟨box_cell hm 0 _ rfl, box_cell hm 1 _ rfl, box_cell hm 2 _ rfl, box_cell hm 3 _ rfl, box_cell hm 4 _ rfl, box_cell hm 5 _ rfl⟩)
      go_region_held3 (fun v1 => v1.cell? ⟨w.heap.size, 0, none⟩ = some (.int .i64 t) ∧ v1.cell? ⟨w.heap.size, 1, none⟩ = some (.int .i64 m) ∧ v1.cell? ⟨w.heap.size, 2, none⟩ = some (.int .i64 de) ∧ v1.cell? ⟨w.heap.size, 3, none⟩ = some (.int .i64 d) ∧ v1.cell? ⟨w.heap.size, 4, none⟩ = some (.int .i64 tl) ∧ v1.cell? ⟨w.heap.size, 5, none⟩ = some (.int .i64 a))
        (first | exact HS.out _ _ (by rfl) g1 | exact HS.out _ _ (by rfl) (Below.refl _ _))
        (first | (go_at_call 86; refine (HA.out _).mono ?_; rintro e v1 ⟨rfl, g1⟩))
      all_goals
        have G1 := Lib.hid (show Below W.heap.size W v1 from ⟨g1.os, g1.tape, g1.output, g1.size, g1.block⟩); clear g1
        go_wp2_with fail
        all_goals
          go_ret2
          exact ⟨by rw [HE.out]; first | (rw [Int.max_eq_right (by omega)]; rfl) | (rw [Int.max_eq_left (by omega)]; rfl), below_step HG.out G1.out⟩
    · have HE := Lib.hid (show detour ⟨du, mv, de, tl, a⟩ t m ⟨xt, xs⟩ = (a + de, decide (t + m ≤ xs)) by unfold detour; rw [if_neg k1, if_neg k2])
      go_enter Try.func87, Try.ntmps87
      go_wp2_with fail
      generalize (w.alloc (.cells #[.int .i64 t, .int .i64 m, .int .i64 de, .int .i64 d, .int .i64 tl, .int .i64 a] 120)).alloc (.cells #[.int .i64 xt, .int .i64 xs] 106) = W at *
      have HS : Hid (∀ v v1, v.heap = W.heap → Below v.heap.size v v1 → v1.cell? ⟨w.heap.size, 0, none⟩ = some (.int .i64 t) ∧ v1.cell? ⟨w.heap.size, 1, none⟩ = some (.int .i64 m) ∧ v1.cell? ⟨w.heap.size, 2, none⟩ = some (.int .i64 de) ∧ v1.cell? ⟨w.heap.size, 3, none⟩ = some (.int .i64 d) ∧ v1.cell? ⟨w.heap.size, 4, none⟩ = some (.int .i64 tl) ∧ v1.cell? ⟨w.heap.size, 5, none⟩ = some (.int .i64 a) ∧ v1.cell? ⟨w.heap.size + 1, 1, none⟩ = some (.int .i64 xs)) := Lib.hid (fun v v1 hv hb => by
        have hm := N1.out; rw [← hv] at hm
        have hm := box_below hm hb
        have hk := N2.out; rw [← hv] at hk
        have hk := box_below hk hb
        exact ⟨box_cell hm 0 _ rfl, box_cell hm 1 _ rfl, box_cell hm 2 _ rfl, box_cell hm 3 _ rfl, box_cell hm 4 _ rfl, box_cell hm 5 _ rfl, box_cell hk 1 _ rfl⟩)
      go_region_held3 (fun v1 => v1.cell? ⟨w.heap.size, 0, none⟩ = some (.int .i64 t) ∧ v1.cell? ⟨w.heap.size, 1, none⟩ = some (.int .i64 m) ∧ v1.cell? ⟨w.heap.size, 2, none⟩ = some (.int .i64 de) ∧ v1.cell? ⟨w.heap.size, 3, none⟩ = some (.int .i64 d) ∧ v1.cell? ⟨w.heap.size, 4, none⟩ = some (.int .i64 tl) ∧ v1.cell? ⟨w.heap.size, 5, none⟩ = some (.int .i64 a) ∧ v1.cell? ⟨w.heap.size + 1, 1, none⟩ = some (.int .i64 xs))
        (first | exact HS.out _ _ (by rfl) g1 | exact HS.out _ _ (by rfl) (Below.refl _ _))
        (first | (go_at_call 86; refine (HA.out _).mono ?_; rintro e v1 ⟨rfl, g1⟩))
      have G1 := Lib.hid (show Below W.heap.size W v1 from ⟨g1.os, g1.tape, g1.output, g1.size, g1.block⟩); clear g1
      go_wp2_with fail
      go_ret2
      exact ⟨by rw [HE.out]; rfl, below_step HG.out G1.out⟩
theorem detour_slot {x : Pl.Stage} {s : Pl.Scen} {t m d : Int} (h : Pl.loses s x.m d = true) : Pl.slot x s t m d = if (detour s t m x.m).2 && decide ((detour s t m x.m).1 ≤ x.s.start) then some x.s else none := by
  unfold Pl.slot detour
  rw [if_pos h]
  by_cases c1 : s.at_ ≤ t
  · rw [if_pos c1, if_pos c1]; simp only [Bool.true_and, decide_eq_true_eq]
  · rw [if_neg c1, if_neg c1]
    by_cases c2 : s.at_ < x.m.start
    · rw [if_pos c2, if_pos c2]; simp only [Bool.true_and, decide_eq_true_eq]
    · rw [if_neg c2, if_neg c2]; simp only [Bool.and_eq_true, decide_eq_true_eq]
/-- What slot answers. -/
def SlotPost (o : Option Pl.Slot) (w : World) (e : Ending) (w' : World) : Prop := ∃ (p : Pl.Slot) (b : Bool), e = .returned (.tuple #[slotV p, .bool b]) ∧ o = (if b then some p else none) ∧ Below w.heap.size w w'
end Go.Proofs.Ytjdhjlhcdpekbaa.Pe

namespace Go.Proofs.Ytjdhjlhcdpekbaa.Pe
open Go.RowKit

set_option maxRecDepth 100000 in
set_option maxHeartbeats 4000000 in
theorem slot_any (s : Pl.Scen) (t m d : Int) (x : Pl.Stage) (w : World) (h : PassOk s t m d) (hx : Pl.OkStage x) :
    Calls Try.prog 67 #[passV s t m d, stageV x] w (SlotPost (Pl.slot x s t m d) w) := by
  have HA := Lib.hid (fun w => arrival_any s t m d w h)
  have HD := Lib.hid (fun w => detoured_any s t m d x.m w h)
  have HL := Lib.hid (fun w => loses_any s x.m d w (by have := hx.ms; have := hx.mn; have := hx.mx; omega) h.d)
  have HS1 := Lib.hid (show Pl.loses s x.m d = false → Pl.slot x s t m d = if t + m ≤ x.m.start then some x.m else none from fun h => by unfold Pl.slot; rw [h]; rfl)
  have HS2 := Lib.hid (fun h => detour_slot (x := x) (s := s) (t := t) (m := m) (d := d) h)
  clear h hx
  generalize Pl.slot x s t m d = R at *
  obtain ⟨du, mv, de, tl, a⟩ := s
  obtain ⟨mn, mx, ⟨mt, ms⟩, ⟨st, ss⟩⟩ := x
  simp only at HS1 HS2 HL HD
  have HG := Lib.hid (below_step (below_step (below_new w (passObj ⟨du, mv, de, tl, a⟩ t m d)) (below_new _ (stageObj ⟨mn, mx, ⟨mt, ms⟩, ⟨st, ss⟩⟩))) (below_new _ (slotObj ⟨0, 0⟩)))
  have hn1 : (((w.alloc (passObj ⟨du, mv, de, tl, a⟩ t m d)).alloc (stageObj ⟨mn, mx, ⟨mt, ms⟩, ⟨st, ss⟩⟩)).alloc (slotObj ⟨0, 0⟩)).heap[w.heap.size]? = some (passObj ⟨du, mv, de, tl, a⟩ t m d) := box_below (box_below (heap_alloc_new _ _) (below_new _ _)) (below_new _ _)
  have hn2 : (((w.alloc (passObj ⟨du, mv, de, tl, a⟩ t m d)).alloc (stageObj ⟨mn, mx, ⟨mt, ms⟩, ⟨st, ss⟩⟩)).alloc (slotObj ⟨0, 0⟩)).heap[w.heap.size + 1]? = some (stageObj ⟨mn, mx, ⟨mt, ms⟩, ⟨st, ss⟩⟩) := by
    have := heap_alloc_new (w.alloc (passObj ⟨du, mv, de, tl, a⟩ t m d)) (stageObj ⟨mn, mx, ⟨mt, ms⟩, ⟨st, ss⟩⟩)
    rw [show (w.alloc (passObj ⟨du, mv, de, tl, a⟩ t m d)).heap.size = w.heap.size + 1 by simp] at this; exact box_below this (below_new _ _)
  have hn3 : (((w.alloc (passObj ⟨du, mv, de, tl, a⟩ t m d)).alloc (stageObj ⟨mn, mx, ⟨mt, ms⟩, ⟨st, ss⟩⟩)).alloc (slotObj ⟨0, 0⟩)).heap[w.heap.size + 1 + 1]? = some (slotObj ⟨0, 0⟩) := by
    have := heap_alloc_new ((w.alloc (passObj ⟨du, mv, de, tl, a⟩ t m d)).alloc (stageObj ⟨mn, mx, ⟨mt, ms⟩, ⟨st, ss⟩⟩)) (slotObj ⟨0, 0⟩)
    rw [show ((w.alloc (passObj ⟨du, mv, de, tl, a⟩ t m d)).alloc (stageObj ⟨mn, mx, ⟨mt, ms⟩, ⟨st, ss⟩⟩)).heap.size = w.heap.size + 1 + 1 by simp] at this; exact this
  have N1 := Lib.hid hn1; have N2 := Lib.hid hn2; have N3 := Lib.hid hn3; clear hn1 hn2 hn3
  dsimp only [passObj, slotObj, stageObj] at N1 N2 N3 HG
  generalize Pl.loses ⟨du, mv, de, tl, a⟩ ⟨mt, ms⟩ d = L at *
  have hsz := Lib.hid (show w.heap.size ≠ w.heap.size + 1 + 1 ∧ w.heap.size + 1 ≠ w.heap.size + 1 + 1 by omega)
  go_enter Try.func67, Try.ntmps67
  go_wp2_with fail
  generalize ((w.alloc (.cells #[.int .i64 t, .int .i64 m, .int .i64 de, .int .i64 d, .int .i64 tl, .int .i64 a] 120)).alloc (.cells #[.int .i64 mn, .int .i64 mx, .int .i64 mt, .int .i64 ms, .int .i64 st, .int .i64 ss] 108)).alloc (.cells #[.int .i64 0, .int .i64 0] 106) = W at *
  refine (HL.out _).mono ?_; rintro _ w1 ⟨rfl, g1⟩
  have P1 := Lib.hid (box_below N1.out g1); have Q1 := Lib.hid (box_below N2.out g1); have R1 := Lib.hid (box_below N3.out g1); have G1 := Lib.hid (below_step HG.out g1)
  clear g1 N1 N2 N3 HG
  have hRS := lt_of_block R1.out
  cases L
  · have HE := Lib.hid (HS1.out rfl)
    clear HS1 HS2 HD
    have HS : Hid (∀ v v1, v.heap = w1.heap → Below v.heap.size v v1 → v1.heap[w.heap.size]? = some (.cells #[.int .i64 t, .int .i64 m, .int .i64 de, .int .i64 d, .int .i64 tl, .int .i64 a] 120) ∧
        v1.heap[w.heap.size + 1]? = some (.cells #[.int .i64 mn, .int .i64 mx, .int .i64 mt, .int .i64 ms, .int .i64 st, .int .i64 ss] 108) ∧ v1.heap[w.heap.size + 1 + 1]? = some (.cells #[.int .i64 0, .int .i64 0] 106)) := Lib.hid (fun v v1 hv hb => by
      have h1 := P1.out; rw [← hv] at h1
      have h2 := Q1.out; rw [← hv] at h2
      have h3 := R1.out; rw [← hv] at h3
      exact ⟨box_below h1 hb, box_below h2 hb, box_below h3 hb⟩)
    have HC : Hid (∀ v1 : World, v1.heap[w.heap.size]? = some (.cells #[.int .i64 t, .int .i64 m, .int .i64 de, .int .i64 d, .int .i64 tl, .int .i64 a] 120) → v1.heap[w.heap.size + 1]? = some (.cells #[.int .i64 mn, .int .i64 mx, .int .i64 mt, .int .i64 ms, .int .i64 st, .int .i64 ss] 108) →
        v1.cell? ⟨w.heap.size, 0, none⟩ = some (.int .i64 t) ∧ v1.cell? ⟨w.heap.size, 1, none⟩ = some (.int .i64 m) ∧ v1.cell? ⟨w.heap.size, 2, none⟩ = some (.int .i64 de) ∧ v1.cell? ⟨w.heap.size, 3, none⟩ = some (.int .i64 d) ∧ v1.cell? ⟨w.heap.size, 4, none⟩ = some (.int .i64 tl) ∧ v1.cell? ⟨w.heap.size, 5, none⟩ = some (.int .i64 a) ∧ v1.cell? ⟨w.heap.size + 1, 2, none⟩ = some (.int .i64 mt) ∧ v1.cell? ⟨w.heap.size + 1, 3, none⟩ = some (.int .i64 ms)) := Lib.hid (fun v1 h1 h2 =>
      ⟨box_cell h1 0 _ rfl, box_cell h1 1 _ rfl, box_cell h1 2 _ rfl, box_cell h1 3 _ rfl, box_cell h1 4 _ rfl, box_cell h1 5 _ rfl, box_cell h2 2 _ rfl, box_cell h2 3 _ rfl⟩)
    have HSS : Hid (∀ (v1 : World) (x y : Value), v1.heap[w.heap.size]? = some (.cells #[.int .i64 t, .int .i64 m, .int .i64 de, .int .i64 d, .int .i64 tl, .int .i64 a] 120) → v1.heap[w.heap.size + 1]? = some (.cells #[.int .i64 mn, .int .i64 mx, .int .i64 mt, .int .i64 ms, .int .i64 st, .int .i64 ss] 108) →
        ((v1.setCell ⟨w.heap.size + 1 + 1, 0, none⟩ x).setCell ⟨w.heap.size + 1 + 1, 1, none⟩ y).heap[w.heap.size]? = some (.cells #[.int .i64 t, .int .i64 m, .int .i64 de, .int .i64 d, .int .i64 tl, .int .i64 a] 120) ∧ ((v1.setCell ⟨w.heap.size + 1 + 1, 0, none⟩ x).setCell ⟨w.heap.size + 1 + 1, 1, none⟩ y).heap[w.heap.size + 1]? = some (.cells #[.int .i64 mn, .int .i64 mx, .int .i64 mt, .int .i64 ms, .int .i64 st, .int .i64 ss] 108)) := Lib.hid (fun v1 x y h1 h2 =>
      ⟨(Below.heap_setCell _ _ _ _ hsz.out.1).trans ((Below.heap_setCell _ _ _ _ hsz.out.1).trans h1), (Below.heap_setCell _ _ _ _ hsz.out.2).trans ((Below.heap_setCell _ _ _ _ hsz.out.2).trans h2)⟩)
    have HT : Hid (∀ v v1, v.heap = w1.heap → Below v.heap.size v v1 → (v1.cell? ⟨w.heap.size + 1 + 1, 0, none⟩ = some (.int .i64 0) ∧ v1.cell? ⟨w.heap.size + 1 + 1, 1, none⟩ = some (.int .i64 0)) ∧ v1.frozen? ⟨w.heap.size + 1 + 1, 0, none⟩ = false ∧ v1.frozen? ⟨w.heap.size + 1 + 1, 1, none⟩ = false) := Lib.hid (fun v v1 hv hb => by
      have h3 := (HS.out v v1 hv hb).2.2
      exact ⟨⟨box_cell h3 0 _ rfl, box_cell h3 1 _ rfl⟩, box_fz h3 0, box_fz h3 1⟩)
    have c2 := box_cell Q1.out 2 (.int .i64 mt) rfl
    have c3 := box_cell Q1.out 3 (.int .i64 ms) rfl
    go_wp2_with fail
    go_region_held3 (fun v1 => v1.cell? ⟨w.heap.size, 0, none⟩ = some (.int .i64 t) ∧ v1.cell? ⟨w.heap.size, 1, none⟩ = some (.int .i64 m) ∧ v1.cell? ⟨w.heap.size, 2, none⟩ = some (.int .i64 de) ∧ v1.cell? ⟨w.heap.size, 3, none⟩ = some (.int .i64 d) ∧ v1.cell? ⟨w.heap.size, 4, none⟩ = some (.int .i64 tl) ∧ v1.cell? ⟨w.heap.size, 5, none⟩ = some (.int .i64 a) ∧ v1.cell? ⟨w.heap.size + 1, 2, none⟩ = some (.int .i64 mt) ∧ v1.cell? ⟨w.heap.size + 1, 3, none⟩ = some (.int .i64 ms))
      (first | exact HC.out _ (HSS.out _ _ _ (HS.out _ _ (by rfl) g1).1 (HS.out _ _ (by rfl) g1).2.1).1 (HSS.out _ _ _ (HS.out _ _ (by rfl) g1).1 (HS.out _ _ (by rfl) g1).2.1).2 | exact HC.out _ (HS.out _ _ (by rfl) g1).1 (HS.out _ _ (by rfl) g1).2.1 | exact HC.out _ (HS.out _ _ (by rfl) (Below.refl _ _)).1 (HS.out _ _ (by rfl) (Below.refl _ _)).2.1)
      (first | (go_at_call 86; refine (HA.out _).mono ?_; rintro e v1 ⟨rfl, g1⟩; have hT := HT.out _ _ (by rfl) g1; obtain ⟨⟨hT1, hT2⟩, hT3, hT4⟩ := hT))
    have G2 := Lib.hid (show Below w1.heap.size w1 v1 from ⟨g1.os, g1.tape, g1.output, g1.size, g1.block⟩); clear g1
    have R2 := Lib.hid (block_set (block_set (box_below R1.out G2.out) (o := 0) (.int .i64 mt)) (o := 1) (.int .i64 ms))
    have G3 := Lib.hid (((below_step G1.out G2.out).setCell (p := ⟨w.heap.size + 1 + 1, 0, none⟩) (by show w.heap.size ≤ w.heap.size + 1 + 1; omega) (.int .i64 mt)).setCell (p := ⟨w.heap.size + 1 + 1, 1, none⟩) (by show w.heap.size ≤ w.heap.size + 1 + 1; omega) (.int .i64 ms))
    go_wp2_with fail
    clear hT1 hT2 hT3 hT4
    generalize (v1.setCell ⟨w.heap.size + 1 + 1, 0, none⟩ (.int .i64 mt)).setCell ⟨w.heap.size + 1 + 1, 1, none⟩ (.int .i64 ms) = w3 at *
    have r0 := box_cell R2.out 0 (.int .i64 mt) rfl
    have r1 := box_cell R2.out 1 (.int .i64 ms) rfl
    refine bodyPost_ret (v := .tuple #[slotV ⟨mt, ms⟩, .bool (decide (t + m ≤ ms))]) (by simp [results, Try.results67, go_sem, r0, r1]) rfl ?_
    exact ⟨⟨mt, ms⟩, decide (t + m ≤ ms), rfl, by rw [HE.out]; simp, G3.out⟩
  · have HE := Lib.hid (HS2.out rfl)
    clear HS1 HS2
    generalize detour ⟨du, mv, de, tl, a⟩ t m ⟨mt, ms⟩ = D at *
    obtain ⟨D1, D2⟩ := D
    have c0 := box_cell P1.out 0 (.int .i64 t) rfl
    have c1 := box_cell P1.out 1 (.int .i64 m) rfl
    have c2 := box_cell P1.out 2 (.int .i64 de) rfl
    have c3 := box_cell P1.out 3 (.int .i64 d) rfl
    have c4 := box_cell P1.out 4 (.int .i64 tl) rfl
    have c5 := box_cell P1.out 5 (.int .i64 a) rfl
    have q2 := box_cell Q1.out 2 (.int .i64 mt) rfl
    have q3 := box_cell Q1.out 3 (.int .i64 ms) rfl
    go_wp2_with fail
    refine (HD.out _).mono ?_; rintro _ w2 ⟨rfl, g2⟩
    have P2 := Lib.hid (box_below P1.out g2); have Q2 := Lib.hid (box_below Q1.out g2); have R2 := Lib.hid (box_below R1.out g2); have G2 := Lib.hid (below_step G1.out g2)
    clear g2 c0 c1 c2 c3 c4 c5 q2 q3 P1 Q1 R1 G1 hRS
    have q4 := box_cell Q2.out 4 (.int .i64 st) rfl
    have q5 := box_cell Q2.out 5 (.int .i64 ss) rfl
    have r0 := box_cell R2.out 0 (.int .i64 0) rfl
    have r1 := box_cell R2.out 1 (.int .i64 0) rfl
    have z0 := box_fz R2.out 0
    have z1 := box_fz R2.out 1
    have hRS := lt_of_block R2.out
    cases D2
    · go_wp2_with fail
      go_region
      go_wp2_with fail
      have R3 := Lib.hid (block_set (block_set R2.out (o := 0) (.int .i64 st)) (o := 1) (.int .i64 ss))
      have G3 := Lib.hid (((G2.out).setCell (p := ⟨w.heap.size + 1 + 1, 0, none⟩) (by show w.heap.size ≤ w.heap.size + 1 + 1; omega) (.int .i64 st)).setCell (p := ⟨w.heap.size + 1 + 1, 1, none⟩) (by show w.heap.size ≤ w.heap.size + 1 + 1; omega) (.int .i64 ss)).drew
      clear r0 r1 z0 z1
      generalize (w2.setCell ⟨w.heap.size + 1 + 1, 0, none⟩ (.int .i64 st)).setCell ⟨w.heap.size + 1 + 1, 1, none⟩ (.int .i64 ss) = w3 at *
      have r0 := box_cell R3.out 0 (.int .i64 st) rfl
      have r1 := box_cell R3.out 1 (.int .i64 ss) rfl
      refine bodyPost_ret (v := .tuple #[slotV ⟨st, ss⟩, .bool false]) (by simp [results, Try.results67, go_sem, r0, r1]) rfl ?_
      exact ⟨⟨st, ss⟩, false, rfl, by rw [HE.out]; simp, G3.out⟩
    · go_wp2_with fail
      go_region
      go_wp2_with fail
      have R3 := Lib.hid (block_set (block_set R2.out (o := 0) (.int .i64 st)) (o := 1) (.int .i64 ss))
      have G3 := Lib.hid (((G2.out).setCell (p := ⟨w.heap.size + 1 + 1, 0, none⟩) (by show w.heap.size ≤ w.heap.size + 1 + 1; omega) (.int .i64 st)).setCell (p := ⟨w.heap.size + 1 + 1, 1, none⟩) (by show w.heap.size ≤ w.heap.size + 1 + 1; omega) (.int .i64 ss)).drew
      clear r0 r1 z0 z1
      generalize (w2.setCell ⟨w.heap.size + 1 + 1, 0, none⟩ (.int .i64 st)).setCell ⟨w.heap.size + 1 + 1, 1, none⟩ (.int .i64 ss) = w3 at *
      have r0 := box_cell R3.out 0 (.int .i64 st) rfl
      have r1 := box_cell R3.out 1 (.int .i64 ss) rfl
      refine bodyPost_ret (v := .tuple #[slotV ⟨st, ss⟩, .bool (decide (D1 ≤ ss))]) (by simp [results, Try.results67, go_sem, r0, r1]) rfl ?_
      exact ⟨⟨st, ss⟩, decide (D1 ≤ ss), rfl, by rw [HE.out]; simp, G3.out⟩
set_option maxRecDepth 100000 in
set_option maxHeartbeats 4000000 in
theorem passageTo_any (r : ScenP) (i : Nat) (t : Int) (w : World) (hr : r.ok w) (h1 : i < r.s.dur.length) (h2 : i < r.s.mv.length) :
    Calls Try.prog 66 #[.int .i64 (i : Int), r.val, .int .i64 t] w fun e w' => e = .returned (passV r.s t (r.s.mv.getD i 0) (r.s.dur.getD i 0)) ∧ Below w.heap.size w w' := by
  have HF := Lib.hid (failureOf_any r)
  obtain ⟨b1, o1, ea, hb1, k1⟩ := hr.du.2.2 i h1
  obtain ⟨b2, o2, eb, hb2, k2⟩ := hr.mv.2.2 i h2
  have m1 : w.cell? ⟨b1, o1 + i, none⟩ = some (.int .i64 (r.s.dur.getD i 0)) := by
    have := k1 0 _ rfl
    rw [List.getD_eq_getElem?_getD, List.getElem?_eq_getElem h1]; simpa using this
  have m2 : w.cell? ⟨b2, o2 + i, none⟩ = some (.int .i64 (r.s.mv.getD i 0)) := by
    have := k2 0 _ rfl
    rw [List.getD_eq_getElem?_getD, List.getElem?_eq_getElem h2]; simpa using this
  have l1 := hr.du.len
  have l2 := hr.mv.len
  unfold maxLen at l1 l2
  clear k1 k2 hr
  generalize r.s.dur.getD i 0 = x1 at *
  generalize r.s.mv.getD i 0 = x2 at *
  obtain ⟨⟨du, mv, de, tl, a⟩, da, dc, ma, mc⟩ := r
  simp only at ea eb h1 h2 l1 l2
  subst ea; subst eb
  have HG := Lib.hid (below_step (below_new w (scenObj ⟨⟨du, mv, de, tl, a⟩, some ⟨b1, o1, none⟩, dc, some ⟨b2, o2, none⟩, mc⟩)) (below_new _ (passObj ⟨[], [], 0, 0, 0⟩ 0 0 0)))
  have hn1 : ((w.alloc (scenObj ⟨⟨du, mv, de, tl, a⟩, some ⟨b1, o1, none⟩, dc, some ⟨b2, o2, none⟩, mc⟩)).alloc (passObj ⟨[], [], 0, 0, 0⟩ 0 0 0)).heap[w.heap.size]? = some (scenObj ⟨⟨du, mv, de, tl, a⟩, some ⟨b1, o1, none⟩, dc, some ⟨b2, o2, none⟩, mc⟩) := box_below (heap_alloc_new _ _) (below_new _ _)
  have hn2 : ((w.alloc (scenObj ⟨⟨du, mv, de, tl, a⟩, some ⟨b1, o1, none⟩, dc, some ⟨b2, o2, none⟩, mc⟩)).alloc (passObj ⟨[], [], 0, 0, 0⟩ 0 0 0)).heap[w.heap.size + 1]? = some (passObj ⟨[], [], 0, 0, 0⟩ 0 0 0) := by
    have := heap_alloc_new (w.alloc (scenObj ⟨⟨du, mv, de, tl, a⟩, some ⟨b1, o1, none⟩, dc, some ⟨b2, o2, none⟩, mc⟩)) (passObj ⟨[], [], 0, 0, 0⟩ 0 0 0)
    rw [show (w.alloc (scenObj ⟨⟨du, mv, de, tl, a⟩, some ⟨b1, o1, none⟩, dc, some ⟨b2, o2, none⟩, mc⟩)).heap.size = w.heap.size + 1 by simp] at this; exact this
  have M1 := Lib.hid (cell_below HG.out m1); have M2 := Lib.hid (cell_below HG.out m2)
  have N1 := Lib.hid hn1; have N2 := Lib.hid hn2; clear hn1 hn2 m1 m2
  dsimp only [passObj, scenObj] at N1 N2 HG M1 M2
  have hsz := Lib.hid (show w.heap.size ≠ w.heap.size + 1 by omega)
  have i1 : (0 : Int) ≤ (i : Int) := by omega
  have i2 : (i : Int) < (du.length : Int) := by omega
  have i3 : (i : Int) < (mv.length : Int) := by omega
  have i4 : ((i : Int)).toNat = i := by omega
  go_enter Try.func66, Try.ntmps66
  go_wp2_with fail
  generalize (w.alloc (.cells #[.slice (some ⟨b1, o1, none⟩) du.length dc, .slice (some ⟨b2, o2, none⟩) mv.length mc, .int .i64 de, .int .i64 tl, .int .i64 a] 67)).alloc (.cells #[.int .i64 0, .int .i64 0, .int .i64 0, .int .i64 0, .int .i64 0, .int .i64 0] 120) = W at *
  have hlt := Lib.hid (show b1 ≠ w.heap.size + 1 ∧ b2 ≠ w.heap.size + 1 from ⟨Nat.ne_of_lt (Nat.lt_succ_of_lt hb1), Nat.ne_of_lt (Nat.lt_succ_of_lt hb2)⟩)
  have HS : Hid (∀ v v1, v.heap = W.heap → Below v.heap.size v v1 → v1.cell? ⟨w.heap.size, 0, none⟩ = some (.slice (some ⟨b1, o1, none⟩) du.length dc) ∧ v1.cell? ⟨w.heap.size, 1, none⟩ = some (.slice (some ⟨b2, o2, none⟩) mv.length mc) ∧ v1.cell? ⟨w.heap.size, 2, none⟩ = some (.int .i64 de) ∧ v1.cell? ⟨w.heap.size, 3, none⟩ = some (.int .i64 tl) ∧ v1.cell? ⟨w.heap.size, 4, none⟩ = some (.int .i64 a) ∧ v1.cell? ⟨b1, o1 + i, none⟩ = some (.int .i64 x1) ∧ v1.cell? ⟨b2, o2 + i, none⟩ = some (.int .i64 x2)) := Lib.hid (fun v v1 hv hb => by
    have h1 := N1.out; rw [← hv] at h1
    have h1 := box_below h1 hb
    have c1 : v.cell? ⟨b1, o1 + i, none⟩ = some (.int .i64 x1) := by rw [← M1.out]; unfold World.cell?; rw [hv]
    have c2 : v.cell? ⟨b2, o2 + i, none⟩ = some (.int .i64 x2) := by rw [← M2.out]; unfold World.cell?; rw [hv]
    exact ⟨box_cell h1 0 _ rfl, box_cell h1 1 _ rfl, box_cell h1 2 _ rfl, box_cell h1 3 _ rfl, box_cell h1 4 _ rfl, cell_below hb c1, cell_below hb c2⟩)
  have HSS : Hid (∀ (v1 : World) (y0 y1 y2 y3 y4 y5 : Value), (v1.cell? ⟨w.heap.size, 0, none⟩ = some (.slice (some ⟨b1, o1, none⟩) du.length dc) ∧ v1.cell? ⟨w.heap.size, 1, none⟩ = some (.slice (some ⟨b2, o2, none⟩) mv.length mc) ∧ v1.cell? ⟨w.heap.size, 2, none⟩ = some (.int .i64 de) ∧ v1.cell? ⟨w.heap.size, 3, none⟩ = some (.int .i64 tl) ∧ v1.cell? ⟨w.heap.size, 4, none⟩ = some (.int .i64 a) ∧ v1.cell? ⟨b1, o1 + i, none⟩ = some (.int .i64 x1) ∧ v1.cell? ⟨b2, o2 + i, none⟩ = some (.int .i64 x2)) → ((((((v1.setCell ⟨w.heap.size + 1, 0, none⟩ y0).setCell ⟨w.heap.size + 1, 1, none⟩ y1).setCell ⟨w.heap.size + 1, 2, none⟩ y2).setCell ⟨w.heap.size + 1, 3, none⟩ y3).setCell ⟨w.heap.size + 1, 4, none⟩ y4).setCell ⟨w.heap.size + 1, 5, none⟩ y5).cell? ⟨w.heap.size, 0, none⟩ = some (.slice (some ⟨b1, o1, none⟩) du.length dc) ∧ ((((((v1.setCell ⟨w.heap.size + 1, 0, none⟩ y0).setCell ⟨w.heap.size + 1, 1, none⟩ y1).setCell ⟨w.heap.size + 1, 2, none⟩ y2).setCell ⟨w.heap.size + 1, 3, none⟩ y3).setCell ⟨w.heap.size + 1, 4, none⟩ y4).setCell ⟨w.heap.size + 1, 5, none⟩ y5).cell? ⟨w.heap.size, 1, none⟩ = some (.slice (some ⟨b2, o2, none⟩) mv.length mc) ∧ ((((((v1.setCell ⟨w.heap.size + 1, 0, none⟩ y0).setCell ⟨w.heap.size + 1, 1, none⟩ y1).setCell ⟨w.heap.size + 1, 2, none⟩ y2).setCell ⟨w.heap.size + 1, 3, none⟩ y3).setCell ⟨w.heap.size + 1, 4, none⟩ y4).setCell ⟨w.heap.size + 1, 5, none⟩ y5).cell? ⟨w.heap.size, 2, none⟩ = some (.int .i64 de) ∧ ((((((v1.setCell ⟨w.heap.size + 1, 0, none⟩ y0).setCell ⟨w.heap.size + 1, 1, none⟩ y1).setCell ⟨w.heap.size + 1, 2, none⟩ y2).setCell ⟨w.heap.size + 1, 3, none⟩ y3).setCell ⟨w.heap.size + 1, 4, none⟩ y4).setCell ⟨w.heap.size + 1, 5, none⟩ y5).cell? ⟨w.heap.size, 3, none⟩ = some (.int .i64 tl) ∧ ((((((v1.setCell ⟨w.heap.size + 1, 0, none⟩ y0).setCell ⟨w.heap.size + 1, 1, none⟩ y1).setCell ⟨w.heap.size + 1, 2, none⟩ y2).setCell ⟨w.heap.size + 1, 3, none⟩ y3).setCell ⟨w.heap.size + 1, 4, none⟩ y4).setCell ⟨w.heap.size + 1, 5, none⟩ y5).cell? ⟨w.heap.size, 4, none⟩ = some (.int .i64 a) ∧ ((((((v1.setCell ⟨w.heap.size + 1, 0, none⟩ y0).setCell ⟨w.heap.size + 1, 1, none⟩ y1).setCell ⟨w.heap.size + 1, 2, none⟩ y2).setCell ⟨w.heap.size + 1, 3, none⟩ y3).setCell ⟨w.heap.size + 1, 4, none⟩ y4).setCell ⟨w.heap.size + 1, 5, none⟩ y5).cell? ⟨b1, o1 + i, none⟩ = some (.int .i64 x1) ∧ ((((((v1.setCell ⟨w.heap.size + 1, 0, none⟩ y0).setCell ⟨w.heap.size + 1, 1, none⟩ y1).setCell ⟨w.heap.size + 1, 2, none⟩ y2).setCell ⟨w.heap.size + 1, 3, none⟩ y3).setCell ⟨w.heap.size + 1, 4, none⟩ y4).setCell ⟨w.heap.size + 1, 5, none⟩ y5).cell? ⟨b2, o2 + i, none⟩ = some (.int .i64 x2)) := Lib.hid (fun v1 y0 y1 y2 y3 y4 y5 ⟨h0, h1, h2, h3, h4, h5, h6⟩ => by
    have st : ∀ (v : World) (k : Nat) (y : Value) (b o : Nat) (z : Value), b ≠ w.heap.size + 1 → v.cell? ⟨b, o, none⟩ = some z → (v.setCell ⟨w.heap.size + 1, k, none⟩ y).cell? ⟨b, o, none⟩ = some z := fun v k y b o z hne hz =>
      (World.cell?_of_block (a := ⟨b, o, none⟩) (Below.heap_setCell _ _ _ _ hne)).trans hz
    have all : ∀ (b o : Nat) (z : Value), b ≠ w.heap.size + 1 → v1.cell? ⟨b, o, none⟩ = some z → ((((((v1.setCell ⟨w.heap.size + 1, 0, none⟩ y0).setCell ⟨w.heap.size + 1, 1, none⟩ y1).setCell ⟨w.heap.size + 1, 2, none⟩ y2).setCell ⟨w.heap.size + 1, 3, none⟩ y3).setCell ⟨w.heap.size + 1, 4, none⟩ y4).setCell ⟨w.heap.size + 1, 5, none⟩ y5).cell? ⟨b, o, none⟩ = some z := fun b o z hne hz =>
      st _ _ _ _ _ _ hne (st _ _ _ _ _ _ hne (st _ _ _ _ _ _ hne (st _ _ _ _ _ _ hne (st _ _ _ _ _ _ hne (st _ _ _ _ _ _ hne hz)))))
    exact ⟨all _ _ _ hsz.out h0, all _ _ _ hsz.out h1, all _ _ _ hsz.out h2, all _ _ _ hsz.out h3, all _ _ _ hsz.out h4, all _ _ _ hlt.out.1 h5, all _ _ _ hlt.out.2 h6⟩)
  have HT : Hid (∀ v v1, v.heap = W.heap → Below v.heap.size v v1 → (v1.cell? ⟨w.heap.size + 1, 0, none⟩ = some (.int .i64 0) ∧ v1.cell? ⟨w.heap.size + 1, 1, none⟩ = some (.int .i64 0) ∧ v1.cell? ⟨w.heap.size + 1, 2, none⟩ = some (.int .i64 0) ∧ v1.cell? ⟨w.heap.size + 1, 3, none⟩ = some (.int .i64 0) ∧ v1.cell? ⟨w.heap.size + 1, 4, none⟩ = some (.int .i64 0) ∧ v1.cell? ⟨w.heap.size + 1, 5, none⟩ = some (.int .i64 0)) ∧
      v1.frozen? ⟨w.heap.size + 1, 0, none⟩ = false ∧ v1.frozen? ⟨w.heap.size + 1, 1, none⟩ = false ∧ v1.frozen? ⟨w.heap.size + 1, 2, none⟩ = false ∧ v1.frozen? ⟨w.heap.size + 1, 3, none⟩ = false ∧ v1.frozen? ⟨w.heap.size + 1, 4, none⟩ = false ∧ v1.frozen? ⟨w.heap.size + 1, 5, none⟩ = false) := Lib.hid (fun v v1 hv hb => by
    have h2 := N2.out; rw [← hv] at h2
    have h2 := box_below h2 hb
    exact ⟨⟨box_cell h2 0 _ rfl, box_cell h2 1 _ rfl, box_cell h2 2 _ rfl, box_cell h2 3 _ rfl, box_cell h2 4 _ rfl, box_cell h2 5 _ rfl⟩, box_fz h2 0, box_fz h2 1, box_fz h2 2, box_fz h2 3, box_fz h2 4, box_fz h2 5⟩)
  have hRS := lt_of_block N2.out
  have HW : Hid (W.drew.heap = W.heap) := Lib.hid rfl
  have HS0 : Hid (W.drew.cell? ⟨w.heap.size, 0, none⟩ = some (.slice (some ⟨b1, o1, none⟩) du.length dc) ∧ W.drew.cell? ⟨w.heap.size, 1, none⟩ = some (.slice (some ⟨b2, o2, none⟩) mv.length mc) ∧ W.drew.cell? ⟨w.heap.size, 2, none⟩ = some (.int .i64 de) ∧ W.drew.cell? ⟨w.heap.size, 3, none⟩ = some (.int .i64 tl) ∧ W.drew.cell? ⟨w.heap.size, 4, none⟩ = some (.int .i64 a) ∧ W.drew.cell? ⟨b1, o1 + i, none⟩ = some (.int .i64 x1) ∧ W.drew.cell? ⟨b2, o2 + i, none⟩ = some (.int .i64 x2)) := Lib.hid (HS.out W.drew W.drew rfl (Below.refl _ _))
  go_region_held3 (fun v1 => v1.cell? ⟨w.heap.size, 0, none⟩ = some (.slice (some ⟨b1, o1, none⟩) du.length dc) ∧ v1.cell? ⟨w.heap.size, 1, none⟩ = some (.slice (some ⟨b2, o2, none⟩) mv.length mc) ∧ v1.cell? ⟨w.heap.size, 2, none⟩ = some (.int .i64 de) ∧ v1.cell? ⟨w.heap.size, 3, none⟩ = some (.int .i64 tl) ∧ v1.cell? ⟨w.heap.size, 4, none⟩ = some (.int .i64 a) ∧ v1.cell? ⟨b1, o1 + i, none⟩ = some (.int .i64 x1) ∧ v1.cell? ⟨b2, o2 + i, none⟩ = some (.int .i64 x2))
    (first | with_reducible exact HS0.out | with_reducible exact HS.out _ _ hv1 g1 | with_reducible exact HSS.out _ _ _ _ _ _ _ (HS.out _ _ hv1 g1))
    (first | (go_at_call 83; refine (HF.out _).mono ?_; rintro e v1 ⟨rfl, g1⟩; have hv1 := HW.out; have hT := HT.out _ _ (HW.out) g1; obtain ⟨⟨hT0, hT1, hT2, hT3, hT4, hT5⟩, hT6, hT7, hT8, hT9, hTa, hTb⟩ := hT))
  have G2 := Lib.hid (show Below W.heap.size W v1 from ⟨g1.os, g1.tape, g1.output, g1.size, g1.block⟩); clear g1 hv1
  have R2 := Lib.hid (block_set (block_set (block_set (block_set (block_set (block_set (box_below N2.out G2.out) (o := 0) (.int .i64 t)) (o := 1) (.int .i64 x2)) (o := 2) (.int .i64 de)) (o := 3) (.int .i64 x1)) (o := 4) (.int .i64 tl)) (o := 5) (.int .i64 a))
  have up : ∀ (v : World) (k : Nat) (y : Value), Below w.heap.size w v → Below w.heap.size w (v.setCell ⟨w.heap.size + 1, k, none⟩ y) := fun v k y h => h.setCell (p := ⟨w.heap.size + 1, k, none⟩) (by show w.heap.size ≤ w.heap.size + 1; omega) y
  have G3 := Lib.hid (up _ 5 (.int .i64 a) (up _ 4 (.int .i64 tl) (up _ 3 (.int .i64 x1) (up _ 2 (.int .i64 de) (up _ 1 (.int .i64 x2) (up _ 0 (.int .i64 t) (below_step HG.out G2.out)))))))
  go_wp2_with fail
  clear hT0 hT1 hT2 hT3 hT4 hT5 hT6 hT7 hT8 hT9 hTa hTb up
  generalize ((((((v1.setCell ⟨w.heap.size + 1, 0, none⟩ (.int .i64 t)).setCell ⟨w.heap.size + 1, 1, none⟩ (.int .i64 x2)).setCell ⟨w.heap.size + 1, 2, none⟩ (.int .i64 de)).setCell ⟨w.heap.size + 1, 3, none⟩ (.int .i64 x1)).setCell ⟨w.heap.size + 1, 4, none⟩ (.int .i64 tl)).setCell ⟨w.heap.size + 1, 5, none⟩ (.int .i64 a)) = w3 at *
  have r0 := box_cell R2.out 0 (.int .i64 t) rfl
  have r1 := box_cell R2.out 1 (.int .i64 x2) rfl
  have r2 := box_cell R2.out 2 (.int .i64 de) rfl
  have r3 := box_cell R2.out 3 (.int .i64 x1) rfl
  have r4 := box_cell R2.out 4 (.int .i64 tl) rfl
  have r5 := box_cell R2.out 5 (.int .i64 a) rfl
  refine bodyPost_ret (v := passV ⟨du, mv, de, tl, a⟩ t x2 x1) (by simp [results, Try.results66, go_sem, r0, r1, r2, r3, r4, r5]) rfl ?_
  exact ⟨rfl, G3.out⟩
end Go.Proofs.Ytjdhjlhcdpekbaa.Pe

namespace Go.Proofs.Ytjdhjlhcdpekbaa.Pe
open Go.RowKit

theorem vs_cells {w : World} {b o : Nat} {x : Pl.Visit} (h : ∀ (j : Nat) (v : Value), (visitCells x)[j]? = some v → w.cell? ⟨b, o + j, none⟩ = some v) :
    w.cell? ⟨b, o, none⟩ = some (.int .i64 x.step) ∧ w.cell? ⟨b, o + 1, none⟩ = some (.int .i64 x.tool) ∧ w.cell? ⟨b, o + 2, none⟩ = some (.int .i64 x.start) ∧ w.cell? ⟨b, o + 3, none⟩ = some (.int .i64 x.fin) := ⟨h 0 _ rfl, h 1 _ rfl, h 2 _ rfl, h 3 _ rfl⟩
/-- Times within a million. -/
def VBd (V : List Pl.Visit) : Prop := ∀ x ∈ V, (0 ≤ x.start ∧ x.start ≤ 1000000) ∧ 0 ≤ x.fin ∧ x.fin ≤ 1010000
abbrev winObj (x : Pl.Win) : Obj := .cells #[.int .i64 x.f, .int .i64 x.t, .int .i64 x.lim] 110
set_option maxRecDepth 100000 in
set_option maxHeartbeats 2000000 in
theorem Run1_any (x : Pl.Win) (g : Nat) (a : Option Addr) (c : Nat) (V : List Pl.Visit) (w : World) (hg : w.cell? ⟨g, 0, none⟩ = some (.slice a V.length c)) (hV : VsA w a c V) (hb : VBd V) (h0 : 0 ≤ x.f) (h1 : x.f < x.t) (h2 : x.t < V.length) :
    Calls Try.prog 65 #[winV x, .pointer (some ⟨g, 0, none⟩)] w fun e w' => e = .returned (.bool (Pl.missed V x)) ∧ Below w.heap.size w w' := by
  obtain ⟨f, t, lim⟩ := x
  simp only at h0 h1 h2
  obtain ⟨n, rfl⟩ := Int.eq_ofNat_of_zero_le h0
  obtain ⟨m, rfl⟩ := Int.eq_ofNat_of_zero_le (show 0 ≤ t by omega)
  have hn : n < V.length := by omega
  have hm : m < V.length := by omega
  obtain ⟨b, off, rfl, hbb, hc⟩ := hV.at (by omega)
  obtain ⟨-, -, -, n3⟩ := vs_cells (hc n hn)
  obtain ⟨-, -, m2, -⟩ := vs_cells (hc m hm)
  have hl := hV.len
  unfold maxLen at hl
  have HE := Lib.hid (show Pl.missed V ⟨(n : Int), (m : Int), lim⟩ = decide (V[m].start - V[n].fin > lim) by unfold Pl.missed; rw [Pl.nth_lt hn, Pl.nth_lt hm])
  have b1 := hb _ (List.getElem_mem hn)
  have b2 := hb _ (List.getElem_mem hm)
  have e1 : IntKind.i64.wrap (V[m].start - V[n].fin) = V[m].start - V[n].fin := IntWalk.i64_in _ (by omega)
  rw [HE.out]
  clear hc hb b1 b2 hV HE h0 h1 h2
  have HG := Lib.hid (below_new w (winObj ⟨(n : Int), (m : Int), lim⟩))
  have i1 : (0 : Int) ≤ (n : Int) := by omega
  have i2 : (n : Int) < (V.length : Int) := by omega
  have i3 : (0 : Int) ≤ (m : Int) := by omega
  have i4 : (m : Int) < (V.length : Int) := by omega
  have i5 : ((n : Int)).toNat = n := by omega
  have i6 : ((m : Int)).toNat = m := by omega
  generalize V[m].start = s at *
  generalize V[n].fin = e at *
  clear hn hm
  generalize V.length = l at *
  have hw : w.heap[w.heap.size]? = none := by simp
  have N := Lib.hid (heap_alloc_new w (winObj ⟨(n : Int), (m : Int), lim⟩))
  have C := Lib.hid (show (w.alloc (winObj ⟨(n : Int), (m : Int), lim⟩)).cell? ⟨g, 0, none⟩ = some (.slice (some ⟨b, off, none⟩) l c) ∧ (w.alloc (winObj ⟨(n : Int), (m : Int), lim⟩)).cell? ⟨b, off + n * 4 + 3, none⟩ = some (.int .i64 e) ∧ (w.alloc (winObj ⟨(n : Int), (m : Int), lim⟩)).cell? ⟨b, off + m * 4 + 2, none⟩ = some (.int .i64 s) from ⟨cell_below HG.out hg, cell_below HG.out n3, cell_below HG.out m2⟩)
  clear hg n3 m2 hw
  dsimp only [winObj] at N HG C
  go_enter Try.func65, Try.ntmps65
  go_wp2_with fail
  generalize w.alloc (.cells #[.int .i64 (n : Int), .int .i64 (m : Int), .int .i64 lim] 110) = W at *
  obtain ⟨c1, c2, c3⟩ := C.out
  have k0 := box_cell N.out 0 (.int .i64 (n : Int)) rfl
  have k1 := box_cell N.out 1 (.int .i64 (m : Int)) rfl
  have k2 := box_cell N.out 2 (.int .i64 lim) rfl
  clear C N
  go_quiet (fail)
  go_wp2_with fail
  go_ret
  exact ⟨rfl, below_drewN HG.out _⟩
end Go.Proofs.Ytjdhjlhcdpekbaa.Pe

namespace Go.Proofs.Ytjdhjlhcdpekbaa.Pe
open Go.RowKit

abbrev lateObj (k n : Int) : Obj := .cells #[.int .i64 k, .int .i64 n] 73
/-- What Run answers. -/
def Pl.answer (p : Pl.Plan) (s : Pl.Scen) : Pl.Res × Int := if Pl.possible p s then (Pl.run p s, 0) else (⟨[], 0, 0⟩, 80)
def RunPost (p : Pl.Plan) (s : Pl.Scen) (w : World) (e : Ending) (w' : World) : Prop :=
  ∃ a c, e = .returned (.tuple #[.slice a (Pl.answer p s).1.V.length c, .agg #[.int .i64 (Pl.answer p s).1.kind, .int .i64 (Pl.answer p s).1.num], .int .i64 (Pl.answer p s).2]) ∧ VsO w' w.heap.size (.slice a (Pl.answer p s).1.V.length c) (Pl.answer p s).1.V ∧ Below w.heap.size w w'
theorem info_visit : (Try.prog.info? 77).map (fun i => (i.zero, i.size, i.bytes)) = some (some (.agg #[.int .i64 0, .int .i64 0, .int .i64 0, .int .i64 0]), 4, 32) := by kernel_rfl
set_option maxRecDepth 100000 in
set_option maxHeartbeats 2000000 in
theorem Run_no (q : PlanP) (r : ScenP) (w : World) (h : q.ok w) (hr : r.ok w) (hp : Pl.possible q.p r.s = false) : Calls Try.prog 39 #[q.val, r.val] w (RunPost q.p r.s w) := by
  have HP := Lib.hid (fun v (hv : Below w.heap.size w v) => Possible_any q r v (h.below hv) (hr.below hv))
  rw [hp] at HP
  have HA := Lib.hid (show Pl.answer q.p r.s = (⟨[], 0, 0⟩, 80) by unfold Pl.answer; rw [hp]; rfl)
  have HG := Lib.hid (below_step (below_step (below_new w (planObj q)) (below_new _ (scenObj r))) (below_new _ (lateObj 0 0)))
  have hn3 : (((w.alloc (planObj q)).alloc (scenObj r)).alloc (lateObj 0 0)).heap[w.heap.size + 1 + 1]? = some (lateObj 0 0) := by
    have := heap_alloc_new ((w.alloc (planObj q)).alloc (scenObj r)) (lateObj 0 0)
    rw [show ((w.alloc (planObj q)).alloc (scenObj r)).heap.size = w.heap.size + 1 + 1 by simp] at this; exact this
  have hn1 : (((w.alloc (planObj q)).alloc (scenObj r)).alloc (lateObj 0 0)).heap[w.heap.size]? = some (planObj q) := box_below (box_below (heap_alloc_new _ _) (below_new _ _)) (below_new _ _)
  have hn2 : (((w.alloc (planObj q)).alloc (scenObj r)).alloc (lateObj 0 0)).heap[w.heap.size + 1]? = some (scenObj r) := by
    have := heap_alloc_new (w.alloc (planObj q)) (scenObj r)
    rw [show (w.alloc (planObj q)).heap.size = w.heap.size + 1 by simp] at this; exact box_below this (below_new _ _)
  have N1 := Lib.hid hn1; have N2 := Lib.hid hn2; have N3 := Lib.hid hn3
  clear h hr hp hn1 hn2 hn3
  obtain ⟨⟨en, mi, ma, st, wn⟩, sa, sc, wa, wc⟩ := q
  obtain ⟨⟨du, mv, de, to_, at_⟩, da, dc, xa, xc⟩ := r
  dsimp only [planObj, scenObj, lateObj] at N1 N2 N3 HG
  go_enter Try.func39, Try.ntmps39
  go_wp2_with fail
  generalize ((w.alloc (.cells #[.int .i64 en, .int .i64 mi, .int .i64 ma, .slice sa st.length sc, .slice wa wn.length wc] 64)).alloc (.cells #[.slice da du.length dc, .slice xa mv.length xc, .int .i64 de, .int .i64 to_, .int .i64 at_] 67)).alloc (.cells #[.int .i64 0, .int .i64 0] 73) = W at *
  go_step3
  have d0 := box_cell N1.out 0 (.int .i64 en) rfl
  have d1 := box_cell N1.out 1 (.int .i64 mi) rfl
  have d2 := box_cell N1.out 2 (.int .i64 ma) rfl
  have d3 := box_cell N1.out 3 (.slice sa st.length sc) rfl
  have d4 := box_cell N1.out 4 (.slice wa wn.length wc) rfl
  have c0 := box_cell N2.out 0 (.slice da du.length dc) rfl
  have c1 := box_cell N2.out 1 (.slice xa mv.length xc) rfl
  have c2 := box_cell N2.out 2 (.int .i64 de) rfl
  have c3 := box_cell N2.out 3 (.int .i64 to_) rfl
  have c4 := box_cell N2.out 4 (.int .i64 at_) rfl
  go_wp2_with fail
  refine (HP.out _ HG.out).mono ?_; rintro _ w1 ⟨rfl, g1⟩
  clear d0 d1 d2 d3 d4 c0 c1 c2 c3 c4 N1 N2
  have R1 := Lib.hid (box_below N3.out g1); have G1 := Lib.hid (below_step HG.out g1)
  clear g1 N3 HG
  have r0 := box_cell R1.out 0 (.int .i64 0) rfl
  have r1 := box_cell R1.out 1 (.int .i64 0) rfl
  have z0 := box_fz R1.out 0
  have z1 := box_fz R1.out 1
  have hRS := lt_of_block R1.out
  go_wp2_with fail
  have R3 := Lib.hid (block_set (block_set R1.out (o := 0) (.int .i64 0)) (o := 1) (.int .i64 0))
  have G3 := Lib.hid (((G1.out).setCell (p := ⟨w.heap.size + 1 + 1, 0, none⟩) (by show w.heap.size ≤ w.heap.size + 1 + 1; omega) (.int .i64 0)).setCell (p := ⟨w.heap.size + 1 + 1, 1, none⟩) (by show w.heap.size ≤ w.heap.size + 1 + 1; omega) (.int .i64 0))
  clear r0 r1 z0 z1
  generalize (w1.setCell ⟨w.heap.size + 1 + 1, 0, none⟩ (.int .i64 0)).setCell ⟨w.heap.size + 1 + 1, 1, none⟩ (.int .i64 0) = w3 at *
  have r0 := box_cell R3.out 0 (.int .i64 0) rfl
  have r1 := box_cell R3.out 1 (.int .i64 0) rfl
  try rw [Exit.noGoto_ret]
  refine bodyPost_ret (v := .tuple #[.slice none 0 0, .agg #[.int .i64 0, .int .i64 0], .int .i64 80]) (by simp [results, Try.results39, go_sem, r0, r1]) rfl ?_
  unfold RunPost
  rw [HA.out]
  exact ⟨none, 0, rfl, RowO.nil _ _ _ _ _, G3.out⟩
end Go.Proofs.Ytjdhjlhcdpekbaa.Pe

namespace Go.Proofs.Ytjdhjlhcdpekbaa.Pe
open Go.RowKit

theorem ne_of_type {w : World} {i j : Nat} {cs ds : Array Value} {t u : TypeId} (h1 : w.heap[i]? = some (.cells cs t)) (h2 : w.heap[j]? = some (.cells ds u)) (h : t ≠ u) : i ≠ j := by
  rintro rfl; rw [h1] at h2; injection h2 with h2; injection h2 with _ h2; exact h h2
structure RunM (q : PlanP) (r : ScenP) (w0 : World) (n7 n8 : Nat) (a : Option Addr) (c : Nat) (V : List Pl.Visit) (k n : Int) (w : World) : Prop where
  pb : w.heap[w0.heap.size]? = some (planObj q)
  sb : w.heap[w0.heap.size + 1]? = some (scenObj r)
  lb : w.heap[w0.heap.size + 1 + 1]? = some (lateObj 0 0)
  vb : w.heap[n7]? = some (.cells #[.slice a V.length c] 71)
  kb : w.heap[n8]? = some (lateObj k n)
  row : VsO w w0.heap.size (.slice a V.length c) V
  bel : Below w0.heap.size w0 w
  bd : VBd V
  g7 : w0.heap.size + 1 + 1 < n7
  g8 : w0.heap.size + 1 + 1 < n8
theorem RunM.below {q : PlanP} {r : ScenP} {w0 : World} {n7 n8 : Nat} {a : Option Addr} {c : Nat} {V : List Pl.Visit} {k n : Int} {w w' : World} (h : RunM q r w0 n7 n8 a c V k n w) (hb : Below w.heap.size w w') : RunM q r w0 n7 n8 a c V k n w' :=
  ⟨box_below h.pb hb, box_below h.sb hb, box_below h.lb hb, box_below h.vb hb, box_below h.kb hb, h.row.below hb, below_step h.bel hb, h.bd, h.g7, h.g8⟩
theorem RunM.rowA {q : PlanP} {r : ScenP} {w0 : World} {n7 n8 : Nat} {a : Option Addr} {c : Nat} {V : List Pl.Visit} {k n : Int} {w : World} (h : RunM q r w0 n7 n8 a c V k n w) : VsA w a c V := by
  obtain ⟨a', c', e, h1, -⟩ := h.row.arg visit_len
  injection e with e1 _ e2; subst e1; subst e2; exact h1
/-- The lateness is written. -/
theorem RunM.late {q : PlanP} {r : ScenP} {w0 : World} {n7 n8 : Nat} {a : Option Addr} {c : Nat} {V : List Pl.Visit} {k n : Int} {w : World} (h : RunM q r w0 n7 n8 a c V k n w) (k' n' : Int) :
    RunM q r w0 n7 n8 a c V k' n' ((w.setCell ⟨n8, 0, none⟩ (.int .i64 k')).setCell ⟨n8, 1, none⟩ (.int .i64 n')) := by
  have two : ∀ b, b ≠ n8 → ((w.setCell ⟨n8, 0, none⟩ (.int .i64 k')).setCell ⟨n8, 1, none⟩ (.int .i64 n')).heap[b]? = w.heap[b]? := fun b hb => (Below.heap_setCell _ _ _ _ hb).trans (Below.heap_setCell _ _ _ _ hb)
  have g8 := h.g8
  refine ⟨(two _ (by omega)).trans h.pb, (two _ (by omega)).trans h.sb, (two _ (by omega)).trans h.lb, (two _ (ne_of_type h.vb h.kb (by decide))).trans h.vb, ?_, ?_, ?_, h.bd, h.g7, h.g8⟩
  · rw [block_set (block_set h.kb (o := 0) (.int .i64 k')) (o := 1) (.int .i64 n')]; rfl
  · refine own_ch (S := fun b => b = n8) h.row ⟨rfl, rfl, rfl, by simp [World.setCell], fun b _ hb => two b hb⟩ (fun b hb e => ?_)
    obtain ⟨cs, hcs⟩ := own_block h.row hb
    exact ne_of_type hcs h.kb (by decide) e
  · exact (h.bel.setCell (p := ⟨n8, 0, none⟩) (by show w0.heap.size ≤ n8; omega) _).setCell (p := ⟨n8, 1, none⟩) (by show w0.heap.size ≤ n8; omega) _
/-- A visit is appended. -/
theorem RunM.app {q : PlanP} {r : ScenP} {w0 : World} {n7 n8 : Nat} {a a' : Option Addr} {c c' : Nat} {V : List Pl.Visit} {k n : Int} {w wA w3 : World} (h : RunM q r w0 n7 n8 a c V k n w) (x : Pl.Visit) (hx : (0 ≤ x.start ∧ x.start ≤ 1000000) ∧ 0 ≤ x.fin ∧ x.fin ≤ 1010000)
    (hA : Below w.heap.size w wA) (hown : w3.ownsRow w0.heap.size 77 4 (.slice a' (V.length + 1) c') (V.length + 1) (V.flatMap visitCells ++ visitCells x)) (hg : wA.grownBy w3 (Value.slice a V.length c).ownBlock) :
    RunM q r w0 n7 n8 a' c' (V ++ [x]) k n (w3.setCell ⟨n7, 0, none⟩ (.slice a' (V.length + 1) c')) := by
  have hA' := h.below hA
  have g7 := h.g7
  have g8 := h.g8
  have far : ∀ b cs t, wA.heap[b]? = some (.cells cs t) → t ≠ 77 → b ≠ n7 → (w3.setCell ⟨n7, 0, none⟩ (.slice a' (V.length + 1) c')).heap[b]? = some (.cells cs t) := fun b cs t hb ht hn => by
    rw [Below.heap_setCell _ _ _ _ hn, hg.block b (lt_of_block hb) (fun e => ?_)]
    · exact hb
    · obtain ⟨ds, hds⟩ := own_block hA'.row (e.symm)
      exact ne_of_type hb hds ht rfl
  have hv3 : w3.heap[n7]? = some (.cells #[.slice a V.length c] 71) := by
    rw [hg.block n7 (lt_of_block hA'.vb) (fun e => ?_)]
    · exact hA'.vb
    · obtain ⟨ds, hds⟩ := own_block hA'.row (e.symm)
      exact ne_of_type hA'.vb hds (by decide) rfl
  refine ⟨far _ _ _ hA'.pb (by decide) (by omega), far _ _ _ hA'.sb (by decide) (by omega), far _ _ _ hA'.lb (by decide) (by omega), ?_, far _ _ _ hA'.kb (by decide) (ne_of_type hA'.kb hA'.vb (by decide)), ?_, ?_, ?_, g7, g8⟩
  · rw [block_set hv3]; simp
  · have hr : VsO w3 w0.heap.size (.slice a' (V ++ [x]).length c') (V ++ [x]) := by rw [List.length_append]; exact RowO.snoc hown
    refine own_ch (S := fun b => b = n7) hr (Ch.grown (grown_set (w := w3) n7 0 _) (fun b hb => by injection hb with hb; exact hb.symm)) (fun b hb e => ?_)
    obtain ⟨cs, hcs⟩ := own_block hr hb
    exact ne_of_type hcs hv3 (by decide) e
  · exact ((hA'.bel).grown hg (hA'.bel.size) (fun b hb => (hA'.row.lt b hb).1)).setCell (p := ⟨n7, 0, none⟩) (by show w0.heap.size ≤ n7; omega) _
  · intro y hy
    rcases List.mem_append.1 hy with hy | hy
    · exact h.bd y hy
    · simp at hy; subst hy; exact hx
/-- The cell of the visits, behind the append. -/
theorem RunM.vb3 {q : PlanP} {r : ScenP} {w0 : World} {n7 n8 : Nat} {a : Option Addr} {c : Nat} {V : List Pl.Visit} {k n : Int} {w wA w3 : World} (h : RunM q r w0 n7 n8 a c V k n w)
    (hA : Below w.heap.size w wA) (hg : wA.grownBy w3 (Value.slice a V.length c).ownBlock) : w3.heap[n7]? = some (.cells #[.slice a V.length c] 71) := by
  have hA' := h.below hA
  rw [hg.block n7 (lt_of_block hA'.vb) (fun e => ?_)]
  · exact hA'.vb
  · obtain ⟨ds, hds⟩ := own_block hA'.row (e.symm)
    exact ne_of_type hA'.vb hds (by decide) rfl
/-- What is returned. -/
theorem RunM.fin {q : PlanP} {r : ScenP} {w0 : World} {n7 n8 : Nat} {a : Option Addr} {c : Nat} {V : List Pl.Visit} {k n : Int} {w : World} (h : RunM q r w0 n7 n8 a c V k n w) (k' n' : Int) :
    VsO ((w.setCell ⟨w0.heap.size + 1 + 1, 0, none⟩ (.int .i64 k')).setCell ⟨w0.heap.size + 1 + 1, 1, none⟩ (.int .i64 n')) w0.heap.size (.slice a V.length c) V ∧
    Below w0.heap.size w0 ((w.setCell ⟨w0.heap.size + 1 + 1, 0, none⟩ (.int .i64 k')).setCell ⟨w0.heap.size + 1 + 1, 1, none⟩ (.int .i64 n')) ∧
    ((w.setCell ⟨w0.heap.size + 1 + 1, 0, none⟩ (.int .i64 k')).setCell ⟨w0.heap.size + 1 + 1, 1, none⟩ (.int .i64 n')).heap[w0.heap.size + 1 + 1]? = some (lateObj k' n') := by
  refine ⟨?_, ?_, ?_⟩
  · refine own_ch (S := fun b => b = w0.heap.size + 1 + 1) h.row ⟨rfl, rfl, rfl, by simp [World.setCell], fun b _ hb => (Below.heap_setCell _ _ _ _ hb).trans (Below.heap_setCell _ _ _ _ hb)⟩ (fun b hb e => ?_)
    obtain ⟨cs, hcs⟩ := own_block h.row hb
    exact ne_of_type hcs h.lb (by decide) e
  · exact (h.bel.setCell (p := ⟨w0.heap.size + 1 + 1, 0, none⟩) (by show w0.heap.size ≤ w0.heap.size + 1 + 1; omega) _).setCell (p := ⟨w0.heap.size + 1 + 1, 1, none⟩) (by show w0.heap.size ≤ w0.heap.size + 1 + 1; omega) _
  · rw [block_set (block_set h.lb (o := 0) (.int .i64 k')) (o := 1) (.int .i64 n')]; rfl
end Go.Proofs.Ytjdhjlhcdpekbaa.Pe

namespace Go.Proofs.Ytjdhjlhcdpekbaa.Pe
open Go.RowKit

set_option maxRecDepth 100000 in
set_option maxHeartbeats 4000000 in
theorem Run_yes (q : PlanP) (r : ScenP) (w : World) (h : q.ok w) (hr : r.ok w) (hp : Pl.possible q.p r.s = true) : Calls Try.prog 39 #[q.val, r.val] w (RunPost q.p r.s w) := by
  have HP := Lib.hid (fun v (hv : Below w.heap.size w v) => Possible_any q r v (h.below hv) (hr.below hv))
  rw [hp] at HP
  have HA := Lib.hid (show Pl.answer q.p r.s = (Pl.run q.p r.s, 0) by unfold Pl.answer; rw [hp]; rfl)
  have PO := Lib.hid (Pl.possible_iff.1 hp)
  have HQ := Lib.hid h; have HR := Lib.hid hr
  have HG := Lib.hid (below_step (below_step (below_new w (planObj q)) (below_new _ (scenObj r))) (below_new _ (lateObj 0 0)))
  have hn3 : (((w.alloc (planObj q)).alloc (scenObj r)).alloc (lateObj 0 0)).heap[w.heap.size + 1 + 1]? = some (lateObj 0 0) := by
    have := heap_alloc_new ((w.alloc (planObj q)).alloc (scenObj r)) (lateObj 0 0)
    rw [show ((w.alloc (planObj q)).alloc (scenObj r)).heap.size = w.heap.size + 1 + 1 by simp] at this; exact this
  have hn1 : (((w.alloc (planObj q)).alloc (scenObj r)).alloc (lateObj 0 0)).heap[w.heap.size]? = some (planObj q) := box_below (box_below (heap_alloc_new _ _) (below_new _ _)) (below_new _ _)
  have hn2 : (((w.alloc (planObj q)).alloc (scenObj r)).alloc (lateObj 0 0)).heap[w.heap.size + 1]? = some (scenObj r) := by
    have := heap_alloc_new (w.alloc (planObj q)) (scenObj r)
    rw [show (w.alloc (planObj q)).heap.size = w.heap.size + 1 by simp] at this; exact box_below this (below_new _ _)
  have N1 := Lib.hid hn1; have N2 := Lib.hid hn2; have N3 := Lib.hid hn3
  have ls := h.st.len
  have lw := h.wn.len
  unfold maxLen at ls lw
  clear h hr hp hn1 hn2 hn3
  obtain ⟨⟨en, mi, ma, st, wn⟩, sa, sc, wa, wc⟩ := q
  obtain ⟨⟨du, mv, de, to_, at_⟩, da, dc, xa, xc⟩ := r
  simp only at ls lw
  dsimp only [planObj, scenObj, lateObj] at N1 N2 N3 HG
  go_enter Try.func39, Try.ntmps39
  go_wp2_with fail
  generalize ((w.alloc (.cells #[.int .i64 en, .int .i64 mi, .int .i64 ma, .slice sa st.length sc, .slice wa wn.length wc] 64)).alloc (.cells #[.slice da du.length dc, .slice xa mv.length xc, .int .i64 de, .int .i64 to_, .int .i64 at_] 67)).alloc (.cells #[.int .i64 0, .int .i64 0] 73) = W at *
  go_step3
  have d0 := box_cell N1.out 0 (.int .i64 en) rfl
  have d1 := box_cell N1.out 1 (.int .i64 mi) rfl
  have d2 := box_cell N1.out 2 (.int .i64 ma) rfl
  have d3 := box_cell N1.out 3 (.slice sa st.length sc) rfl
  have d4 := box_cell N1.out 4 (.slice wa wn.length wc) rfl
  have c0 := box_cell N2.out 0 (.slice da du.length dc) rfl
  have c1 := box_cell N2.out 1 (.slice xa mv.length xc) rfl
  have c2 := box_cell N2.out 2 (.int .i64 de) rfl
  have c3 := box_cell N2.out 3 (.int .i64 to_) rfl
  have c4 := box_cell N2.out 4 (.int .i64 at_) rfl
  go_wp2_with fail
  refine (HP.out _ HG.out).mono ?_; rintro _ w1 ⟨rfl, g1⟩
  have M0 : Hid (RunM ⟨⟨en, mi, ma, st, wn⟩, sa, sc, wa, wc⟩ ⟨⟨du, mv, de, to_, at_⟩, da, dc, xa, xc⟩ w w1.heap.size (w1.heap.size + 1) none 0 [] 0 0 ((w1.alloc (.cells #[.slice none 0 0] 71)).alloc (.cells #[.int .i64 0, .int .i64 0] 73))) := Lib.hid (by
    have hh := below_step (below_new w1 (.cells #[.slice none 0 0] 71)) (below_new (w1.alloc (.cells #[.slice none 0 0] 71)) (lateObj 0 0))
    have q3 := lt_of_block (box_below N3.out g1)
    refine ⟨box_below (box_below N1.out g1) hh, box_below (box_below N2.out g1) hh, box_below (box_below N3.out g1) hh, box_below (heap_alloc_new _ _) (below_new _ _), ?_, RowO.nil _ _ _ _ _, below_step (below_step HG.out g1) hh, (fun x hx => by cases hx), q3, by omega⟩
    have := heap_alloc_new (w1.alloc (.cells #[.slice none 0 0] 71)) (lateObj 0 0)
    rw [show (w1.alloc (.cells #[.slice none 0 0] 71)).heap.size = w1.heap.size + 1 by simp] at this; exact this)
  have hsz := lt_of_block (box_below N3.out g1)
  clear d0 d1 d2 d3 d4 c0 c1 c2 c3 c4 g1 N1 N2 N3 HG HP
  go_upto_region 6 with (fail)
  generalize (w1.alloc (.cells #[.slice none 0 0] 71)).alloc (.cells #[.int .i64 0, .int .i64 0] 73) = wz at *
  clear hsz
  generalize w1.heap.size = n7 at *
  have d0 := box_cell M0.out.pb 0 (.int .i64 en) rfl
  have d3 := box_cell M0.out.pb 3 (.slice sa st.length sc) rfl
  go_wp2_with fail
  go_step3
  go_wp2_with fail
  clear d0 d3
  go_loopg [10, 28] st.length (fun g lv iv wr => ∃ (k : Nat) (t : Int) (a : Option Addr) (c : Nat) (V : List Pl.Visit), k ≤ st.length ∧ g = st.length - k ∧ lv = .int .i64 t ∧ iv = .int .i64 (k : Int) ∧ Hid (RunM ⟨⟨en, mi, ma, st, wn⟩, sa, sc, wa, wc⟩ ⟨⟨du, mv, de, to_, at_⟩, da, dc, xa, xc⟩ w n7 (n7 + 1) a c V 0 0 wr) ∧
      Hid (V.length = k ∧ (0 ≤ t ∧ t ≤ 1010000) ∧ Pl.runFrom wn ⟨du, mv, de, to_, at_⟩ (st.drop k) k t V = Pl.run ⟨en, mi, ma, st, wn⟩ ⟨du, mv, de, to_, at_⟩))
  case atStart => exact ⟨0, en, none, 0, [], by omega, by omega, rfl, rfl, M0, Lib.hid ⟨rfl, by have := PO.out.v.entry; simp only at this; omega, rfl⟩⟩
  case round =>
    obtain ⟨k, t, a, c, V, hk, rfl, rfl, rfl, HM, HV⟩ := hrel
    by_cases hlt : k < st.length
    · obtain ⟨b, off, rfl, hb, hc⟩ := (HQ.out.st.below HM.out.bel).2.2 k hlt
      obtain ⟨c0, c1, c2, c3, c4, c5⟩ := st_cells hc
      have HX := Lib.hid (PO.out.v.st st[k] (List.getElem_mem hlt))
      have HD := Lib.hid (PO.out.dur k hlt)
      have HMv := Lib.hid (PO.out.mv k hlt)
      have HDr := Lib.hid (show st.drop k = st[k] :: st.drop (k + 1) from List.drop_eq_getElem_cons hlt)
      simp only at HD HMv
      clear hc
      generalize st[k] = x at *
      have PB := Lib.hid (show PassOk ⟨du, mv, de, to_, at_⟩ t (mv.getD k 0) (du.getD k 0) by
        have h1 := PO.out.v.mmin; have h2 := PO.out.v.mmax; have h3 := PO.out.det; have h4 := HX.out.mn; have h5 := HX.out.top; have h6 := HD.out; have h7 := HMv.out; have h8 := PO.out.fail; have h9 := HV.out.2.1
        simp only at h1 h2 h3 h6 h7 h8
        exact ⟨by omega, by omega, by omega, by simp only; omega, by simp only; omega⟩)
      go_upto_region 10 with (fail)
      have N12 := Lib.hid (heap_alloc_new wr (stageObj x))
      have HM9 := Lib.hid (HM.out.below (below_new wr (stageObj x)))
      dsimp only [stageObj] at N12 HM9
      clear c0 c1 c2 c3 c4 c5 hb
      generalize wr.alloc (.cells #[.int .i64 x.mn, .int .i64 x.mx, .int .i64 x.m.tool, .int .i64 x.m.start, .int .i64 x.s.tool, .int .i64 x.s.start] 108) = W9 at *
      generalize wr.heap.size = n12 at *
      have C1 := Lib.hid (fun v (hv : Below w.heap.size w v) => passageTo_any ⟨⟨du, mv, de, to_, at_⟩, da, dc, xa, xc⟩ k t v (HR.out.below hv) (by have := PO.out.dlen; simp only at this ⊢; omega) (by have := PO.out.mlen; simp only at this ⊢; omega))
      have C2 := Lib.hid (fun v => slot_any ⟨du, mv, de, to_, at_⟩ t (mv.getD k 0) (du.getD k 0) x v PB.out HX.out)
      have HS9 : Hid (W9.drew.cell? ⟨w.heap.size + 1, 0, none⟩ = some (.slice da du.length dc) ∧ W9.drew.cell? ⟨w.heap.size + 1, 1, none⟩ = some (.slice xa mv.length xc) ∧ W9.drew.cell? ⟨w.heap.size + 1, 2, none⟩ = some (.int .i64 de) ∧ W9.drew.cell? ⟨w.heap.size + 1, 3, none⟩ = some (.int .i64 to_) ∧ W9.drew.cell? ⟨w.heap.size + 1, 4, none⟩ = some (.int .i64 at_) ∧ W9.drew.cell? ⟨n12, 0, none⟩ = some (.int .i64 x.mn) ∧ W9.drew.cell? ⟨n12, 1, none⟩ = some (.int .i64 x.mx) ∧ W9.drew.cell? ⟨n12, 2, none⟩ = some (.int .i64 x.m.tool) ∧ W9.drew.cell? ⟨n12, 3, none⟩ = some (.int .i64 x.m.start) ∧ W9.drew.cell? ⟨n12, 4, none⟩ = some (.int .i64 x.s.tool) ∧ W9.drew.cell? ⟨n12, 5, none⟩ = some (.int .i64 x.s.start) ∧ Below W9.heap.size W9 W9.drew) := Lib.hid (by
        have h1 := HM9.out.sb
        have h2 := N12.out
        exact ⟨box_cell h1 0 _ rfl, box_cell h1 1 _ rfl, box_cell h1 2 _ rfl, box_cell h1 3 _ rfl, box_cell h1 4 _ rfl, box_cell h2 0 _ rfl, box_cell h2 1 _ rfl, box_cell h2 2 _ rfl, box_cell h2 3 _ rfl, box_cell h2 4 _ rfl, box_cell h2 5 _ rfl, (Below.refl _ _).drew⟩)
      have KEEP : Hid (∀ v v' : World, (v.cell? ⟨w.heap.size + 1, 0, none⟩ = some (.slice da du.length dc) ∧ v.cell? ⟨w.heap.size + 1, 1, none⟩ = some (.slice xa mv.length xc) ∧ v.cell? ⟨w.heap.size + 1, 2, none⟩ = some (.int .i64 de) ∧ v.cell? ⟨w.heap.size + 1, 3, none⟩ = some (.int .i64 to_) ∧ v.cell? ⟨w.heap.size + 1, 4, none⟩ = some (.int .i64 at_) ∧ v.cell? ⟨n12, 0, none⟩ = some (.int .i64 x.mn) ∧ v.cell? ⟨n12, 1, none⟩ = some (.int .i64 x.mx) ∧ v.cell? ⟨n12, 2, none⟩ = some (.int .i64 x.m.tool) ∧ v.cell? ⟨n12, 3, none⟩ = some (.int .i64 x.m.start) ∧ v.cell? ⟨n12, 4, none⟩ = some (.int .i64 x.s.tool) ∧ v.cell? ⟨n12, 5, none⟩ = some (.int .i64 x.s.start) ∧ Below W9.heap.size W9 v) → Below v.heap.size v v' → v'.cell? ⟨w.heap.size + 1, 0, none⟩ = some (.slice da du.length dc) ∧ v'.cell? ⟨w.heap.size + 1, 1, none⟩ = some (.slice xa mv.length xc) ∧ v'.cell? ⟨w.heap.size + 1, 2, none⟩ = some (.int .i64 de) ∧ v'.cell? ⟨w.heap.size + 1, 3, none⟩ = some (.int .i64 to_) ∧ v'.cell? ⟨w.heap.size + 1, 4, none⟩ = some (.int .i64 at_) ∧ v'.cell? ⟨n12, 0, none⟩ = some (.int .i64 x.mn) ∧ v'.cell? ⟨n12, 1, none⟩ = some (.int .i64 x.mx) ∧ v'.cell? ⟨n12, 2, none⟩ = some (.int .i64 x.m.tool) ∧ v'.cell? ⟨n12, 3, none⟩ = some (.int .i64 x.m.start) ∧ v'.cell? ⟨n12, 4, none⟩ = some (.int .i64 x.s.tool) ∧ v'.cell? ⟨n12, 5, none⟩ = some (.int .i64 x.s.start) ∧ Below W9.heap.size W9 v') := Lib.hid (fun v v' ⟨h0, h1, h2, h3, h4, h5, h6, h7, h8, h9, hX, hY⟩ hb =>
        ⟨cell_below hb h0, cell_below hb h1, cell_below hb h2, cell_below hb h3, cell_below hb h4, cell_below hb h5, cell_below hb h6, cell_below hb h7, cell_below hb h8, cell_below hb h9, cell_below hb hX, below_step hY hb⟩)
      have KEEPA : Hid (∀ v : World, (v.cell? ⟨w.heap.size + 1, 0, none⟩ = some (.slice da du.length dc) ∧ v.cell? ⟨w.heap.size + 1, 1, none⟩ = some (.slice xa mv.length xc) ∧ v.cell? ⟨w.heap.size + 1, 2, none⟩ = some (.int .i64 de) ∧ v.cell? ⟨w.heap.size + 1, 3, none⟩ = some (.int .i64 to_) ∧ v.cell? ⟨w.heap.size + 1, 4, none⟩ = some (.int .i64 at_) ∧ v.cell? ⟨n12, 0, none⟩ = some (.int .i64 x.mn) ∧ v.cell? ⟨n12, 1, none⟩ = some (.int .i64 x.mx) ∧ v.cell? ⟨n12, 2, none⟩ = some (.int .i64 x.m.tool) ∧ v.cell? ⟨n12, 3, none⟩ = some (.int .i64 x.m.start) ∧ v.cell? ⟨n12, 4, none⟩ = some (.int .i64 x.s.tool) ∧ v.cell? ⟨n12, 5, none⟩ = some (.int .i64 x.s.start) ∧ Below W9.heap.size W9 v) → (v.alloc (.cells #[.int .i64 0, .int .i64 0] 106)).cell? ⟨w.heap.size + 1, 0, none⟩ = some (.slice da du.length dc) ∧ (v.alloc (.cells #[.int .i64 0, .int .i64 0] 106)).cell? ⟨w.heap.size + 1, 1, none⟩ = some (.slice xa mv.length xc) ∧ (v.alloc (.cells #[.int .i64 0, .int .i64 0] 106)).cell? ⟨w.heap.size + 1, 2, none⟩ = some (.int .i64 de) ∧ (v.alloc (.cells #[.int .i64 0, .int .i64 0] 106)).cell? ⟨w.heap.size + 1, 3, none⟩ = some (.int .i64 to_) ∧ (v.alloc (.cells #[.int .i64 0, .int .i64 0] 106)).cell? ⟨w.heap.size + 1, 4, none⟩ = some (.int .i64 at_) ∧ (v.alloc (.cells #[.int .i64 0, .int .i64 0] 106)).cell? ⟨n12, 0, none⟩ = some (.int .i64 x.mn) ∧ (v.alloc (.cells #[.int .i64 0, .int .i64 0] 106)).cell? ⟨n12, 1, none⟩ = some (.int .i64 x.mx) ∧ (v.alloc (.cells #[.int .i64 0, .int .i64 0] 106)).cell? ⟨n12, 2, none⟩ = some (.int .i64 x.m.tool) ∧ (v.alloc (.cells #[.int .i64 0, .int .i64 0] 106)).cell? ⟨n12, 3, none⟩ = some (.int .i64 x.m.start) ∧ (v.alloc (.cells #[.int .i64 0, .int .i64 0] 106)).cell? ⟨n12, 4, none⟩ = some (.int .i64 x.s.tool) ∧ (v.alloc (.cells #[.int .i64 0, .int .i64 0] 106)).cell? ⟨n12, 5, none⟩ = some (.int .i64 x.s.start) ∧ Below W9.heap.size W9 (v.alloc (.cells #[.int .i64 0, .int .i64 0] 106))) := Lib.hid (fun v h => KEEP.out _ _ h (below_new _ _))
      have KEEPD : Hid (∀ v : World, (v.drew.cell? ⟨w.heap.size + 1, 0, none⟩ = some (.slice da du.length dc) ∧ v.drew.cell? ⟨w.heap.size + 1, 1, none⟩ = some (.slice xa mv.length xc) ∧ v.drew.cell? ⟨w.heap.size + 1, 2, none⟩ = some (.int .i64 de) ∧ v.drew.cell? ⟨w.heap.size + 1, 3, none⟩ = some (.int .i64 to_) ∧ v.drew.cell? ⟨w.heap.size + 1, 4, none⟩ = some (.int .i64 at_) ∧ v.drew.cell? ⟨n12, 0, none⟩ = some (.int .i64 x.mn) ∧ v.drew.cell? ⟨n12, 1, none⟩ = some (.int .i64 x.mx) ∧ v.drew.cell? ⟨n12, 2, none⟩ = some (.int .i64 x.m.tool) ∧ v.drew.cell? ⟨n12, 3, none⟩ = some (.int .i64 x.m.start) ∧ v.drew.cell? ⟨n12, 4, none⟩ = some (.int .i64 x.s.tool) ∧ v.drew.cell? ⟨n12, 5, none⟩ = some (.int .i64 x.s.start) ∧ Below W9.heap.size W9 v.drew) → (v.alloc (.cells #[.int .i64 0, .int .i64 0] 106)).drew.cell? ⟨w.heap.size + 1, 0, none⟩ = some (.slice da du.length dc) ∧ (v.alloc (.cells #[.int .i64 0, .int .i64 0] 106)).drew.cell? ⟨w.heap.size + 1, 1, none⟩ = some (.slice xa mv.length xc) ∧ (v.alloc (.cells #[.int .i64 0, .int .i64 0] 106)).drew.cell? ⟨w.heap.size + 1, 2, none⟩ = some (.int .i64 de) ∧ (v.alloc (.cells #[.int .i64 0, .int .i64 0] 106)).drew.cell? ⟨w.heap.size + 1, 3, none⟩ = some (.int .i64 to_) ∧ (v.alloc (.cells #[.int .i64 0, .int .i64 0] 106)).drew.cell? ⟨w.heap.size + 1, 4, none⟩ = some (.int .i64 at_) ∧ (v.alloc (.cells #[.int .i64 0, .int .i64 0] 106)).drew.cell? ⟨n12, 0, none⟩ = some (.int .i64 x.mn) ∧ (v.alloc (.cells #[.int .i64 0, .int .i64 0] 106)).drew.cell? ⟨n12, 1, none⟩ = some (.int .i64 x.mx) ∧ (v.alloc (.cells #[.int .i64 0, .int .i64 0] 106)).drew.cell? ⟨n12, 2, none⟩ = some (.int .i64 x.m.tool) ∧ (v.alloc (.cells #[.int .i64 0, .int .i64 0] 106)).drew.cell? ⟨n12, 3, none⟩ = some (.int .i64 x.m.start) ∧ (v.alloc (.cells #[.int .i64 0, .int .i64 0] 106)).drew.cell? ⟨n12, 4, none⟩ = some (.int .i64 x.s.tool) ∧ (v.alloc (.cells #[.int .i64 0, .int .i64 0] 106)).drew.cell? ⟨n12, 5, none⟩ = some (.int .i64 x.s.start) ∧ Below W9.heap.size W9 (v.alloc (.cells #[.int .i64 0, .int .i64 0] 106)).drew) := Lib.hid (fun v h => KEEP.out v.drew _ h ⟨rfl, rfl, rfl, (below_new v _).size, (below_new v _).block⟩)
      have SET : Hid (∀ (v : World) (m : Nat) (y0 y1 : Value), W9.heap.size ≤ m → (v.cell? ⟨w.heap.size + 1, 0, none⟩ = some (.slice da du.length dc) ∧ v.cell? ⟨w.heap.size + 1, 1, none⟩ = some (.slice xa mv.length xc) ∧ v.cell? ⟨w.heap.size + 1, 2, none⟩ = some (.int .i64 de) ∧ v.cell? ⟨w.heap.size + 1, 3, none⟩ = some (.int .i64 to_) ∧ v.cell? ⟨w.heap.size + 1, 4, none⟩ = some (.int .i64 at_) ∧ v.cell? ⟨n12, 0, none⟩ = some (.int .i64 x.mn) ∧ v.cell? ⟨n12, 1, none⟩ = some (.int .i64 x.mx) ∧ v.cell? ⟨n12, 2, none⟩ = some (.int .i64 x.m.tool) ∧ v.cell? ⟨n12, 3, none⟩ = some (.int .i64 x.m.start) ∧ v.cell? ⟨n12, 4, none⟩ = some (.int .i64 x.s.tool) ∧ v.cell? ⟨n12, 5, none⟩ = some (.int .i64 x.s.start) ∧ Below W9.heap.size W9 v) → ((v.setCell ⟨m, 0, none⟩ y0).setCell ⟨m, 1, none⟩ y1).cell? ⟨w.heap.size + 1, 0, none⟩ = some (.slice da du.length dc) ∧ ((v.setCell ⟨m, 0, none⟩ y0).setCell ⟨m, 1, none⟩ y1).cell? ⟨w.heap.size + 1, 1, none⟩ = some (.slice xa mv.length xc) ∧ ((v.setCell ⟨m, 0, none⟩ y0).setCell ⟨m, 1, none⟩ y1).cell? ⟨w.heap.size + 1, 2, none⟩ = some (.int .i64 de) ∧ ((v.setCell ⟨m, 0, none⟩ y0).setCell ⟨m, 1, none⟩ y1).cell? ⟨w.heap.size + 1, 3, none⟩ = some (.int .i64 to_) ∧ ((v.setCell ⟨m, 0, none⟩ y0).setCell ⟨m, 1, none⟩ y1).cell? ⟨w.heap.size + 1, 4, none⟩ = some (.int .i64 at_) ∧ ((v.setCell ⟨m, 0, none⟩ y0).setCell ⟨m, 1, none⟩ y1).cell? ⟨n12, 0, none⟩ = some (.int .i64 x.mn) ∧ ((v.setCell ⟨m, 0, none⟩ y0).setCell ⟨m, 1, none⟩ y1).cell? ⟨n12, 1, none⟩ = some (.int .i64 x.mx) ∧ ((v.setCell ⟨m, 0, none⟩ y0).setCell ⟨m, 1, none⟩ y1).cell? ⟨n12, 2, none⟩ = some (.int .i64 x.m.tool) ∧ ((v.setCell ⟨m, 0, none⟩ y0).setCell ⟨m, 1, none⟩ y1).cell? ⟨n12, 3, none⟩ = some (.int .i64 x.m.start) ∧ ((v.setCell ⟨m, 0, none⟩ y0).setCell ⟨m, 1, none⟩ y1).cell? ⟨n12, 4, none⟩ = some (.int .i64 x.s.tool) ∧ ((v.setCell ⟨m, 0, none⟩ y0).setCell ⟨m, 1, none⟩ y1).cell? ⟨n12, 5, none⟩ = some (.int .i64 x.s.start) ∧ Below W9.heap.size W9 ((v.setCell ⟨m, 0, none⟩ y0).setCell ⟨m, 1, none⟩ y1)) := Lib.hid (fun v m y0 y1 hm ⟨h0, h1, h2, h3, h4, h5, h6, h7, h8, h9, hX, hY⟩ => by
        have q1 := lt_of_block HM9.out.sb; have q2 := lt_of_block N12.out
        have all : ∀ (b o : Nat) (z : Value), b ≠ m → v.cell? ⟨b, o, none⟩ = some z → ((v.setCell ⟨m, 0, none⟩ y0).setCell ⟨m, 1, none⟩ y1).cell? ⟨b, o, none⟩ = some z := fun b o z hne hz =>
          (World.cell?_of_block (a := ⟨b, o, none⟩) (Below.heap_setCell _ _ _ _ hne)).trans ((World.cell?_of_block (a := ⟨b, o, none⟩) (Below.heap_setCell _ _ _ _ hne)).trans hz)
        have n1 : w.heap.size + 1 ≠ m := by omega
        have n2 : n12 ≠ m := by omega
        exact ⟨all _ _ _ n1 h0, all _ _ _ n1 h1, all _ _ _ n1 h2, all _ _ _ n1 h3, all _ _ _ n1 h4, all _ _ _ n2 h5, all _ _ _ n2 h6, all _ _ _ n2 h7, all _ _ _ n2 h8, all _ _ _ n2 h9, all _ _ _ n2 hX, (hY.setCell (p := ⟨m, 0, none⟩) hm _).setCell (p := ⟨m, 1, none⟩) hm _⟩)
      have SET0 : Hid (∀ (v : World) (y0 y1 : Value), (v.cell? ⟨w.heap.size + 1, 0, none⟩ = some (.slice da du.length dc) ∧ v.cell? ⟨w.heap.size + 1, 1, none⟩ = some (.slice xa mv.length xc) ∧ v.cell? ⟨w.heap.size + 1, 2, none⟩ = some (.int .i64 de) ∧ v.cell? ⟨w.heap.size + 1, 3, none⟩ = some (.int .i64 to_) ∧ v.cell? ⟨w.heap.size + 1, 4, none⟩ = some (.int .i64 at_) ∧ v.cell? ⟨n12, 0, none⟩ = some (.int .i64 x.mn) ∧ v.cell? ⟨n12, 1, none⟩ = some (.int .i64 x.mx) ∧ v.cell? ⟨n12, 2, none⟩ = some (.int .i64 x.m.tool) ∧ v.cell? ⟨n12, 3, none⟩ = some (.int .i64 x.m.start) ∧ v.cell? ⟨n12, 4, none⟩ = some (.int .i64 x.s.tool) ∧ v.cell? ⟨n12, 5, none⟩ = some (.int .i64 x.s.start) ∧ Below W9.heap.size W9 v) → ((v.setCell ⟨W9.heap.size, 0, none⟩ y0).setCell ⟨W9.heap.size, 1, none⟩ y1).cell? ⟨w.heap.size + 1, 0, none⟩ = some (.slice da du.length dc) ∧ ((v.setCell ⟨W9.heap.size, 0, none⟩ y0).setCell ⟨W9.heap.size, 1, none⟩ y1).cell? ⟨w.heap.size + 1, 1, none⟩ = some (.slice xa mv.length xc) ∧ ((v.setCell ⟨W9.heap.size, 0, none⟩ y0).setCell ⟨W9.heap.size, 1, none⟩ y1).cell? ⟨w.heap.size + 1, 2, none⟩ = some (.int .i64 de) ∧ ((v.setCell ⟨W9.heap.size, 0, none⟩ y0).setCell ⟨W9.heap.size, 1, none⟩ y1).cell? ⟨w.heap.size + 1, 3, none⟩ = some (.int .i64 to_) ∧ ((v.setCell ⟨W9.heap.size, 0, none⟩ y0).setCell ⟨W9.heap.size, 1, none⟩ y1).cell? ⟨w.heap.size + 1, 4, none⟩ = some (.int .i64 at_) ∧ ((v.setCell ⟨W9.heap.size, 0, none⟩ y0).setCell ⟨W9.heap.size, 1, none⟩ y1).cell? ⟨n12, 0, none⟩ = some (.int .i64 x.mn) ∧ ((v.setCell ⟨W9.heap.size, 0, none⟩ y0).setCell ⟨W9.heap.size, 1, none⟩ y1).cell? ⟨n12, 1, none⟩ = some (.int .i64 x.mx) ∧ ((v.setCell ⟨W9.heap.size, 0, none⟩ y0).setCell ⟨W9.heap.size, 1, none⟩ y1).cell? ⟨n12, 2, none⟩ = some (.int .i64 x.m.tool) ∧ ((v.setCell ⟨W9.heap.size, 0, none⟩ y0).setCell ⟨W9.heap.size, 1, none⟩ y1).cell? ⟨n12, 3, none⟩ = some (.int .i64 x.m.start) ∧ ((v.setCell ⟨W9.heap.size, 0, none⟩ y0).setCell ⟨W9.heap.size, 1, none⟩ y1).cell? ⟨n12, 4, none⟩ = some (.int .i64 x.s.tool) ∧ ((v.setCell ⟨W9.heap.size, 0, none⟩ y0).setCell ⟨W9.heap.size, 1, none⟩ y1).cell? ⟨n12, 5, none⟩ = some (.int .i64 x.s.start) ∧ Below W9.heap.size W9 ((v.setCell ⟨W9.heap.size, 0, none⟩ y0).setCell ⟨W9.heap.size, 1, none⟩ y1)) := Lib.hid (fun v y0 y1 h => SET.out v _ y0 y1 (Nat.le_refl _) h)
      have SET1 : Hid (∀ (v u : World) (y0 y1 : Value), (u.cell? ⟨w.heap.size + 1, 0, none⟩ = some (.slice da du.length dc) ∧ u.cell? ⟨w.heap.size + 1, 1, none⟩ = some (.slice xa mv.length xc) ∧ u.cell? ⟨w.heap.size + 1, 2, none⟩ = some (.int .i64 de) ∧ u.cell? ⟨w.heap.size + 1, 3, none⟩ = some (.int .i64 to_) ∧ u.cell? ⟨w.heap.size + 1, 4, none⟩ = some (.int .i64 at_) ∧ u.cell? ⟨n12, 0, none⟩ = some (.int .i64 x.mn) ∧ u.cell? ⟨n12, 1, none⟩ = some (.int .i64 x.mx) ∧ u.cell? ⟨n12, 2, none⟩ = some (.int .i64 x.m.tool) ∧ u.cell? ⟨n12, 3, none⟩ = some (.int .i64 x.m.start) ∧ u.cell? ⟨n12, 4, none⟩ = some (.int .i64 x.s.tool) ∧ u.cell? ⟨n12, 5, none⟩ = some (.int .i64 x.s.start) ∧ Below W9.heap.size W9 u) → (v.cell? ⟨w.heap.size + 1, 0, none⟩ = some (.slice da du.length dc) ∧ v.cell? ⟨w.heap.size + 1, 1, none⟩ = some (.slice xa mv.length xc) ∧ v.cell? ⟨w.heap.size + 1, 2, none⟩ = some (.int .i64 de) ∧ v.cell? ⟨w.heap.size + 1, 3, none⟩ = some (.int .i64 to_) ∧ v.cell? ⟨w.heap.size + 1, 4, none⟩ = some (.int .i64 at_) ∧ v.cell? ⟨n12, 0, none⟩ = some (.int .i64 x.mn) ∧ v.cell? ⟨n12, 1, none⟩ = some (.int .i64 x.mx) ∧ v.cell? ⟨n12, 2, none⟩ = some (.int .i64 x.m.tool) ∧ v.cell? ⟨n12, 3, none⟩ = some (.int .i64 x.m.start) ∧ v.cell? ⟨n12, 4, none⟩ = some (.int .i64 x.s.tool) ∧ v.cell? ⟨n12, 5, none⟩ = some (.int .i64 x.s.start) ∧ Below W9.heap.size W9 v) → ((v.setCell ⟨u.heap.size, 0, none⟩ y0).setCell ⟨u.heap.size, 1, none⟩ y1).cell? ⟨w.heap.size + 1, 0, none⟩ = some (.slice da du.length dc) ∧ ((v.setCell ⟨u.heap.size, 0, none⟩ y0).setCell ⟨u.heap.size, 1, none⟩ y1).cell? ⟨w.heap.size + 1, 1, none⟩ = some (.slice xa mv.length xc) ∧ ((v.setCell ⟨u.heap.size, 0, none⟩ y0).setCell ⟨u.heap.size, 1, none⟩ y1).cell? ⟨w.heap.size + 1, 2, none⟩ = some (.int .i64 de) ∧ ((v.setCell ⟨u.heap.size, 0, none⟩ y0).setCell ⟨u.heap.size, 1, none⟩ y1).cell? ⟨w.heap.size + 1, 3, none⟩ = some (.int .i64 to_) ∧ ((v.setCell ⟨u.heap.size, 0, none⟩ y0).setCell ⟨u.heap.size, 1, none⟩ y1).cell? ⟨w.heap.size + 1, 4, none⟩ = some (.int .i64 at_) ∧ ((v.setCell ⟨u.heap.size, 0, none⟩ y0).setCell ⟨u.heap.size, 1, none⟩ y1).cell? ⟨n12, 0, none⟩ = some (.int .i64 x.mn) ∧ ((v.setCell ⟨u.heap.size, 0, none⟩ y0).setCell ⟨u.heap.size, 1, none⟩ y1).cell? ⟨n12, 1, none⟩ = some (.int .i64 x.mx) ∧ ((v.setCell ⟨u.heap.size, 0, none⟩ y0).setCell ⟨u.heap.size, 1, none⟩ y1).cell? ⟨n12, 2, none⟩ = some (.int .i64 x.m.tool) ∧ ((v.setCell ⟨u.heap.size, 0, none⟩ y0).setCell ⟨u.heap.size, 1, none⟩ y1).cell? ⟨n12, 3, none⟩ = some (.int .i64 x.m.start) ∧ ((v.setCell ⟨u.heap.size, 0, none⟩ y0).setCell ⟨u.heap.size, 1, none⟩ y1).cell? ⟨n12, 4, none⟩ = some (.int .i64 x.s.tool) ∧ ((v.setCell ⟨u.heap.size, 0, none⟩ y0).setCell ⟨u.heap.size, 1, none⟩ y1).cell? ⟨n12, 5, none⟩ = some (.int .i64 x.s.start) ∧ Below W9.heap.size W9 ((v.setCell ⟨u.heap.size, 0, none⟩ y0).setCell ⟨u.heap.size, 1, none⟩ y1)) := Lib.hid (fun v u y0 y1 ⟨_, _, _, _, _, _, _, _, _, _, _, hu⟩ h => SET.out v _ y0 y1 hu.size h)
      have HNC : Hid (∀ v0 v1 : World, Below (v0.alloc (.cells #[.int .i64 0, .int .i64 0] 106)).heap.size (v0.alloc (.cells #[.int .i64 0, .int .i64 0] 106)) v1 → v1.heap[v0.heap.size]? = some (.cells #[.int .i64 0, .int .i64 0] 106)) := Lib.hid (fun v0 v1 g => box_below (heap_alloc_new v0 _) g)
      have HND : Hid (∀ v0 v1 : World, Below (v0.alloc (.cells #[.int .i64 0, .int .i64 0] 106)).drew.heap.size (v0.alloc (.cells #[.int .i64 0, .int .i64 0] 106)).drew v1 → v1.heap[v0.heap.size]? = some (.cells #[.int .i64 0, .int .i64 0] 106)) := Lib.hid (fun v0 v1 g => box_below (w := (v0.alloc (.cells #[.int .i64 0, .int .i64 0] 106)).drew) (heap_alloc_new v0 _) g)
      have HNE : Hid (∀ (m : Nat) (v0 v1 : World), v0.heap[m]? = some (.cells #[.int .i64 0, .int .i64 0] 106) → Below v0.heap.size v0 v1 → v1.heap[m]? = some (.cells #[.int .i64 0, .int .i64 0] 106)) := Lib.hid (fun m v0 v1 h g => box_below h g)
      have NCC : Hid (∀ (m : Nat) (v : World), v.heap[m]? = some (.cells #[.int .i64 0, .int .i64 0] 106) → (v.cell? ⟨m, 0, none⟩ = some (.int .i64 0) ∧ v.cell? ⟨m, 1, none⟩ = some (.int .i64 0)) ∧ v.frozen? ⟨m, 0, none⟩ = false ∧ v.frozen? ⟨m, 1, none⟩ = false) := Lib.hid (fun m v hS => ⟨⟨box_cell hS 0 _ rfl, box_cell hS 1 _ rfl⟩, box_fz hS 0, box_fz hS 1⟩)
      have C1' := Lib.hid (show ∀ v : World, (v.cell? ⟨w.heap.size + 1, 0, none⟩ = some (.slice da du.length dc) ∧ v.cell? ⟨w.heap.size + 1, 1, none⟩ = some (.slice xa mv.length xc) ∧ v.cell? ⟨w.heap.size + 1, 2, none⟩ = some (.int .i64 de) ∧ v.cell? ⟨w.heap.size + 1, 3, none⟩ = some (.int .i64 to_) ∧ v.cell? ⟨w.heap.size + 1, 4, none⟩ = some (.int .i64 at_) ∧ v.cell? ⟨n12, 0, none⟩ = some (.int .i64 x.mn) ∧ v.cell? ⟨n12, 1, none⟩ = some (.int .i64 x.mx) ∧ v.cell? ⟨n12, 2, none⟩ = some (.int .i64 x.m.tool) ∧ v.cell? ⟨n12, 3, none⟩ = some (.int .i64 x.m.start) ∧ v.cell? ⟨n12, 4, none⟩ = some (.int .i64 x.s.tool) ∧ v.cell? ⟨n12, 5, none⟩ = some (.int .i64 x.s.start) ∧ Below W9.heap.size W9 v) → Calls Try.prog 66 #[.int .i64 (k : Int), ScenP.val ⟨⟨du, mv, de, to_, at_⟩, da, dc, xa, xc⟩, .int .i64 t] v fun e w' => e = .returned (passV ⟨du, mv, de, to_, at_⟩ t (mv.getD k 0) (du.getD k 0)) ∧ Below v.heap.size v w' from
        fun v ⟨_, _, _, _, _, _, _, _, _, _, _, hv⟩ => C1.out v (below_step HM9.out.bel hv))
      have KB : Hid (∀ v1 : World, (v1.cell? ⟨w.heap.size + 1, 0, none⟩ = some (.slice da du.length dc) ∧ v1.cell? ⟨w.heap.size + 1, 1, none⟩ = some (.slice xa mv.length xc) ∧ v1.cell? ⟨w.heap.size + 1, 2, none⟩ = some (.int .i64 de) ∧ v1.cell? ⟨w.heap.size + 1, 3, none⟩ = some (.int .i64 to_) ∧ v1.cell? ⟨w.heap.size + 1, 4, none⟩ = some (.int .i64 at_) ∧ v1.cell? ⟨n12, 0, none⟩ = some (.int .i64 x.mn) ∧ v1.cell? ⟨n12, 1, none⟩ = some (.int .i64 x.mx) ∧ v1.cell? ⟨n12, 2, none⟩ = some (.int .i64 x.m.tool) ∧ v1.cell? ⟨n12, 3, none⟩ = some (.int .i64 x.m.start) ∧ v1.cell? ⟨n12, 4, none⟩ = some (.int .i64 x.s.tool) ∧ v1.cell? ⟨n12, 5, none⟩ = some (.int .i64 x.s.start) ∧ Below W9.heap.size W9 v1) → Below W9.heap.size W9 v1) := Lib.hid (fun v ⟨_, _, _, _, _, _, _, _, _, _, _, h⟩ => h)
      go_cut [13, 14] (fun s13 s14 wx => ∃ (n13 : Nat) (o : Pl.Slot) (ok : Bool), s13 = .pointer (some ⟨n13, 0, none⟩) ∧ s14 = .bool ok ∧ Hid (Pl.slot x ⟨du, mv, de, to_, at_⟩ t (mv.getD k 0) (du.getD k 0) = (if ok then some o else none)) ∧ Hid (Below W9.heap.size W9 wx ∧ wx.heap[n13]? = some (slotObj o)))
      case first =>
        go_region_held3 (fun v1 => v1.cell? ⟨w.heap.size + 1, 0, none⟩ = some (.slice da du.length dc) ∧ v1.cell? ⟨w.heap.size + 1, 1, none⟩ = some (.slice xa mv.length xc) ∧ v1.cell? ⟨w.heap.size + 1, 2, none⟩ = some (.int .i64 de) ∧ v1.cell? ⟨w.heap.size + 1, 3, none⟩ = some (.int .i64 to_) ∧ v1.cell? ⟨w.heap.size + 1, 4, none⟩ = some (.int .i64 at_) ∧ v1.cell? ⟨n12, 0, none⟩ = some (.int .i64 x.mn) ∧ v1.cell? ⟨n12, 1, none⟩ = some (.int .i64 x.mx) ∧ v1.cell? ⟨n12, 2, none⟩ = some (.int .i64 x.m.tool) ∧ v1.cell? ⟨n12, 3, none⟩ = some (.int .i64 x.m.start) ∧ v1.cell? ⟨n12, 4, none⟩ = some (.int .i64 x.s.tool) ∧ v1.cell? ⟨n12, 5, none⟩ = some (.int .i64 x.s.start) ∧ Below W9.heap.size W9 v1)
          (first | with_reducible exact HS9.out | with_reducible exact KEEPD.out _ HS9.out | with_reducible exact KEEP.out _ _ (by assumption) g2 | with_reducible exact KEEP.out _ _ (by assumption) g1 | with_reducible exact KEEPA.out _ (by assumption) | with_reducible exact KEEP.out _ _ hS2 (below_new _ _) | with_reducible exact SET0.out _ _ _ hS2 | with_reducible exact SET1.out _ _ _ _ hS1 hS2)
          (first | (go_at_call 66; with_reducible refine (C1'.out _ (by assumption)).mono ?_; rintro e v1 ⟨rfl, g1⟩; have hS1 := KEEP.out _ _ (by assumption) g1; (first | (have hO := HND.out _ _ g1) | skip)) | (go_at_call 67; refine (C2.out _).mono ?_; intro e v2 hh; obtain ⟨o, ok, he, ho, g2⟩ := hh; subst he; (first | (have hS2 := KEEP.out _ _ (by assumption) g2) | skip); (first | (have hO2 := HNE.out _ _ _ hO g2; have hS := NCC.out _ _ hO2; obtain ⟨⟨s0, s1⟩, f0, f1⟩ := hS) | (have hO2 := HNC.out _ _ g2; have hS := NCC.out _ _ hO2; obtain ⟨⟨s0, s1⟩, f0, f1⟩ := hS) | skip)))
        all_goals
          have hKB := KB.out _ (by assumption)
          have hho := Lib.hid ho
          clear ho
          go_wp2_with fail
          go_meet
          first
            | exact ⟨_, o, ok, rfl, rfl, hho, Lib.hid ⟨hKB, block_set (block_set hO2 (o := 0) (.int .i64 o.tool)) (o := 1) (.int .i64 o.start)⟩⟩
            | exact ⟨_, o, ok, rfl, rfl, hho, Lib.hid ⟨hKB, heap_alloc_new _ _⟩⟩
      case rest =>
        obtain ⟨n13, o, ok, rfl, rfl, HO, HWc⟩ := hcut
        have HMc := Lib.hid (HM9.out.below HWc.out.1)
        clear HS9 KEEP KEEPA KEEPD SET SET0 SET1 HNC HND HNE NCC C1 C1' C2 KB
        rename World => wc1
        have PS := Lib.hid HWc.out.2
        clear HWc HM9 N12 HM
        cases ok
        · have HR1 := Lib.hid (show Pl.run ⟨en, mi, ma, st, wn⟩ ⟨du, mv, de, to_, at_⟩ = ⟨V, 1, (k : Int)⟩ by
            rw [← HV.out.2.2, HDr.out]; unfold Pl.runFrom; simp only [HO.out]; rfl)
          have l0 := box_cell HMc.out.kb 0 (.int .i64 0) rfl
          have l1 := box_cell HMc.out.kb 1 (.int .i64 0) rfl
          have z0 := box_fz HMc.out.kb 0
          have z1 := box_fz HMc.out.kb 1
          have hlb := lt_of_block HMc.out.kb
          go_upto_region 22 with (fail)
          have HML := HMc.out.late 1 (k : Int)
          clear l0 l1 z0 z1 hlb
          generalize (wc1.setCell ⟨n7 + 1, 0, none⟩ (.int .i64 1)).setCell ⟨n7 + 1, 1, none⟩ (.int .i64 (k : Int)) = wf at *
          have FM := Lib.hid HML
          have v0 := box_cell FM.out.vb 0 (.slice a (V).length c) rfl
          have l0 := box_cell FM.out.kb 0 (.int .i64 1) rfl
          have l1 := box_cell FM.out.kb 1 (.int .i64 (k : Int)) rfl
          have y0 := box_cell FM.out.lb 0 (.int .i64 0) rfl
          have y1 := box_cell FM.out.lb 1 (.int .i64 0) rfl
          have z0 := box_fz FM.out.lb 0
          have z1 := box_fz FM.out.lb 1
          have hlb := lt_of_block FM.out.lb
          go_wp2_with fail
          go_region
          obtain ⟨E1, E2, E3⟩ := FM.out.fin 1 (k : Int)
          have E1 := Lib.hid E1; have E2 := Lib.hid E2; have E3 := Lib.hid E3
          go_wp2_with fail
          clear v0 l0 l1 y0 y1 z0 z1 hlb
          generalize (wf.setCell ⟨w.heap.size + 1 + 1, 0, none⟩ (.int .i64 1)).setCell ⟨w.heap.size + 1 + 1, 1, none⟩ (.int .i64 (k : Int)) = we at *
          have y0 := box_cell E3.out 0 (.int .i64 1) rfl
          have y1 := box_cell E3.out 1 (.int .i64 (k : Int)) rfl
          try rw [Exit.noGoto_ret]
          refine bodyPost_ret (v := .tuple #[.slice a (V).length c, .agg #[.int .i64 1, .int .i64 (k : Int)], .int .i64 0]) (by simp [results, Try.results39, go_sem, y0, y1]) rfl ?_
          unfold RunPost
          rw [HA.out, HR1.out]
          exact ⟨a, c, rfl, E1.out.below (Below.refl _ _).drew, E2.out.drew⟩
        · have HOB := Lib.hid (show (0 ≤ o.start ∧ o.start ≤ 1000000) ∧ 0 ≤ du.getD k 0 ∧ o.start + du.getD k 0 ≤ 1010000 ∧ du.getD k 0 ≤ 10000 by
            obtain ⟨-, h2⟩ := Pl.slot_some (by have := PB.out.det; simp only at this ⊢; omega) HO.out
            have h3 := HX.out; have h4 := HD.out; have h5 := h3.ms; have h6 := h3.ss; have h7 := h3.mn; have h8 := h3.top
            have h9 : o = x.m ∨ o = x.s := by rcases h2 with ⟨h, -⟩ | ⟨h, -⟩ <;> simp [h]
            rcases h9 with rfl | rfl <;> omega)
          have HKL := Lib.hid (show k < du.length by have := PO.out.dlen; simp only at this; omega)
          obtain ⟨b1, o1, eda, hb1, k1⟩ := (HR.out.du.below HMc.out.bel).2.2 k HKL.out
          have m1 : wc1.cell? ⟨b1, o1 + k, none⟩ = some (.int .i64 (du.getD k 0)) := by
            have := k1 0 _ rfl
            rw [List.getD_eq_getElem?_getD, List.getElem?_eq_getElem HKL.out]; simpa using this
          simp only at eda
          subst eda
          clear k1
          have HStep := Lib.hid (show Pl.runFrom wn ⟨du, mv, de, to_, at_⟩ (st.drop k) k t V = (match Pl.firstMiss (V ++ [(⟨(k : Int), o.tool, o.start, o.start + du.getD k 0⟩ : Pl.Visit)]) k wn 0 with
              | some m => ⟨V ++ [⟨(k : Int), o.tool, o.start, o.start + du.getD k 0⟩], 2, m⟩
              | none => Pl.runFrom wn ⟨du, mv, de, to_, at_⟩ (st.drop (k + 1)) (k + 1) (o.start + du.getD k 0) (V ++ [⟨(k : Int), o.tool, o.start, o.start + du.getD k 0⟩])) by
            rw [HDr.out]; conv => lhs; unfold Pl.runFrom
            simp only [HO.out]; rfl)
          rw [HV.out.2.2] at HStep
          generalize du.getD k 0 = d at *
          have e1 : IntKind.i64.wrap (o.start + d) = o.start + d := IntWalk.i64_in _ (by have := HOB.out; omega)
          have i1 : (0 : Int) ≤ (k : Int) := by omega
          have i2 : (k : Int) < (du.length : Int) := by have := HKL.out; omega
          have i4 : ((k : Int)).toNat = k := by omega
          have p0 := box_cell PS.out 0 (.int .i64 o.tool) rfl
          have p1 := box_cell PS.out 1 (.int .i64 o.start) rfl
          have q0 := box_cell HMc.out.sb 0 (.slice (some ⟨b1, o1, none⟩) du.length dc) rfl
          have v0 := box_cell HMc.out.vb 0 (.slice a V.length c) rfl
          have hvl := HMc.out.rowA.len
          unfold maxLen at hvl
          have hkV : V.length < 20 := by have := HV.out.1; have := PO.out.v.len; simp only at this; omega
          go_wp2_with fail
          go_quiet (fail)
          clear i1 i2 i4 m1
          go_upto_region 14 with (fail)
          have HOwn : Hid (∀ n, ((wc1.drewN n).alloc (.cells #[.int .i64 (k : Int), .int .i64 o.tool, .int .i64 o.start, .int .i64 (o.start + d)] 77)).ownsRow w.heap.size 77 4 (.slice a V.length c) V.length (V.flatMap visitCells)) := Lib.hid (fun n => own_below (own_below HMc.out.row (below_drewN (Below.refl _ _) n)) (below_new _ _))
          have HNW : Hid (∀ n, _) := Lib.hid (fun n => World.news_of_block (w := (wc1.drewN n).alloc (.cells #[.int .i64 (k : Int), .int .i64 o.tool, .int .i64 o.start, .int .i64 (o.start + d)] 77)) (B := wc1.heap.size) (cs := #[.int .i64 (k : Int), .int .i64 o.tool, .int .i64 o.start, .int .i64 (o.start + d)]) (t := 77) (fr := (0, 0)) (heap_alloc_new (wc1.drewN n) (.cells #[.int .i64 (k : Int), .int .i64 o.tool, .int .i64 o.start, .int .i64 (o.start + d)] 77)))
          have HAB : Hid (∀ n, Below wc1.heap.size wc1 ((wc1.drewN n).alloc (.cells #[.int .i64 (k : Int), .int .i64 o.tool, .int .i64 o.start, .int .i64 (o.start + d)] 77))) := Lib.hid (fun n => below_step (below_drewN (Below.refl _ _) n) (below_new _ _))
          have hsw := HMc.out.bel.size
          obtain ⟨i0, hi, hz0, hz1, hz2⟩ := info_parts info_visit
          go_wp2_with (at_builtin; refine wpList_append_own _ rfl _ _ 71 rfl w.heap.size 77 i0 _ 4 32 Try.underlying71 hi hz0 hz1 hz2 rfl (by decide) _ _ _ rfl (HOwn.out _) ⟨wc1.heap.size, 0, none⟩ 1 1 [.int .i64 (k : Int), .int .i64 o.tool, .int .i64 o.start, .int .i64 (o.start + d)] rfl rfl (HNW.out _) ?c2 ?c3 ?c4 ?c5 ?_)
          case c2 => simp [Value.oneCell']
          case c3 => unfold maxLen; omega
          case c4 => omega
          case c5 => omega
          intro v' w3 hown' hgrow _
          have hvb := HMc.out.vb3 (HAB.out _) hgrow
          obtain ⟨a', c', rfl, -⟩ := own_slice hown'
          have HM3 := HMc.out.app ⟨(k : Int), o.tool, o.start, o.start + d⟩ (by have := HOB.out; simp only; omega) (HAB.out _) hown' hgrow
          have v0 := box_cell hvb 0 _ rfl
          have vz := box_fz hvb 0
          have hvl2 := lt_of_block hvb
          clear hown' hgrow p0 p1 q0 HOwn HNW HAB hi hz0 hz1 hz2
          go_upto_region 15 with (fail)
          clear v0 vz hvl2 hvb
          generalize w3.setCell ⟨n7, 0, none⟩ (.slice a' (V.length + 1) c') = wi at *
          have HUl := Lib.hid (show (V ++ [(⟨(k : Int), o.tool, o.start, o.start + d⟩ : Pl.Visit)]).length = k + 1 by simp [HV.out.1])
          generalize V ++ [(⟨(k : Int), o.tool, o.start, o.start + d⟩ : Pl.Visit)] = U at *
          have HM3 := Lib.hid HM3
          have x4 := box_cell HM3.out.pb 4 (.slice wa wn.length wc) rfl
          clear e1
          go_wp2_with fail
          clear x4
          go_loopg [67] wn.length (fun g iv wq => ∃ m : Nat, m ≤ wn.length ∧ g = wn.length - m ∧ iv = .int .i64 (m : Int) ∧ Hid (RunM ⟨⟨en, mi, ma, st, wn⟩, some ⟨b, off, none⟩, sc, wa, wc⟩ ⟨⟨du, mv, de, to_, at_⟩, some ⟨b1, o1, none⟩, dc, xa, xc⟩ w n7 (n7 + 1) a' c' U 0 0 wq) ∧ Hid (Pl.firstMiss U k (wn.drop m) m = Pl.firstMiss U k wn 0))
          case atStart => exact ⟨0, by omega, by omega, rfl, HM3, Lib.hid rfl⟩
          case round =>
            obtain ⟨m, hm, rfl, rfl, HI, HF⟩ := hrel
            rename World => wq
            by_cases hml : m < wn.length
            · obtain ⟨b2, o2, ewa, hb2, h2⟩ := (HQ.out.wn.below HI.out.bel).2.2 m hml
              simp only at ewa
              subst ewa
              obtain ⟨f0, f1, f2⟩ := wn_cells h2
              have HY := Lib.hid (PO.out.v.wn wn[m] (List.getElem_mem hml))
              have HDm := Lib.hid (show wn.drop m = wn[m] :: wn.drop (m + 1) from List.drop_eq_getElem_cons hml)
              clear h2
              generalize wn[m] = y at *
              have HG2 := Lib.hid (below_new wq (winObj y))
              by_cases ht : y.t = (k : Int)
              · have ht' : (y.t == (k : Int)) = true := by simp [ht]
                have HC := Lib.hid (fun v (hv : Below wq.heap.size wq v) => Run1_any y n7 a' c' U v (box_cell (HI.out.below hv).vb 0 _ rfl) ((HI.out.below hv).rowA) HI.out.bd HY.out.f HY.out.ft (by rw [ht, HUl.out]; omega))
                have HT := Lib.hid ht
                clear ht
                have HB := Lib.hid (show Pl.firstMiss U k (y :: wn.drop (m + 1)) m = (if Pl.missed U y = true then some m else Pl.firstMiss U k (wn.drop (m + 1)) (m + 1)) by
                  rw [Pl.firstMiss]; simp only [HT.out, true_and])
                generalize Pl.missed U y = B at *
                cases B
                · go_wp2_with fail
                  refine (HC.out _ HG2.out).mono ?_; rintro _ w6 ⟨rfl, g6⟩
                  have HI2 := Lib.hid (HI.out.below (below_step HG2.out g6)); clear g6
                  go_wp2_with fail
                  go_roundg (wn.length - (m + 1))
                  case rel => exact ⟨m + 1, by omega, rfl, by go_num, HI2, Lib.hid (by rw [← HF.out, HDm.out, HB.out]; rfl)⟩
                  case measure => omega
                · have HRun := Lib.hid (show Pl.run ⟨en, mi, ma, st, wn⟩ ⟨du, mv, de, to_, at_⟩ = ⟨U, 2, (m : Int)⟩ by
                    rw [HStep.out, ← HF.out, HDm.out, HB.out]; rfl)
                  go_wp2_with fail
                  refine (HC.out _ HG2.out).mono ?_; rintro _ w6 ⟨rfl, g6⟩
                  have HI2 := Lib.hid (HI.out.below (below_step HG2.out g6)); clear g6
                  have l0 := box_cell HI2.out.kb 0 (.int .i64 0) rfl
                  have l1 := box_cell HI2.out.kb 1 (.int .i64 0) rfl
                  have z0 := box_fz HI2.out.kb 0
                  have z1 := box_fz HI2.out.kb 1
                  have hlb := lt_of_block HI2.out.kb
                  go_upto_region 22 with (fail)
                  have HML := HI2.out.late 2 (m : Int)
                  clear l0 l1 z0 z1 hlb
                  generalize (w6.setCell ⟨n7 + 1, 0, none⟩ (.int .i64 2)).setCell ⟨n7 + 1, 1, none⟩ (.int .i64 (m : Int)) = wf at *
                  have FM := Lib.hid HML
                  have v0 := box_cell FM.out.vb 0 (.slice a' (U).length c') rfl
                  have l0 := box_cell FM.out.kb 0 (.int .i64 2) rfl
                  have l1 := box_cell FM.out.kb 1 (.int .i64 (m : Int)) rfl
                  have y0 := box_cell FM.out.lb 0 (.int .i64 0) rfl
                  have y1 := box_cell FM.out.lb 1 (.int .i64 0) rfl
                  have z0 := box_fz FM.out.lb 0
                  have z1 := box_fz FM.out.lb 1
                  have hlb := lt_of_block FM.out.lb
                  go_wp2_with fail
                  go_region
                  obtain ⟨E1, E2, E3⟩ := FM.out.fin 2 (m : Int)
                  have E1 := Lib.hid E1; have E2 := Lib.hid E2; have E3 := Lib.hid E3
                  go_wp2_with fail
                  clear v0 l0 l1 y0 y1 z0 z1 hlb
                  generalize (wf.setCell ⟨w.heap.size + 1 + 1, 0, none⟩ (.int .i64 2)).setCell ⟨w.heap.size + 1 + 1, 1, none⟩ (.int .i64 (m : Int)) = we at *
                  have y0 := box_cell E3.out 0 (.int .i64 2) rfl
                  have y1 := box_cell E3.out 1 (.int .i64 (m : Int)) rfl
                  try rw [Exit.noGoto_ret]
                  refine bodyPost_ret (v := .tuple #[.slice a' (U).length c', .agg #[.int .i64 2, .int .i64 (m : Int)], .int .i64 0]) (by simp [results, Try.results39, go_sem, y0, y1]) rfl ?_
                  unfold RunPost
                  rw [HA.out, HRun.out]
                  exact ⟨a', c', rfl, E1.out.below (Below.refl _ _).drew, E2.out.drew⟩
              · have ht' : (y.t == (k : Int)) = false := by rw [beq_eq_false_iff_ne]; exact ht
                have HB := Lib.hid (show Pl.firstMiss U k (y :: wn.drop (m + 1)) m = Pl.firstMiss U k (wn.drop (m + 1)) (m + 1) by
                  rw [Pl.firstMiss, if_neg (fun h => ht h.1)])
                clear ht
                go_wp2_with fail
                go_roundg (wn.length - (m + 1))
                case rel => exact ⟨m + 1, by omega, rfl, by go_num, Lib.hid (HI.out.below HG2.out), Lib.hid (by rw [← HF.out, HDm.out, HB.out])⟩
                case measure => omega
            · have HN := Lib.hid (show Pl.firstMiss U k wn 0 = none by rw [← HF.out, List.drop_of_length_le (by omega)]; rfl)
              have HS2 := Lib.hid (show Pl.runFrom wn ⟨du, mv, de, to_, at_⟩ (st.drop (k + 1)) (k + 1) (o.start + d) U = Pl.run ⟨en, mi, ma, st, wn⟩ ⟨du, mv, de, to_, at_⟩ by rw [HStep.out, HN.out])
              go_wp2_with fail
              go_roundg (st.length - (k + 1))
              case rel => exact ⟨k + 1, o.start + d, a', c', U, by omega, rfl, rfl, by go_num, HI, Lib.hid ⟨HUl.out, by have := HOB.out; omega, HS2.out⟩⟩
              case measure => omega
    · have HRun := Lib.hid (show Pl.run ⟨en, mi, ma, st, wn⟩ ⟨du, mv, de, to_, at_⟩ = ⟨V, 0, 0⟩ by
        rw [← HV.out.2.2, List.drop_of_length_le (by omega)]; rfl)
      have FM := Lib.hid HM.out
      have v0 := box_cell FM.out.vb 0 (.slice a (V).length c) rfl
      have l0 := box_cell FM.out.kb 0 (.int .i64 0) rfl
      have l1 := box_cell FM.out.kb 1 (.int .i64 0) rfl
      have y0 := box_cell FM.out.lb 0 (.int .i64 0) rfl
      have y1 := box_cell FM.out.lb 1 (.int .i64 0) rfl
      have z0 := box_fz FM.out.lb 0
      have z1 := box_fz FM.out.lb 1
      have hlb := lt_of_block FM.out.lb
      go_wp2_with fail
      go_region
      obtain ⟨E1, E2, E3⟩ := FM.out.fin 0 0
      have E1 := Lib.hid E1; have E2 := Lib.hid E2; have E3 := Lib.hid E3
      go_wp2_with fail
      clear v0 l0 l1 y0 y1 z0 z1 hlb
      generalize (wr.setCell ⟨w.heap.size + 1 + 1, 0, none⟩ (.int .i64 0)).setCell ⟨w.heap.size + 1 + 1, 1, none⟩ (.int .i64 0) = we at *
      have y0 := box_cell E3.out 0 (.int .i64 0) rfl
      have y1 := box_cell E3.out 1 (.int .i64 0) rfl
      try rw [Exit.noGoto_ret]
      refine bodyPost_ret (v := .tuple #[.slice a (V).length c, .agg #[.int .i64 0, .int .i64 0], .int .i64 0]) (by simp [results, Try.results39, go_sem, y0, y1]) rfl ?_
      unfold RunPost
      rw [HA.out, HRun.out]
      exact ⟨a, c, rfl, E1.out.below (Below.refl _ _).drew, E2.out.drew⟩
theorem Run_any (q : PlanP) (r : ScenP) (w : World) (h : q.ok w) (hr : r.ok w) : Calls Try.prog 39 #[q.val, r.val] w (RunPost q.p r.s w) := by
  cases hp : Pl.possible q.p r.s
  · exact Run_no q r w h hr hp
  · exact Run_yes q r w h hr hp
end Go.Proofs.Ytjdhjlhcdpekbaa.Pe

namespace Go.Proofs.Ytjdhjlhcdpekbaa.Pe
open Go.RowKit

theorem ne_of_k2 {w : World} {i j : Nat} {cs ds : Array Value} {t u : TypeId} (h1 : w.heap[i]? = some (.cells cs t)) (h2 : w.heap[j]? = some (.cells ds u)) (h : t ≠ u) : i ≠ j := by
  rintro rfl; rw [h1] at h2; injection h2 with h2; injection h2 with _ h2; exact h h2
theorem info_bk : (Try.prog.info? 36).map (fun i => (i.zero, i.size, i.bytes)) = some (some (.agg #[.int .i64 0, .int .i64 0, .int .i64 0, .int .i64 0]), 4, 32) := by kernel_rfl
def twoB (x : Pl.Stage) (o : Int) : List Pl.Bk := [⟨x.m.tool, x.m.start, x.m.start + x.mx, o⟩, ⟨x.s.tool, x.s.start, x.s.start + x.mx, o⟩]
theorem books_eq (l : List Pl.Stage) (o : Int) : Pl.books l o = l.flatMap (fun x => twoB x o) := rfl
theorem books_snoc (l : List Pl.Stage) (o : Int) (k : Nat) (h : k < l.length) : Pl.books (l.take (k + 1)) o = Pl.books (l.take k) o ++ twoB l[k] o := by
  rw [List.take_succ_eq_append_getElem h, books_eq, List.flatMap_append]; simp [books_eq]
theorem books_len (l : List Pl.Stage) (o : Int) : (Pl.books l o).length = 2 * l.length := by
  rw [books_eq]; induction l with
  | nil => rfl
  | cons x l ih => rw [List.flatMap_cons, List.length_append, ih]; simp [twoB]; omega
def BksPost (p : Pl.Plan) (o : Int) (w : World) (e : Ending) (w' : World) : Prop :=
  ∃ a c, e = .returned (.slice a (Pl.bookings p o).length c) ∧ PbO w' w.heap.size (.slice a (Pl.bookings p o).length c) (Pl.bookings p o) ∧ Below w.heap.size w w'
theorem bks_none {p : Pl.Plan} {o : Int} {w w' : World} (h : Pl.bookings p o = []) (hb : Below w.heap.size w w') : BksPost p o w (.returned (.slice none 0 0)) w' := by
  unfold BksPost; rw [h]; exact ⟨none, 0, rfl, RowO.nil _ _ _ _ _, hb⟩
set_option maxRecDepth 100000 in
set_option maxHeartbeats 4000000 in
theorem Bookings_any (q : PlanP) (o : Int) (w : World) (h : q.ok w) : Calls Try.prog 38 #[q.val, .int .i64 o] w (BksPost q.p o w) := by
  have HV := Lib.hid (fun v (hv : Below w.heap.size w v) => Valid_any q v (h.below hv))
  have HW := Lib.hid (within_any o 1 1000000)
  have HG := Lib.hid (below_new w (planObj q))
  have HN := Lib.hid (heap_alloc_new w (planObj q))
  have HQ := Lib.hid h
  have ls := h.st.len
  unfold maxLen at ls
  clear h
  have HB0 := Lib.hid (show (Pl.valid q.p && Pl.within o 1 1000000) = false → Pl.bookings q.p o = [] from fun h => by unfold Pl.bookings; rw [h]; rfl)
  have HB1 := Lib.hid (show Pl.valid q.p = true → Pl.within o 1 1000000 = true → Pl.bookings q.p o = Pl.books q.p.st o ∧ Pl.Valid q.p from fun h1 h2 => by unfold Pl.bookings; rw [h1, h2]; exact ⟨rfl, Pl.valid_iff.1 h1⟩)
  generalize Pl.valid q.p = B1 at *
  generalize Pl.within o 1 1000000 = B2 at *
  obtain ⟨⟨en, mi, ma, st, wn⟩, sa, sc, wa, wc⟩ := q
  simp only at ls
  dsimp only [planObj] at HG HN
  cases B1
  · have HE := Lib.hid (HB0.out rfl)
    clear HB0 HB1
    go_enter Try.func38, Try.ntmps38
    go_wp2_with fail
    refine (HV.out _ HG.out).mono ?_; rintro _ w1 ⟨rfl, g1⟩
    have G1 := Lib.hid (below_step HG.out g1); clear g1
    go_wp2_with fail
    go_ret
    exact bks_none HE.out G1.out
  cases B2
  · have HE := Lib.hid (HB0.out rfl)
    clear HB0 HB1
    go_enter Try.func38, Try.ntmps38
    go_wp2_with fail
    refine (HV.out _ HG.out).mono ?_; rintro _ w1 ⟨rfl, g1⟩
    have G1 := Lib.hid (below_step HG.out g1); clear g1
    go_wp2_with fail
    refine (HW.out _).mono ?_; rintro _ w2 ⟨rfl, rfl⟩
    go_wp2_with fail
    go_ret
    exact bks_none HE.out G1.out
  · have HE := Lib.hid (HB1.out rfl rfl)
    clear HB0 HB1
    go_enter Try.func38, Try.ntmps38
    go_wp2_with fail
    generalize w.alloc (.cells #[.int .i64 en, .int .i64 mi, .int .i64 ma, .slice sa st.length sc, .slice wa wn.length wc] 64) = W at *
    refine (HV.out _ HG.out).mono ?_; rintro _ w1 ⟨rfl, g1⟩
    have G1 := Lib.hid (below_step HG.out g1)
    have N1 := Lib.hid (box_below HN.out g1); clear g1 HN HG
    go_wp2_with fail
    refine (HW.out _).mono ?_; rintro _ w2 ⟨rfl, rfl⟩
    have d3 := box_cell N1.out 3 (.slice sa st.length sc) rfl
    go_wp2_with fail
    clear d3
    obtain ⟨i0, hi, hz0, hz1, hz2⟩ := info_parts info_bk
    go_loopw [5, 21] (fun v i wr => ∃ (k : Nat) (a : Option Addr) (c : Nat), k ≤ st.length ∧ v = .slice a (Pl.books (st.take k) o).length c ∧ i = .int .i64 (k : Int) ∧ Hid (PbO wr w.heap.size (.slice a (Pl.books (st.take k) o).length c) (Pl.books (st.take k) o)) ∧ Hid (Below w.heap.size w wr)) (fun _ i _ => st.length - (intOf i).toNat)
    case atStart => exact ⟨0, none, 0, Nat.zero_le _, rfl, rfl, Lib.hid (RowO.nil _ _ _ _ _), G1⟩
    case round =>
      obtain ⟨k, a, c, hk, rfl, rfl, HR, hb⟩ := hrel
      by_cases hlt : k < st.length
      · obtain ⟨b, off, rfl, hbb, h1⟩ := (HQ.out.st.below hb.out).2.2 k hlt
        obtain ⟨c0, c1, c2, c3, c4, c5⟩ := st_cells h1
        have HX := Lib.hid (HE.out.2.st st[k] (List.getElem_mem hlt))
        have HS := Lib.hid (books_snoc st o k hlt)
        have HLn := Lib.hid (show (Pl.books (st.take k) o).length ≤ 100 by rw [books_len, List.length_take]; have := HE.out.2.len; simp only at this; omega)
        clear h1
        generalize st[k] = x at *
        generalize Pl.books (st.take k) o = L at *
        have e1 : IntKind.i64.wrap (x.m.start + x.mx) = x.m.start + x.mx := IntWalk.i64_in _ (by have h1 := HX.out.ms; have h2 := HX.out.mn; have h3 := HX.out.mx; omega)
        have e2 : IntKind.i64.wrap (x.s.start + x.mx) = x.s.start + x.mx := IntWalk.i64_in _ (by have h1 := HX.out.ss; have h2 := HX.out.mn; have h3 := HX.out.mx; omega)
        have HW2 := Lib.hid (below_step (below_new wr (.cells #[.int .i64 x.mn, .int .i64 x.mx, .int .i64 x.m.tool, .int .i64 x.m.start, .int .i64 x.s.tool, .int .i64 x.s.start] 108)) (below_new _ (.cells #[.int .i64 x.m.tool, .int .i64 x.m.start, .int .i64 x.s.tool, .int .i64 x.s.start] 106)))
        have N7 := Lib.hid (box_below (heap_alloc_new wr (.cells #[.int .i64 x.mn, .int .i64 x.mx, .int .i64 x.m.tool, .int .i64 x.m.start, .int .i64 x.s.tool, .int .i64 x.s.start] 108)) (below_new (wr.alloc (.cells #[.int .i64 x.mn, .int .i64 x.mx, .int .i64 x.m.tool, .int .i64 x.m.start, .int .i64 x.s.tool, .int .i64 x.s.start] 108)) (.cells #[.int .i64 x.m.tool, .int .i64 x.m.start, .int .i64 x.s.tool, .int .i64 x.s.start] 106)))
        have N9 := heap_alloc_new (wr.alloc (.cells #[.int .i64 x.mn, .int .i64 x.mx, .int .i64 x.m.tool, .int .i64 x.m.start, .int .i64 x.s.tool, .int .i64 x.s.start] 108)) (.cells #[.int .i64 x.m.tool, .int .i64 x.m.start, .int .i64 x.s.tool, .int .i64 x.s.start] 106)
        rw [show (wr.alloc (.cells #[.int .i64 x.mn, .int .i64 x.mx, .int .i64 x.m.tool, .int .i64 x.m.start, .int .i64 x.s.tool, .int .i64 x.s.start] 108)).heap.size = wr.heap.size + 1 by simp] at N9
        have N9 := Lib.hid N9
        have HR2 := Lib.hid (HR.out.below HW2.out)
        have hb2 := Lib.hid (below_step hb.out HW2.out)
        rename World => wo
        clear HR
        go_wp2_with fail
        generalize (wo.alloc (.cells #[.int .i64 x.mn, .int .i64 x.mx, .int .i64 x.m.tool, .int .i64 x.m.start, .int .i64 x.s.tool, .int .i64 x.s.start] 108)).alloc (.cells #[.int .i64 x.m.tool, .int .i64 x.m.start, .int .i64 x.s.tool, .int .i64 x.s.start] 106) = W2 at *
        clear c0 c1 c2 c3 c4 c5 HW2
        go_loopw [5, 31] (fun v i wq => ∃ (j : Nat) (a' : Option Addr) (c' : Nat), j ≤ 2 ∧ v = .slice a' (L ++ (twoB x o).take j).length c' ∧ i = .int .i64 (j : Int) ∧ Hid (PbO wq w.heap.size (.slice a' (L ++ (twoB x o).take j).length c') (L ++ (twoB x o).take j)) ∧ Hid (Below w.heap.size w wq) ∧ Hid (wq.heap[wo.heap.size]? = some (stageObj x) ∧ wq.heap[wo.heap.size + 1]? = some (.cells #[.int .i64 x.m.tool, .int .i64 x.m.start, .int .i64 x.s.tool, .int .i64 x.s.start] 106))) (fun _ i _ => 2 - (intOf i).toNat)
        case atStart => exact ⟨0, a, c, by omega, by simp, rfl, Lib.hid (by simpa using HR2.out), hb2, Lib.hid ⟨N7.out, N9.out⟩⟩
        case round =>
          obtain ⟨j, a1, c1, hj, rfl, rfl, HR3, hb3, hW3⟩ := hrel
          rename World => wq
          by_cases hj2 : j < 2
          · obtain ⟨y, hy⟩ : ∃ y : Pl.Slot, y = if j = 0 then x.m else x.s := ⟨_, rfl⟩
            have HY := Lib.hid (show (twoB x o).take (j + 1) = (twoB x o).take j ++ [⟨y.tool, y.start, y.start + x.mx, o⟩] by
              have : j = 0 ∨ j = 1 := by omega
              rcases this with rfl | rfl <;> (subst hy; rfl))
            have M9 := hW3.out.2
            have y0 : wq.cell? ⟨wo.heap.size + 1, j * 2, none⟩ = some (.int .i64 y.tool) := by
              have : j = 0 ∨ j = 1 := by omega
              rcases this with rfl | rfl <;> subst hy
              · exact box_cell M9 0 _ rfl
              · exact box_cell M9 2 _ rfl
            have y1 : wq.cell? ⟨wo.heap.size + 1, j * 2 + 1, none⟩ = some (.int .i64 y.start) := by
              have : j = 0 ∨ j = 1 := by omega
              rcases this with rfl | rfl <;> subst hy
              · exact box_cell M9 1 _ rfl
              · exact box_cell M9 3 _ rfl
            have e3 : IntKind.i64.wrap (y.start + x.mx) = y.start + x.mx := by
              have : j = 0 ∨ j = 1 := by omega
              rcases this with rfl | rfl <;> subst hy
              · exact e1
              · exact e2
            have s1 := box_cell hW3.out.1 1 (.int .i64 x.mx) rfl
            clear hy M9
            have HL2 := Lib.hid (show (L ++ (twoB x o).take j).length ≤ 200 by rw [List.length_append, List.length_take]; have := HLn.out; simp [twoB]; omega)
            obtain ⟨U, hU⟩ : ∃ U, U = L ++ (twoB x o).take j := ⟨_, rfl⟩
            have HU := Lib.hid (show L ++ (twoB x o).take (j + 1) = U ++ [⟨y.tool, y.start, y.start + x.mx, o⟩] by rw [HY.out, hU, List.append_assoc])
            rw [← hU] at HR3 HL2 ⊢
            clear hU
            have HB4 := Lib.hid (below_step (below_new wq (.cells #[.int .i64 y.tool, .int .i64 y.start] 106)) (below_new _ (.cells #[.int .i64 y.tool, .int .i64 y.start, .int .i64 (y.start + x.mx), .int .i64 o] 36)))
            have HOwn := Lib.hid (show ((wq.alloc (.cells #[.int .i64 y.tool, .int .i64 y.start] 106)).alloc (.cells #[.int .i64 y.tool, .int .i64 y.start, .int .i64 (y.start + x.mx), .int .i64 o] 36)).ownsRow w.heap.size 36 4 (.slice a1 U.length c1) U.length (U.flatMap pbCells) from own_below HR3.out HB4.out)
            have HNW := Lib.hid (World.news_of_block (w := (wq.alloc (.cells #[.int .i64 y.tool, .int .i64 y.start] 106)).alloc (.cells #[.int .i64 y.tool, .int .i64 y.start, .int .i64 (y.start + x.mx), .int .i64 o] 36)) (B := wq.heap.size + 1) (cs := #[.int .i64 y.tool, .int .i64 y.start, .int .i64 (y.start + x.mx), .int .i64 o]) (t := 36) (fr := (0, 0)) (by have := heap_alloc_new (wq.alloc (.cells #[.int .i64 y.tool, .int .i64 y.start] 106)) (.cells #[.int .i64 y.tool, .int .i64 y.start, .int .i64 (y.start + x.mx), .int .i64 o] 36); rwa [World.size_alloc] at this))
            have hsw := hb3.out.size
            have hl2 := HL2.out
            have j1 : (j : Int) < 2 := by omega
            have j0 : (0 : Int) ≤ (j : Int) := by omega
            have j4 : ((j : Int)).toNat = j := by omega
            have hq1 := lt_of_block hW3.out.1
            have hq2 := lt_of_block hW3.out.2
            go_wp2_with (at_builtin; refine wpList_append_own _ rfl _ _ 31 rfl w.heap.size 36 i0 _ 4 32 Try.underlying31 hi hz0 hz1 hz2 rfl (by decide) _ _ _ rfl HOwn.out ⟨wq.heap.size + 1, 0, none⟩ 1 1 [.int .i64 y.tool, .int .i64 y.start, .int .i64 (y.start + x.mx), .int .i64 o] rfl rfl HNW.out ?c2 ?c3 ?c4 ?c5 ?_)
            case c2 => simp [Value.oneCell']
            case c3 => unfold maxLen; omega
            case c4 => omega
            case c5 => omega
            intro v' w3 hown' hgrow _
            obtain ⟨a', c', rfl, -⟩ := own_slice hown'
            have HE3 := Lib.hid (show Below w.heap.size w w3 from (below_step hb3.out HB4.out).grown hgrow (Nat.le_trans hsw HB4.out.size) (fun kk e => (HR3.out.lt kk e).1))
            have HP3 := Lib.hid (show PbO w3 w.heap.size (.slice a' (U ++ [(⟨y.tool, y.start, y.start + x.mx, o⟩ : Pl.Bk)]).length c') (U ++ [⟨y.tool, y.start, y.start + x.mx, o⟩]) by rw [List.length_append]; exact RowO.snoc hown')
            have HF3 := Lib.hid (show w3.heap[wo.heap.size]? = some (stageObj x) ∧ w3.heap[wo.heap.size + 1]? = some (.cells #[.int .i64 x.m.tool, .int .i64 x.m.start, .int .i64 x.s.tool, .int .i64 x.s.start] 106) by
              have f1 := box_below hW3.out.1 HB4.out
              have f2 := box_below hW3.out.2 HB4.out
              refine ⟨(hgrow.block _ (lt_of_block f1) (fun e => ?_)).trans f1, (hgrow.block _ (lt_of_block f2) (fun e => ?_)).trans f2⟩
              · obtain ⟨cs, hcs⟩ := own_block HOwn.out e.symm
                exact ne_of_k2 hcs f1 (by decide) rfl
              · obtain ⟨cs, hcs⟩ := own_block HOwn.out e.symm
                exact ne_of_k2 hcs f2 (by decide) rfl)
            clear hown' hgrow HOwn HNW y0 y1 s1 hq1 hq2 j0 j1 j4
            go_wp2_with fail
            go_roundw
            case rel => exact ⟨j + 1, a', c', by omega, by rw [HU.out]; simp, by go_num, Lib.hid (by rw [HU.out]; exact HP3.out), HE3, HF3⟩
            case measure => simp [intOf]; omega
          · have HT2 := Lib.hid (show L ++ (twoB x o).take j = Pl.books (st.take (k + 1)) o by rw [HS.out, List.take_of_length_le (by simp [twoB]; omega)])
            have j1 : ¬ (j : Int) < 2 := by omega
            rw [HT2.out] at HR3
            go_wp2_with fail
            go_roundw
            case rel => exact ⟨k + 1, a1, c1, by omega, by rw [HT2.out], by go_num, HR3, hb3⟩
            case measure => simp [intOf]; omega
      · have HT := Lib.hid (show st.take k = st by rw [List.take_of_length_le (by omega)])
        rw [HT.out] at HR
        have HEB := Lib.hid (show Pl.bookings ⟨en, mi, ma, st, wn⟩ o = Pl.books st o from HE.out.1)
        go_wp2_with fail
        go_ret
        unfold BksPost
        rw [HEB.out]
        exact ⟨a, c, by show Ending.returned (.slice a (Pl.books (st.take k) o).length c) = _; rw [HT.out], HR.out, hb.out⟩
end Go.Proofs.Ytjdhjlhcdpekbaa.Pe
