/-
  Contracts of loses, arrival, detoured.
-/
import Derived.Test.YtngpkipblcihaaaVp
import Derived.StillTailTactics
import Derived.Deep.RegionHeld3
import Derived.BigRegion
namespace Go.Proofs.Ytngpkipblcihaaa
open Go.RowKit

/-- A passage: when they leave, the move, the duration, in a scenario. -/
abbrev passV (s : Pl.Scen) (t m d : Int) : Value := .agg #[.int .i64 t, .int .i64 m, .int .i64 s.det, .int .i64 d, .int .i64 s.tool, .int .i64 s.at_]
abbrev passObj (s : Pl.Scen) (t m d : Int) : Obj := .cells #[.int .i64 t, .int .i64 m, .int .i64 s.det, .int .i64 d, .int .i64 s.tool, .int .i64 s.at_] 77
abbrev slotObj (o : Pl.Slot) : Obj := .cells #[.int .i64 o.tool, .int .i64 o.start] 43
theorem loses_any (s : Pl.Scen) (x : Pl.Slot) (d : Int) (w : World) (h1 : 0 ≤ x.start ∧ x.start ≤ 1000000) (h2 : 0 ≤ d ∧ d ≤ 10000) :
    Calls Try.prog 47 #[failV s, slotV x, .int .i64 d] w fun e w' => e = .returned (.bool (Pl.loses s x d)) ∧ Below w.heap.size w w' := by
  obtain ⟨du, mv, de, t, a⟩ := s
  obtain ⟨xt, xs⟩ := x
  simp only at h1
  have HG := Lib.hid (below_step (below_new w (.cells #[.int .i64 t, .int .i64 a] 75)) (below_new _ (slotObj ⟨xt, xs⟩)))
  have e1 : IntKind.i64.wrap (xs + d) = xs + d := IntWalk.i64_in _ (by omega)
  unfold Pl.loses
  simp only
  by_cases h : t = xt
  · subst h
    go_enter Try.func47, Try.ntmps47
    go_wp2_with fail
    go_ret
    exact ⟨ret_bool (by simp), HG.out⟩
  · have h' : (t == xt) = false := by rw [beq_eq_false_iff_ne]; exact h
    have H := Lib.hid h; clear h
    go_enter Try.func47, Try.ntmps47
    go_wp2_with fail
    go_ret
    exact ⟨ret_bool (by rw [decide_eq_false H.out]; rfl), HG.out⟩
/-- Bounds of a passage. -/
structure PassOk (s : Pl.Scen) (t m d : Int) : Prop where
  t : 0 ≤ t ∧ t ≤ 1100000
  m : 0 ≤ m ∧ m ≤ 10000
  d : 0 ≤ d ∧ d ≤ 10000
  det : 0 ≤ s.det ∧ s.det ≤ 10000
  at_ : 0 ≤ s.at_ ∧ s.at_ ≤ 1000000
theorem arrival_any (s : Pl.Scen) (t m d : Int) (w : World) (h : PassOk s t m d) : Calls Try.prog 48 #[passV s t m d] w fun e w' => e = .returned (.int .i64 (t + m)) ∧ Below w.heap.size w w' := by
  have e1 : IntKind.i64.wrap (t + m) = t + m := IntWalk.i64_in _ (by have := h.t; have := h.m; omega)
  clear h
  go_enter Try.func48, Try.ntmps48
  go_wp2_with fail
  go_ret
  exact ⟨rfl, below_new _ _⟩
/-- When the wafers are at the spare slot's tool. -/
def detour (s : Pl.Scen) (t m : Int) (x : Pl.Slot) : Int × Bool :=
  if s.at_ ≤ t then (t + m, true) else if s.at_ < x.start then (max (t + m) s.at_ + s.det, true) else (s.at_ + s.det, decide (t + m ≤ x.start))
set_option maxRecDepth 100000 in
set_option maxHeartbeats 2000000 in
theorem detoured_any (s : Pl.Scen) (t m d : Int) (x : Pl.Slot) (w : World) (h : PassOk s t m d) :
    Calls Try.prog 49 #[passV s t m d, slotV x] w fun e w' => e = .returned (.tuple #[.int .i64 (detour s t m x).1, .bool (detour s t m x).2]) ∧ Below w.heap.size w w' := by
  have HA := Lib.hid (fun w => arrival_any s t m d w h)
  obtain ⟨h1, h2, h3, h4, h5⟩ := h
  obtain ⟨du, mv, de, tl, a⟩ := s
  obtain ⟨xt, xs⟩ := x
  simp only at h4 h5
  have HG := Lib.hid (below_step (below_new w (passObj ⟨du, mv, de, tl, a⟩ t m d)) (below_new _ (slotObj ⟨xt, xs⟩)))
  have hn1 : ((w.alloc (passObj ⟨du, mv, de, tl, a⟩ t m d)).alloc (slotObj ⟨xt, xs⟩)).heap[w.heap.size]? = some (passObj ⟨du, mv, de, tl, a⟩ t m d) := box_below (heap_alloc_new _ _) (below_new _ _)
  have hn2 : ((w.alloc (passObj ⟨du, mv, de, tl, a⟩ t m d)).alloc (slotObj ⟨xt, xs⟩)).heap[w.heap.size + 1]? = some (slotObj ⟨xt, xs⟩) := by
    have := heap_alloc_new (w.alloc (passObj ⟨du, mv, de, tl, a⟩ t m d)) (slotObj ⟨xt, xs⟩)
    rw [show (w.alloc (passObj ⟨du, mv, de, tl, a⟩ t m d)).heap.size = w.heap.size + 1 by simp] at this; exact this
  have N1 := Lib.hid hn1; have N2 := Lib.hid hn2; clear hn1 hn2
  have e1 : IntKind.i64.wrap (a + de) = a + de := IntWalk.i64_in _ (by omega)
  have e2 : IntKind.i64.wrap (t + m + de) = t + m + de := IntWalk.i64_in _ (by omega)
  clear h1 h2 h3 h4 h5
  dsimp only [passObj, slotObj] at N1 N2 HG
  by_cases k1 : a ≤ t
  · have HE := Lib.hid (show detour ⟨du, mv, de, tl, a⟩ t m ⟨xt, xs⟩ = (t + m, true) by unfold detour; rw [if_pos k1])
    go_enter Try.func49, Try.ntmps49
    go_wp2_with fail
    refine (HA.out _).mono ?_; rintro _ w1 ⟨rfl, g1⟩
    have G1 := Lib.hid g1; clear g1
    go_wp2_with fail
    go_ret2
    exact ⟨by rw [HE.out]; rfl, below_step HG.out G1.out⟩
  · by_cases k2 : a < xs
    · have HE := Lib.hid (show detour ⟨du, mv, de, tl, a⟩ t m ⟨xt, xs⟩ = (max (t + m) a + de, true) by unfold detour; rw [if_neg k1, if_pos k2])
      go_enter Try.func49, Try.ntmps49
      go_wp2_with fail
      generalize (w.alloc (.cells #[.int .i64 t, .int .i64 m, .int .i64 de, .int .i64 d, .int .i64 tl, .int .i64 a] 77)).alloc (.cells #[.int .i64 xt, .int .i64 xs] 43) = W at *
      have HS : Hid (∀ v v1, v.heap = W.heap → Below v.heap.size v v1 → v1.cell? ⟨w.heap.size, 0, none⟩ = some (.int .i64 t) ∧ v1.cell? ⟨w.heap.size, 1, none⟩ = some (.int .i64 m) ∧ v1.cell? ⟨w.heap.size, 2, none⟩ = some (.int .i64 de) ∧ v1.cell? ⟨w.heap.size, 3, none⟩ = some (.int .i64 d) ∧ v1.cell? ⟨w.heap.size, 4, none⟩ = some (.int .i64 tl) ∧ v1.cell? ⟨w.heap.size, 5, none⟩ = some (.int .i64 a)) := Lib.hid (fun v v1 hv hb => by
        have hm := N1.out; rw [← hv] at hm
        have hm := box_below hm hb
        exact ⟨box_cell hm 0 _ rfl, box_cell hm 1 _ rfl, box_cell hm 2 _ rfl, box_cell hm 3 _ rfl, box_cell hm 4 _ rfl, box_cell hm 5 _ rfl⟩)
      go_region_held3 (fun v1 => v1.cell? ⟨w.heap.size, 0, none⟩ = some (.int .i64 t) ∧ v1.cell? ⟨w.heap.size, 1, none⟩ = some (.int .i64 m) ∧ v1.cell? ⟨w.heap.size, 2, none⟩ = some (.int .i64 de) ∧ v1.cell? ⟨w.heap.size, 3, none⟩ = some (.int .i64 d) ∧ v1.cell? ⟨w.heap.size, 4, none⟩ = some (.int .i64 tl) ∧ v1.cell? ⟨w.heap.size, 5, none⟩ = some (.int .i64 a))
        (first | exact HS.out _ _ (by rfl) g1 | exact HS.out _ _ (by rfl) (Below.refl _ _))
        (first | (go_at_call 48; refine (HA.out _).mono ?_; rintro e v1 ⟨rfl, g1⟩))
      all_goals
        have G1 := Lib.hid (show Below W.heap.size W v1 from ⟨g1.os, g1.tape, g1.output, g1.size, g1.block⟩); clear g1
        go_wp2_with fail
        all_goals
          go_ret2
          exact ⟨by rw [HE.out]; first | (rw [Int.max_eq_right (by omega)]; rfl) | (rw [Int.max_eq_left (by omega)]; rfl), below_step HG.out G1.out⟩
    · have HE := Lib.hid (show detour ⟨du, mv, de, tl, a⟩ t m ⟨xt, xs⟩ = (a + de, decide (t + m ≤ xs)) by unfold detour; rw [if_neg k1, if_neg k2])
      go_enter Try.func49, Try.ntmps49
      go_wp2_with fail
      generalize (w.alloc (.cells #[.int .i64 t, .int .i64 m, .int .i64 de, .int .i64 d, .int .i64 tl, .int .i64 a] 77)).alloc (.cells #[.int .i64 xt, .int .i64 xs] 43) = W at *
      have HS : Hid (∀ v v1, v.heap = W.heap → Below v.heap.size v v1 → v1.cell? ⟨w.heap.size, 0, none⟩ = some (.int .i64 t) ∧ v1.cell? ⟨w.heap.size, 1, none⟩ = some (.int .i64 m) ∧ v1.cell? ⟨w.heap.size, 2, none⟩ = some (.int .i64 de) ∧ v1.cell? ⟨w.heap.size, 3, none⟩ = some (.int .i64 d) ∧ v1.cell? ⟨w.heap.size, 4, none⟩ = some (.int .i64 tl) ∧ v1.cell? ⟨w.heap.size, 5, none⟩ = some (.int .i64 a) ∧ v1.cell? ⟨w.heap.size + 1, 1, none⟩ = some (.int .i64 xs)) := Lib.hid (fun v v1 hv hb => by
        have hm := N1.out; rw [← hv] at hm
        have hm := box_below hm hb
        have hk := N2.out; rw [← hv] at hk
        have hk := box_below hk hb
        exact ⟨box_cell hm 0 _ rfl, box_cell hm 1 _ rfl, box_cell hm 2 _ rfl, box_cell hm 3 _ rfl, box_cell hm 4 _ rfl, box_cell hm 5 _ rfl, box_cell hk 1 _ rfl⟩)
      go_region_held3 (fun v1 => v1.cell? ⟨w.heap.size, 0, none⟩ = some (.int .i64 t) ∧ v1.cell? ⟨w.heap.size, 1, none⟩ = some (.int .i64 m) ∧ v1.cell? ⟨w.heap.size, 2, none⟩ = some (.int .i64 de) ∧ v1.cell? ⟨w.heap.size, 3, none⟩ = some (.int .i64 d) ∧ v1.cell? ⟨w.heap.size, 4, none⟩ = some (.int .i64 tl) ∧ v1.cell? ⟨w.heap.size, 5, none⟩ = some (.int .i64 a) ∧ v1.cell? ⟨w.heap.size + 1, 1, none⟩ = some (.int .i64 xs))
        (first | exact HS.out _ _ (by rfl) g1 | exact HS.out _ _ (by rfl) (Below.refl _ _))
        (first | (go_at_call 48; refine (HA.out _).mono ?_; rintro e v1 ⟨rfl, g1⟩))
      have G1 := Lib.hid (show Below W.heap.size W v1 from ⟨g1.os, g1.tape, g1.output, g1.size, g1.block⟩); clear g1
      go_wp2_with fail
      go_ret2
      exact ⟨by rw [HE.out]; rfl, below_step HG.out G1.out⟩
theorem detour_slot {x : Pl.Stage} {s : Pl.Scen} {t m d : Int} (h : Pl.loses s x.m d = true) : Pl.slot x s t m d = if (detour s t m x.m).2 && decide ((detour s t m x.m).1 ≤ x.s.start) then some x.s else none := by
  unfold Pl.slot detour
  rw [if_pos h]
  by_cases c1 : s.at_ ≤ t
  · rw [if_pos c1, if_pos c1]; simp only [Bool.true_and, decide_eq_true_eq]
  · rw [if_neg c1, if_neg c1]
    by_cases c2 : s.at_ < x.m.start
    · rw [if_pos c2, if_pos c2]; simp only [Bool.true_and, decide_eq_true_eq]
    · rw [if_neg c2, if_neg c2]; simp only [Bool.and_eq_true, decide_eq_true_eq]
/-- What slot answers. -/
def SlotPost (o : Option Pl.Slot) (w : World) (e : Ending) (w' : World) : Prop := ∃ (p : Pl.Slot) (b : Bool), e = .returned (.tuple #[slotV p, .bool b]) ∧ o = (if b then some p else none) ∧ Below w.heap.size w w'
end Go.Proofs.Ytngpkipblcihaaa
