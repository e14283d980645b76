/-
  Contract of Parse: a text's flow, or the number of the line that is named.
-/
import Derived.Test.YtcaclijkkbhfhaaGreatDoorPar
import Derived.RegionTactic
namespace Go.Proofs.YtcaclijkkbhfhaaGreatDoor
open Go.RowKit Go.Shelf

/-- What Parse answers. -/
def ParsePost (res : Except Nat Fl.Flow) (w : World) (e : Ending) (w' : World) : Prop :=
  match res with
  | .error n => e = .returned (.tuple #[.agg #[.int .i64 0, .int .i64 0, .slice none 0 0, .slice none 0 0], .int .i64 n, .int .i64 40]) ∧ Below w.heap.size w w'
  | .ok f => ∃ q : FlowP, q.f = f ∧ q.ok w' ∧ e = .returned (.tuple #[q.v, .int .i64 0, .int .i64 0]) ∧ Below w.heap.size w w'
theorem Tab.size {a : Addr} {w : World} (h : Tab a w) : 7 ≤ w.heap.size := by
  obtain ⟨te, pe, h1⟩ := h.rng
  have := World.block_lt_of_cell? w _ h1
  simp at this; omega
abbrev rd0 : Rd := ⟨0, 0, .slice none 0 0, .slice none 0 0, 0, [], none⟩
abbrev q0 : FlowP := ⟨0, 0, none, 0, [], none, 0, []⟩
/-- The world at the call of attempt. -/
abbrev parseW (w : World) (s : List UInt8) : World := (((w.alloc (.cells #[.string (bs s)] 9)).alloc (.cells #[.int .i64 0, .int .i64 0, .slice none 0 0, .slice none 0 0] 25)).alloc (.cells (rdCells rd0) 76)).alloc (.cells #[.pointer (some ⟨w.heap.size + 2, 0, none⟩)] 74)
theorem parseW_below (w : World) (s : List UInt8) : Below w.heap.size w (parseW w s) :=
  ((((Below.refl _ _).alloc (Nat.le_refl _) _).alloc (by simp) _).alloc (by simp; omega) _).alloc (by simp; omega) _
theorem parseW_blocks (w : World) (s : List UInt8) : (parseW w s).heap[w.heap.size]? = some (.cells #[.string (bs s)] 9) ∧ (parseW w s).heap[w.heap.size + 1]? = some (.cells #[.int .i64 0, .int .i64 0, .slice none 0 0, .slice none 0 0] 25) ∧
    (parseW w s).heap[w.heap.size + 2]? = some (.cells (rdCells rd0) 76) ∧ (parseW w s).heap[w.heap.size + 3]? = some (.cells #[.pointer (some ⟨w.heap.size + 2, 0, none⟩)] 74) := by
  refine ⟨?_, ?_, ?_, ?_⟩
  · exact heap_alloc_old _ _ _ _ (heap_alloc_old _ _ _ _ (heap_alloc_old _ _ _ _ (heap_alloc_new _ _)))
  · have := heap_alloc_new (w.alloc (.cells #[.string (bs s)] 9)) (.cells #[.int .i64 0, .int .i64 0, .slice none 0 0, .slice none 0 0] 25)
    rw [show (w.alloc (.cells #[.string (bs s)] 9)).heap.size = w.heap.size + 1 by simp] at this
    exact heap_alloc_old _ _ _ _ (heap_alloc_old _ _ _ _ this)
  · have := heap_alloc_new ((w.alloc (.cells #[.string (bs s)] 9)).alloc (.cells #[.int .i64 0, .int .i64 0, .slice none 0 0, .slice none 0 0] 25)) (.cells (rdCells rd0) 76)
    rw [show ((w.alloc (.cells #[.string (bs s)] 9)).alloc (.cells #[.int .i64 0, .int .i64 0, .slice none 0 0, .slice none 0 0] 25)).heap.size = w.heap.size + 2 by simp] at this
    exact heap_alloc_old _ _ _ _ this
  · have := heap_alloc_new (((w.alloc (.cells #[.string (bs s)] 9)).alloc (.cells #[.int .i64 0, .int .i64 0, .slice none 0 0, .slice none 0 0] 25)).alloc (.cells (rdCells rd0) 76)) (.cells #[.pointer (some ⟨w.heap.size + 2, 0, none⟩)] 74)
    rw [show (((w.alloc (.cells #[.string (bs s)] 9)).alloc (.cells #[.int .i64 0, .int .i64 0, .slice none 0 0, .slice none 0 0] 25)).alloc (.cells (rdCells rd0) 76)).heap.size = w.heap.size + 3 by simp] at this
    exact this
theorem parseW_in {a : Addr} {w : World} (s : List UInt8) (ht : Tab a w) : In a w.heap.size (w.heap.size + 2) rd0 q0 (parseW w s) := by
  have h7 := ht.size
  have hr : RdAt (parseW w s) (w.heap.size + 2) rd0 := (parseW_blocks w s).2.2.1
  exact ⟨⟨ht.below (parseW_below w s), hr, by omega, by simp⟩, ⟨hr, by omega, rfl, rfl, rfl, rfl, World.ownsRow_nil _ _ _ _, World.ownsRow_nil _ _ _ _, fun p hp => by cases hp⟩, h7, by decide, by decide⟩
theorem q0_f : q0.f = Fl.noFlow := rfl

set_option maxRecDepth 100000 in
set_option maxHeartbeats 2000000 in
theorem Parse_any (s : List UInt8) (w : World) (a : Addr) (ht : Tab a w) (hl : s.length ≤ 900000) :
    Calls Tryz.prog 21 #[.string (bs s)] w (ParsePost (Fl.parse s) w) := by
  have HB := Lib.hid (parseW_blocks w s)
  have HA := Lib.hid (attempt_any a w.heap.size (w.heap.size + 2) (w.heap.size + 3) w.heap.size rd0 q0 s (parseW w s) (parseW_in s ht) hl rfl rfl q0_f (box_cell HB.out.2.2.2 0 _ rfl) (box_cell HB.out.1 0 _ rfl))
  have HW := Lib.hid (parseW_below w s)
  clear ht hl
  rcases hp : Fl.parse s with n | f
  · rw [hp] at HA
    unfold TryPost at HA
    clear hp
    go_enter Tryz.func21, Tryz.ntmps21
    go_wp2_with fail
    refine HA.out.mono ?_; rintro e w1 ⟨rfl, f1, c1, r1, l1⟩
    have nb : ∀ {t : TypeId} {cs' : Array Value}, t ≠ 55 → t ≠ 58 → ∀ cs, Obj.cells cs' t (0, 0) ≠ .cells cs 55 ∧ Obj.cells cs' t (0, 0) ≠ .cells cs 58 := fun h1 h2 cs => ⟨by intro e0; injection e0 with _ e1; exact h1 e1, by intro e0; injection e0 with _ e1; exact h2 e1⟩
    have k1 := f1.rest (w.heap.size + 1) _ (by omega) HB.out.2.1 (nb (by decide) (by decide))
    have k3 := f1.rest (w.heap.size + 3) _ (by omega) HB.out.2.2.2 (nb (by decide) (by decide))
    have x3 : w1.cell? ⟨w.heap.size + 1 + 1 + 1, 0, none⟩ = some (.pointer (some ⟨w.heap.size + 2, 0, none⟩)) := box_cell k3 0 _ rfl
    have x4 : w1.cell? ⟨w.heap.size + 2, 4, none⟩ = some (.int .i64 (n : Int)) := r1.cell 4 _ (by rw [← l1]; rfl)
    have y0 := box_cell k1 0 (.int .i64 0) rfl; have y1 := box_cell k1 1 (.int .i64 0) rfl; have y2 := box_cell k1 2 (.slice none 0 0) rfl; have y3 := box_cell k1 3 (.slice none 0 0) rfl
    have z0 := box_fz k1 0; have z1 := box_fz k1 1; have z2 := box_fz k1 2; have z3 := box_fz k1 3
    have HF := Lib.hid (HW.out.trans f1.below)
    clear f1 r1 l1 k1 k3 nb
    go_wp2_with fail
    go_region
    all_goals
      go_wp2_with fail
      refine bodyPost_ret (v := .tuple #[.agg #[.int .i64 0, .int .i64 0, .slice none 0 0, .slice none 0 0], .int .i64 n, .int .i64 40]) (by simp [results, Tryz.results21, go_sem, y0, y1, y2, y3]) rfl ?_
      have hB1 : w.heap.size ≤ w.heap.size + 1 := by omega
      exact ⟨rfl, ((((HF.out.setCell hB1 _).setCell hB1 _).setCell hB1 _).setCell hB1 _).drew⟩
  · rw [hp] at HA
    unfold TryPost at HA
    clear hp
    go_enter Tryz.func21, Tryz.ntmps21
    go_wp2_with fail
    refine HA.out.mono ?_; rintro e w1 ⟨rfl, f1, c1, q1, i1, e1⟩
    have nb : ∀ {t : TypeId} {cs' : Array Value}, t ≠ 55 → t ≠ 58 → ∀ cs, Obj.cells cs' t (0, 0) ≠ .cells cs 55 ∧ Obj.cells cs' t (0, 0) ≠ .cells cs 58 := fun h1 h2 cs => ⟨by intro e0; injection e0 with _ e1; exact h1 e1, by intro e0; injection e0 with _ e1; exact h2 e1⟩
    have k1 := f1.rest (w.heap.size + 1) _ (by omega) HB.out.2.1 (nb (by decide) (by decide))
    have k3 := f1.rest (w.heap.size + 3) _ (by omega) HB.out.2.2.2 (nb (by decide) (by decide))
    have x3 : w1.cell? ⟨w.heap.size + 1 + 1 + 1, 0, none⟩ = some (.pointer (some ⟨w.heap.size + 2, 0, none⟩)) := box_cell k3 0 _ rfl
    have E := FlowP.inEta _ _ _ _ _ _ i1
    have u0 := i1.ok.at_.cell 0 _ E.1; have u1 := i1.ok.at_.cell 1 _ E.2.1; have u2 := i1.ok.at_.cell 2 _ E.2.2.1; have u3 := i1.ok.at_.cell 3 _ E.2.2.2
    have y0 := box_cell k1 0 (.int .i64 0) rfl; have y1 := box_cell k1 1 (.int .i64 0) rfl; have y2 := box_cell k1 2 (.slice none 0 0) rfl; have y3 := box_cell k1 3 (.slice none 0 0) rfl
    have z0 := box_fz k1 0; have z1 := box_fz k1 1; have z2 := box_fz k1 2; have z3 := box_fz k1 3
    have HF := Lib.hid (HW.out.trans f1.below); have I1 := Lib.hid i1; have E1 := Lib.hid e1; have K1 := Lib.hid k1
    clear f1 i1 e1 k1 k3 nb E
    go_wp2_with fail
    refine bodyPost_ret (v := .tuple #[q1.v, .int .i64 0, .int .i64 0]) (by simp [results, Tryz.results21, go_sem, y0, y1, y2, y3]) rfl ?_
    have hB1 : w.heap.size ≤ w.heap.size + 1 := by omega
    have b1 := block_set K1.out (o := 0) (.int .i64 q1.least)
    have b2 := block_set b1 (o := 1) (.int .i64 q1.most)
    have b3 := block_set b2 (o := 2) (.slice q1.sa q1.P.length q1.sc)
    have j := (((I1.out.other K1.out (o := 0) (by decide) hB1 (.int .i64 q1.least)).other b1 (o := 1) (by decide) hB1 (.int .i64 q1.most)).other b2 (o := 2) (by decide) hB1 (.slice q1.sa q1.P.length q1.sc)).other b3 (o := 3) (by decide) hB1 (.slice q1.wa q1.W.length q1.wc)
    exact ⟨q1, E1.out, j.holds.ok, rfl, (((HF.out.setCell hB1 _).setCell hB1 _).setCell hB1 _).setCell hB1 _⟩
end Go.Proofs.YtcaclijkkbhfhaaGreatDoor
