/-
  Contracts of slices.Equal at integers and windows, sameStep, slices.EqualFunc at steps, and Same (written by tools/l04_same.py).
-/
import Derived.Test.YtcaclijkkbhfhaaGreatDoorPrint
namespace Go.Proofs.YtcaclijkkbhfhaaGreatDoor
open Go.RowKit Go.Shelf

theorem equalInts_any (L M : List Int) (a b : Option Addr) (c d : Nat) (w : World) (hL : IntA w a c L) (hM : IntA w b d M) :
    Calls Tryz.prog 59 #[.slice a L.length c, .slice b M.length d] w fun e w' => e = .returned (.bool (decide (L = M))) ∧ Below w.heap.size w w' := by
  have l1 : L.length ≤ maxLen := Nat.le_trans hL.1 hL.2.1
  have l2 : M.length ≤ maxLen := Nat.le_trans hM.1 hM.2.1
  unfold maxLen at l1 l2
  by_cases hn : L.length = M.length
  · by_cases h0 : L.length = 0
    · obtain rfl : L = [] := List.eq_nil_of_length_eq_zero h0
      obtain rfl : M = [] := List.eq_nil_of_length_eq_zero (by rw [← hn]; rfl)
      exact (Tryz.slices_Equal_int_empty a b c 0 d w (by decide)).mono fun _ _ ⟨h1, h2⟩ => ⟨h1, h2 ▸ Below.refl _ _⟩
    · obtain ⟨b1, o1, rfl, _, c1⟩ := hL.at (by omega)
      obtain ⟨b2, o2, rfl, _, c2⟩ := hM.at (by omega)
      have g1 : ∀ j, j < L.length → w.cell? ⟨b1, o1 + j, none⟩ = some (.int .i64 (L.getD j 0)) := fun j hj => by rw [c1 j hj]; simp [List.getD, hj]
      have g2 : ∀ j, j < M.length → w.cell? ⟨b2, o2 + j, none⟩ = some (.int .i64 (M.getD j 0)) := fun j hj => by rw [c2 j hj]; simp [List.getD, hj]
      have h := Tryz.slices_Equal_int b1 o1 L.length c b2 o2 M.length d L M w (Nat.le_refl _) (Nat.le_refl _) (by omega) (by omega) g1 g2
      rw [List.take_length, List.take_length] at h
      have e : (L == M) = decide (L = M) := by rw [Bool.eq_iff_iff]; simp
      rw [e] at h
      exact h.mono fun _ _ ⟨h1, q, h2⟩ => ⟨h1, h2 ▸ below_drewN (Below.refl _ _) q⟩
  · have e : decide (L = M) = false := by rw [decide_eq_false_iff_not]; intro h; exact hn (by rw [h])
    rw [e]
    exact (Tryz.slices_Equal_int_lens a b L.length c M.length d w hn).mono fun _ _ ⟨h1, h2⟩ => ⟨h1, h2 ▸ Below.refl _ _⟩

theorem step_eq_iff (s u : Fl.Step) : decide (s = u) = ((s.recipe == u.recipe) && decide (s.tools = u.tools) && (s.least == u.least) && (s.most == u.most) && decide (s.next = u.next) && (s.back == u.back) && (s.limit == u.limit)) := by
  cases s; cases u
  rw [Bool.eq_iff_iff]
  simp [and_assoc]
/-- The cells of a step's box. -/
abbrev stepBox (p : StepP) : Obj := .cells #[.int .i64 p.s.recipe, .slice p.ta p.s.tools.length p.tc, .int .i64 p.s.least, .int .i64 p.s.most, .slice p.na p.s.next.length p.nc, .int .i64 p.s.back, .int .i64 p.s.limit] 55
set_option maxRecDepth 100000 in
set_option maxHeartbeats 2000000 in
theorem sameStep_any (p r : StepP) (w : World) (hp : p.ok w) (hr : r.ok w) :
    Calls Tryz.prog 39 #[p.v, r.v] w fun e w' => e = .returned (.bool (decide (p.s = r.s))) ∧ Below w.heap.size w w' := by
  rw [step_eq_iff]
  have HB := Lib.hid (below_step (below_new w (stepBox p)) (below_new (w.alloc (stepBox p)) (stepBox r)))
  have hbp : ((w.alloc (stepBox p)).alloc (stepBox r)).heap[w.heap.size]? = some (stepBox p) := heap_alloc_old _ _ _ _ (heap_alloc_new _ _)
  have hbr : ((w.alloc (stepBox p)).alloc (stepBox r)).heap[w.heap.size + 1]? = some (stepBox r) := by
    have := heap_alloc_new (w.alloc (stepBox p)) (stepBox r)
    rw [show (w.alloc (stepBox p)).heap.size = w.heap.size + 1 by simp] at this; exact this
  have BP := Lib.hid hbp; have BR := Lib.hid hbr
  have C1 := Lib.hid (fun w' (hb : Below w.heap.size w w') => equalInts_any p.s.tools r.s.tools p.ta r.ta p.tc r.tc w' (hp.1.below hb) (hr.1.below hb))
  have C2 := Lib.hid (fun w' (hb : Below w.heap.size w w') => equalInts_any p.s.next r.s.next p.na r.na p.nc r.nc w' (hp.2.below hb) (hr.2.below hb))
  obtain ⟨T, hT⟩ : ∃ T, decide (p.s.tools = r.s.tools) = T := ⟨_, rfl⟩
  obtain ⟨X, hX⟩ : ∃ X, decide (p.s.next = r.s.next) = X := ⟨_, rfl⟩
  rw [hT] at C1; rw [hX] at C2; rw [hT, hX]
  clear hT hX hp hr hbp hbr
  unfold StepP.v
  unfold stepBox at *
  rcases Bool.eq_false_or_eq_true (p.s.recipe == r.s.recipe) with e1 | e1
  rotate_left
  · go_enter Tryz.func39, Tryz.ntmps39
    go_wp2_with fail
    go_ret
    exact ⟨ret_bool (by simp [e1]), HB.out⟩
  go_enter Tryz.func39, Tryz.ntmps39
  go_wp2_with fail
  generalize (w.alloc (.cells #[.int .i64 p.s.recipe, .slice p.ta p.s.tools.length p.tc, .int .i64 p.s.least, .int .i64 p.s.most, .slice p.na p.s.next.length p.nc, .int .i64 p.s.back, .int .i64 p.s.limit] 55)).alloc (.cells #[.int .i64 r.s.recipe, .slice r.ta r.s.tools.length r.tc, .int .i64 r.s.least, .int .i64 r.s.most, .slice r.na r.s.next.length r.nc, .int .i64 r.s.back, .int .i64 r.s.limit] 55) = w0 at *
  have L0 := HB
  refine (C1.out _ L0.out).mono ?_; rintro e w1 ⟨rfl, g1⟩
  have L1 := Lib.hid (below_step L0.out g1)
  have BP1 := Lib.hid ((g1.block _ (lt_of_block BP.out)).trans BP.out); have BR1 := Lib.hid ((g1.block _ (lt_of_block BR.out)).trans BR.out)
  clear g1
  cases T
  · go_wp2_with fail
    go_ret
    exact ⟨ret_bool (by simp [e1]), L1.out⟩
  have cp2 := box_cell BP1.out 2 (.int .i64 p.s.least) rfl
  have cr2 := box_cell BR1.out 2 (.int .i64 r.s.least) rfl
  have cp3 := box_cell BP1.out 3 (.int .i64 p.s.most) rfl
  have cr3 := box_cell BR1.out 3 (.int .i64 r.s.most) rfl
  have cp4 := box_cell BP1.out 4 (.slice p.na p.s.next.length p.nc) rfl
  have cr4 := box_cell BR1.out 4 (.slice r.na r.s.next.length r.nc) rfl
  rcases Bool.eq_false_or_eq_true (p.s.least == r.s.least) with e2 | e2
  rotate_left
  · go_wp2_with fail
    go_ret
    exact ⟨ret_bool (by simp [e1, e2]), L1.out⟩
  rcases Bool.eq_false_or_eq_true (p.s.most == r.s.most) with e3 | e3
  rotate_left
  · go_wp2_with fail
    go_ret
    exact ⟨ret_bool (by simp [e1, e2, e3]), L1.out⟩
  go_wp2_with fail
  clear cp2 cr2 cp3 cr3 cp4 cr4
  refine (C2.out _ L1.out).mono ?_; rintro e w2 ⟨rfl, g2⟩
  have L2 := Lib.hid (below_step L1.out g2)
  have BP2 := Lib.hid ((g2.block _ (lt_of_block BP1.out)).trans BP1.out); have BR2 := Lib.hid ((g2.block _ (lt_of_block BR1.out)).trans BR1.out)
  clear g2
  cases X
  · go_wp2_with fail
    go_ret
    exact ⟨ret_bool (by simp [e1, e2, e3]), L2.out⟩
  have cp5 := box_cell BP2.out 5 (.int .i64 p.s.back) rfl
  have cr5 := box_cell BR2.out 5 (.int .i64 r.s.back) rfl
  have cp6 := box_cell BP2.out 6 (.int .i64 p.s.limit) rfl
  have cr6 := box_cell BR2.out 6 (.int .i64 r.s.limit) rfl
  rcases Bool.eq_false_or_eq_true (p.s.back == r.s.back) with e4 | e4
  rotate_left
  · go_wp2_with fail
    go_ret
    exact ⟨ret_bool (by simp [e1, e2, e3, e4]), L2.out⟩
  go_wp2_with fail
  go_ret
  exact ⟨ret_bool (by simp [e1, e2, e3, e4]), L2.out⟩
end Go.Proofs.YtcaclijkkbhfhaaGreatDoor
