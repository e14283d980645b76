/-
  The walk of RatioFloor: for every pair of integers the floor is at most the fraction, and the next integer is greater.
-/
import Derived.Test.YtmpjcicmkdneeaaDoorSane
namespace Go.Proofs.YtmpjcicmkdneeaaDoor
open Go.RowKit Go.Shelf

theorem flo_range {p q : Int} (h : Ra.Ok p q) : -1000000000 ≤ Ra.flo p q ∧ Ra.flo p q ≤ 1000000000 ∧ Ra.flo p q * q ≤ p ∧ p < (Ra.flo p q + 1) * q := by
  obtain ⟨h1, h2, h3, h4, -⟩ := h
  obtain ⟨b1, b2⟩ := Ra.flo_bd (n := p) (d := q) (by omega)
  generalize Ra.flo p q = k at *
  refine ⟨?_, ?_, by rw [Int.mul_comm]; exact b1, by rw [Int.add_mul, Int.one_mul, Int.mul_comm]; exact b2⟩
  · rcases (by omega : -1000000000 ≤ k ∨ k + 1 ≤ -1000000000) with h | h
    · exact h
    · exfalso
      have := Int.mul_le_mul_of_nonneg_left h (by omega : 0 ≤ q)
      rw [Int.mul_add] at this; omega
  · rcases (by omega : k ≤ 1000000000 ∨ 1000000001 ≤ k) with h | h
    · exact h
    · exfalso
      have := Int.mul_le_mul_of_nonneg_left h (by omega : 0 ≤ q)
      omega

set_option maxRecDepth 100000 in
set_option maxHeartbeats 1000000 in
theorem floorW_none (n d : Int) (w : World) (a : Addr) (ht : Tab a w) (fn : Fits n) (fd : Fits d) (h : Ra.red n d = none) :
    Calls Tryd.prog 8 #[.int .i64 n, .int .i64 d] w fun e w' => e = .returned (.bool true) ∧ Below w.heap.size w w' := by
  have hs := fun w ht => sane_any w a ht
  have hm := Make_none (a := a) h fn fd
  have v1 : ∀ w, Calls Tryd.prog 24 #[ratV 0 0] w fun e w' => e = .returned (.bool false) ∧ Below w.heap.size w w' := fun w => by
    have := valid_any 0 0 w (by decide) (by decide) (by decide) (by decide)
    rw [okB_false (by decide)] at this; exact this
  have fl : ∀ w, Calls Tryd.prog 25 #[ratV 0 0] w fun e w' => e = .returned (.int .i64 0) ∧ Below w.heap.size w w' := fun w => by
    have := Floor_any 0 0 w ⟨⟨by decide, by decide⟩, ⟨by decide, by decide⟩⟩
    rw [show floorR 0 0 = 0 from if_neg (by decide)] at this; exact this
  have HS := Lib.hid hs; have HM := Lib.hid hm; have HV := Lib.hid v1; have HF := Lib.hid fl; have T0 := Lib.hid ht
  clear hs hm v1 fl ht h fn fd
  go_enter Tryd.func8, Tryd.ntmps8
  go_wp2_with fail
  refine (HS.out _ T0.out).mono ?_; rintro e w1 ⟨rfl, g1⟩
  have l1 := Lib.hid g1
  go_wp2_with fail
  refine (HM.out _ (T0.out.below g1)).mono ?_; rintro e w2 ⟨rfl, g2⟩
  have l2 := Lib.hid (below_step l1.out g2)
  have B := Lib.hid (BoxAt.new w2 0 0)
  have l3 := Lib.hid (below_step l2.out (below_new w2 (.cells #[.int .i64 0, .int .i64 0] 27)))
  have b0 := B.out.2.1; have b1 := B.out.2.2
  go_wp2_with fail
  clear b0 b1
  refine (HV.out _).mono ?_; rintro e w3 ⟨rfl, g3⟩
  have l4 := Lib.hid (below_step l3.out g3)
  have b0 := (B.out.below g3).2.1; have b1 := (B.out.below g3).2.2
  go_wp2_with fail
  clear b0 b1
  refine (HF.out _).mono ?_; rintro e w4 ⟨rfl, g4⟩
  have l5 := Lib.hid (below_step l4.out g4)
  go_wp2_with fail
  go_ret
  exact ⟨rfl, l5.out⟩

set_option maxRecDepth 100000 in
set_option maxHeartbeats 1000000 in
theorem floorW_some (n d p q : Int) (w : World) (a : Addr) (ht : Tab a w) (fn : Fits n) (fd : Fits d) (h : Ra.red n d = some (p, q)) :
    Calls Tryd.prog 8 #[.int .i64 n, .int .i64 d] w fun e w' => e = .returned (.bool true) ∧ Below w.heap.size w w' := by
  have ho := (Ra.red_ok h).1
  obtain ⟨k1, k2, k3, k4⟩ := flo_range ho
  have hs := fun w ht => sane_any w a ht
  have hm := Make_some (a := a) h fn fd
  have fl : ∀ w, Calls Tryd.prog 25 #[ratV p q] w fun e w' => e = .returned (.int .i64 (Ra.flo p q)) ∧ Below w.heap.size w w' := fun w => by
    have := Floor_any p q w (ok_fits ho)
    rw [show floorR p q = Ra.flo p q from if_pos ho] at this; exact this
  generalize Ra.flo p q = k at *
  have hm2 := Make_some (a := a) (Ra.red_int k k1 k2) ⟨by omega, by omega⟩ ⟨by decide, by decide⟩
  have HS := Lib.hid hs; have HM := Lib.hid hm; have HF := Lib.hid fl; have HM2 := Lib.hid hm2; have T0 := Lib.hid ht
  by_cases hk : k = 1000000000
  · have hpq : p = 1000000000 ∧ q = 1 := by
      have h1 := ho.2.2.2.1; have h2 := ho.1
      rw [hk] at k3
      omega
    obtain ⟨rfl, rfl⟩ := hpq
    subst hk
    clear hs hm fl hm2 ht h fn fd ho k1 k2 k3 k4
    go_enter Tryd.func8, Tryd.ntmps8
    go_wp2_with fail
    refine (HS.out _ T0.out).mono ?_; rintro e w1 ⟨rfl, g1⟩
    have l1 := Lib.hid g1
    go_wp2_with fail
    refine (HM.out _ (T0.out.below g1)).mono ?_; rintro e w2 ⟨rfl, g2⟩
    have l2 := Lib.hid (below_step l1.out g2)
    have B := Lib.hid (BoxAt.new w2 1000000000 1)
    have l3 := Lib.hid (below_step l2.out (below_new w2 (.cells #[.int .i64 1000000000, .int .i64 1] 27)))
    have b0 := B.out.2.1; have b1 := B.out.2.2
    go_wp2_with fail
    clear b0 b1
    refine (HF.out _).mono ?_; rintro e w3 ⟨rfl, g3⟩
    have l4 := Lib.hid (below_step l3.out g3)
    have B := Lib.hid (B.out.below g3)
    go_wp2_with fail
    refine (HM2.out _ (T0.out.below l4.out)).mono ?_; rintro e w4 ⟨rfl, g4⟩
    have l5 := Lib.hid (below_step l4.out g4)
    have B := Lib.hid (B.out.below g4)
    go_wp2_with fail
    have H0 : Hid ((w4.alloc (.cells #[.int .i64 1000000000, .int .i64 1] 27)).cell? ⟨w2.heap.size, 0, none⟩ = some (.int .i64 1000000000) ∧ (w4.alloc (.cells #[.int .i64 1000000000, .int .i64 1] 27)).cell? ⟨w2.heap.size, 1, none⟩ = some (.int .i64 1) ∧ Below w.heap.size w (w4.alloc (.cells #[.int .i64 1000000000, .int .i64 1] 27))) :=
      Lib.hid ⟨(B.out.below (below_new _ _)).2.1, (B.out.below (below_new _ _)).2.2, below_step l5.out (below_new _ _)⟩
    have HI := Lib.hid is_any
    have HS2 := Lib.hid two_cells
    generalize w4.alloc (.cells #[.int .i64 1000000000, .int .i64 1] 27) = W at *
    go_region_held3 (fun w' => w'.cell? ⟨w2.heap.size, 0, none⟩ = some (.int .i64 1000000000) ∧ w'.cell? ⟨w2.heap.size, 1, none⟩ = some (.int .i64 1) ∧ Below w.heap.size w w') (first | exact HS2.out _ _ _ _ _ _ H0.out (Below.refl _ _).drew | exact HS2.out _ _ _ _ _ _ (by assumption) hb4)
      ((go_at_call 13; ((with_reducible refine (HI.out _ _ _).mono ?_); rintro e w5 ⟨rfl, hb4⟩)))
    all_goals
      rename_i hh
      have HB := Lib.hid hh.2.2
      clear hh
      go_wp2_with fail
      go_ret
      exact ⟨rfl, HB.out⟩
  · have k2' : k < 1000000000 := by omega
    have hm3 := Make_some (a := a) (Ra.red_int (k + 1) (by omega) (by omega)) ⟨by omega, by omega⟩ ⟨by decide, by decide⟩
    have o1 := Ra.ok_int k k1 k2
    have o2 := Ra.ok_int (k + 1) (by omega) (by omega)
    obtain ⟨x, hx⟩ : ∃ x, cmpR k 1 p q = x := ⟨_, rfl⟩
    obtain ⟨y, hy⟩ : ∃ y, cmpR p q (k + 1) 1 = y := ⟨_, rfl⟩
    have x0 : x ≤ 0 := by
      rw [← hx]; unfold cmpR; rw [if_pos ⟨o1, ho⟩]
      split <;> (try split) <;> omega
    have y0 : y < 0 := by
      rw [← hy]; unfold cmpR; rw [if_pos ⟨ho, o2⟩, if_pos (by omega)]; omega
    have c1 := Compare_at o1 ho hx
    have c2 := Compare_at ho o2 hy
    have HM3 := Lib.hid hm3; have C1 := Lib.hid c1; have C2 := Lib.hid c2
    have x1 : decide (x ≤ 0) = true := decide_eq_true x0
    have y1 : decide (y < 0) = true := decide_eq_true y0
    have q1 : ¬ k < -1000000000 := by omega
    have q2 : ¬ 1000000000 ≤ k := by omega
    have z1 : decide (k < -1000000000) = false := decide_eq_false q1
    have z2 : decide (1000000000 ≤ k) = false := decide_eq_false q2
    clear hs hm fl hm2 ht h fn fd ho k3 k4 hm3 o1 o2 c1 c2 hx hy hk
    go_enter Tryd.func8, Tryd.ntmps8
    go_wp2_with fail
    refine (HS.out _ T0.out).mono ?_; rintro e w1 ⟨rfl, g1⟩
    have l1 := Lib.hid g1
    go_wp2_with fail
    refine (HM.out _ (T0.out.below g1)).mono ?_; rintro e w2 ⟨rfl, g2⟩
    have l2 := Lib.hid (below_step l1.out g2)
    have B := Lib.hid (BoxAt.new w2 p q)
    have l3 := Lib.hid (below_step l2.out (below_new w2 (.cells #[.int .i64 p, .int .i64 q] 27)))
    have b0 := B.out.2.1; have b1 := B.out.2.2
    go_wp2_with fail
    clear b0 b1
    refine (HF.out _).mono ?_; rintro e w3 ⟨rfl, g3⟩
    have l4 := Lib.hid (below_step l3.out g3)
    have B := Lib.hid (B.out.below g3)
    go_wp2_with fail
    refine (HM2.out _ (T0.out.below l4.out)).mono ?_; rintro e w4 ⟨rfl, g4⟩
    have l5 := Lib.hid (below_step l4.out g4)
    have B := Lib.hid (B.out.below g4)
    have B := Lib.hid (B.out.below (below_new w4 (.cells #[.int .i64 k, .int .i64 1] 27)))
    have C := Lib.hid (BoxAt.new w4 k 1)
    have l6 := Lib.hid (below_step l5.out (below_new w4 (.cells #[.int .i64 k, .int .i64 1] 27)))
    go_wp2_with fail
    refine (HM3.out _ (T0.out.below l6.out)).mono ?_; rintro e w5 ⟨rfl, g5⟩
    have l7 := Lib.hid (below_step l6.out g5)
    have B := Lib.hid (B.out.below g5)
    have C := Lib.hid (C.out.below g5)
    have B := Lib.hid (B.out.below (below_new w5 (.cells #[.int .i64 (k + 1), .int .i64 1] 27)))
    have C := Lib.hid (C.out.below (below_new w5 (.cells #[.int .i64 (k + 1), .int .i64 1] 27)))
    have D := Lib.hid (BoxAt.new w5 (k + 1) 1)
    have l8 := Lib.hid (below_step l7.out (below_new w5 (.cells #[.int .i64 (k + 1), .int .i64 1] 27)))
    have b0 := B.out.2.1; have b1 := B.out.2.2; have c0 := C.out.2.1; have c1 := C.out.2.2
    go_wp2_with fail
    clear b0 b1 c0 c1
    refine (C1.out _).mono ?_; rintro e w6 ⟨rfl, g6⟩
    have l9 := Lib.hid (below_step l8.out g6)
    have B := Lib.hid (B.out.below g6)
    have D := Lib.hid (D.out.below g6)
    have b0 := B.out.2.1; have b1 := B.out.2.2; have c0 := D.out.2.1; have c1 := D.out.2.2
    go_wp2_with fail
    clear b0 b1 c0 c1
    refine (C2.out _).mono ?_; rintro e w7 ⟨rfl, g7⟩
    have l10 := Lib.hid (below_step l9.out g7)
    go_wp2_with fail
    go_ret
    exact ⟨rfl, l10.out⟩

theorem ratioFloor_any (n d : Int) (w : World) (ht : ∃ a, Tab a w) (n1 : -9223372036854775808 ≤ n) (n2 : n ≤ 9223372036854775807) (d1 : -9223372036854775808 ≤ d) (d2 : d ≤ 9223372036854775807) :
    Calls Tryd.prog 8 #[.int .i64 n, .int .i64 d] w fun e w' => e = .returned (.bool true) ∧ Below w.heap.size w w' := by
  obtain ⟨a, ht⟩ := ht
  cases h : Ra.red n d with
  | none => exact floorW_none n d w a ht ⟨n1, n2⟩ ⟨d1, d2⟩ h
  | some x => obtain ⟨p, q⟩ := x; exact floorW_some n d p q w a ht ⟨n1, n2⟩ ⟨d1, d2⟩ h
end Go.Proofs.YtmpjcicmkdneeaaDoor
