/-
  The fixed examples of layer 3's statements (sane): they hold.
-/
import Derived.Test.YtkkhmgcjaehnkaaGreatDoorParse
import Derived.Test.YtkkhmgcjaehnkaaGreatDoorKit
namespace Go.Proofs.YtkkhmgcjaehnkaaGreatDoor
open Go.RowKit Go.Shelf

theorem Parse_at (s : ByteArray) (p q : Int) (a : Addr) (h : Ra.parse s.data.toList = some (p, q)) (hs : s.size ≤ 1000) (w : World) (ht : Tab a w) :
    Calls Tryz.prog 27 #[.string s] w fun e w' => e = .returned (.tuple #[ratV p q, .int .i64 0]) ∧ Below w.heap.size w w' := by
  have := Parse_any s w a ht hs
  rw [h] at this; exact this
theorem Parse_at_no (s : ByteArray) (a : Addr) (h : Ra.parse s.data.toList = none) (hs : s.size ≤ 1000) (w : World) (ht : Tab a w) :
    Calls Tryz.prog 27 #[.string s] w fun e w' => e = .returned (.tuple #[ratV 0 0, .int .i64 30]) ∧ Below w.heap.size w w' := by
  have := Parse_any s w a ht hs
  rw [h] at this; exact this

theorem ex1 : Ra.red 6 (-8) = some (-3, 4) := by decide +kernel
theorem ex2 : addR 1 6 1 3 = some (1, 2) := by decide +kernel
theorem ex3 : roundR (-5) 4 2 = some (-1, 1) := by decide +kernel
theorem ex4 : divR 1 2 0 1 = none := by decide +kernel
theorem ex5 : Ra.Ok (-3) 4 := by decide +kernel
theorem ex6 : Ra.txt (-3) 4 = [45, 51, 47, 52] := by
  have h1 : Lib.itoa (-3) = [45, 51] := by unfold Lib.itoa; rw [if_pos (by omega)]; rw [Lib.decDigits_one (by decide)]; rfl
  have h2 : Lib.itoa 4 = [52] := by unfold Lib.itoa; rw [if_neg (by omega)]; rw [Lib.decDigits_one (by decide)]; rfl
  unfold Ra.txt; rw [if_neg (by omega), h1, h2]; rfl
theorem ex6' : Ra.parse [45, 51, 47, 52] = some (-3, 4) := Ra.parse_iff.2 ⟨ex5, ex6⟩
theorem ex7 : Ra.parse [54, 47, 56] = none := by
  have h1 : Lib.atoiAll (Lib.cut [54, 47, 56] [47]).1 = .ok 6 := by decide +kernel
  have h2 : Ra.secondN [54, 47, 56] = .ok 8 := by decide +kernel
  have h3 : ¬ (Ra.Ok 6 8 ∧ Ra.txt 6 8 = [54, 47, 56]) := fun h => by have := h.1.2.2.2.2; revert this; decide +kernel
  unfold Ra.parse
  rw [h1, h2]
  exact if_neg h3
theorem ex8 : cmpR (-3) 4 1 2 = -1 := by decide +kernel
theorem ex9 : floorR (-3) 4 = -1 := by decide +kernel
theorem ex10 : clampR 5 2 (-2) 1 2 1 = (2, 1) := by decide +kernel
theorem ex11 : okB (-3) 4 = true := by decide +kernel
theorem ex12 : okB 2 4 = false := by decide +kernel

set_option maxRecDepth 100000 in
set_option maxHeartbeats 2000000 in
theorem sane_any (w : World) (a : Addr) (ht : Tab a w) :
    Calls Tryz.prog 4 #[] w fun e w' => e = .returned (.bool true) ∧ Below w.heap.size w w' := by
  have HM := Lib.hid (Make_at 6 (-8) (-3) 4 a ex1 ⟨by decide, by decide⟩ ⟨by decide, by decide⟩)
  have HA := Lib.hid (Add_at 1 6 1 3 1 2 a ex2 ⟨⟨by decide, by decide⟩, ⟨by decide, by decide⟩⟩ ⟨⟨by decide, by decide⟩, ⟨by decide, by decide⟩⟩)
  have HR := Lib.hid (Round_at (-5) 4 2 (-1) 1 a ex3 ⟨⟨by decide, by decide⟩, ⟨by decide, by decide⟩⟩)
  have HD := Lib.hid (Div_at 1 2 0 1 a ex4 ⟨⟨by decide, by decide⟩, ⟨by decide, by decide⟩⟩ ⟨⟨by decide, by decide⟩, ⟨by decide, by decide⟩⟩)
  have pr : ∀ w, Tab a w → Calls Tryz.prog 26 #[ratV (-3) 4] w fun e w' => e = .returned (.tuple #[.string ⟨#[45, 51, 47, 52]⟩, .int .i64 0]) ∧ Below w.heap.size w w' := fun w ht => by
    have := Print_yes (-3) 4 w a ht ex5
    unfold txtB at this; rw [ex6] at this; exact this
  have HP := Lib.hid pr
  have HQ := Lib.hid (Parse_at ⟨#[45, 51, 47, 52]⟩ (-3) 4 a ex6' (by decide))
  have HN := Lib.hid (Parse_at_no ⟨#[54, 47, 56]⟩ a ex7 (by decide))
  have cp : ∀ w, Calls Tryz.prog 20 #[ratV (-3) 4, ratV 1 2] w fun e w' => e = .returned (.int .i64 (-1)) ∧ Below w.heap.size w w' := fun w => by
    have := Compare_any (-3) 4 1 2 w ⟨⟨by decide, by decide⟩, ⟨by decide, by decide⟩⟩ ⟨⟨by decide, by decide⟩, ⟨by decide, by decide⟩⟩
    rw [ex8] at this; exact this
  have HC := Lib.hid cp
  have fl : ∀ w, Calls Tryz.prog 22 #[ratV (-3) 4] w fun e w' => e = .returned (.int .i64 (-1)) ∧ Below w.heap.size w w' := fun w => by
    have := Floor_any (-3) 4 w ⟨⟨by decide, by decide⟩, ⟨by decide, by decide⟩⟩
    rw [ex9] at this; exact this
  have HF := Lib.hid fl
  have cl : ∀ w, Calls Tryz.prog 24 #[ratV 5 2, ratV (-2) 1, ratV 2 1] w fun e w' => e = .returned (ratV 2 1) ∧ Below w.heap.size w w' := fun w => by
    have := Clamp_any 5 2 (-2) 1 2 1 w ⟨⟨by decide, by decide⟩, ⟨by decide, by decide⟩⟩ ⟨⟨by decide, by decide⟩, ⟨by decide, by decide⟩⟩ ⟨⟨by decide, by decide⟩, ⟨by decide, by decide⟩⟩
    rw [ex10] at this; exact this
  have HL := Lib.hid cl
  have v1 : ∀ w, Calls Tryz.prog 18 #[ratV (-3) 4] w fun e w' => e = .returned (.bool true) ∧ Below w.heap.size w w' := fun w => by
    have := valid_any (-3) 4 w (by decide) (by decide) (by decide) (by decide)
    rw [ex11] at this; exact this
  have HV := Lib.hid v1
  have v2 : ∀ w, Calls Tryz.prog 18 #[ratV 2 4] w fun e w' => e = .returned (.bool false) ∧ Below w.heap.size w w' := fun w => by
    have := valid_any 2 4 w (by decide) (by decide) (by decide) (by decide)
    rw [ex12] at this; exact this
  have HW := Lib.hid v2
  have HI := Lib.hid is_any
  have T0 := Lib.hid ht
  clear ht pr cp fl cl v1 v2
  go_enter Tryz.func4, Tryz.ntmps4
  go_wp2_with fail
  refine (HM.out _ T0.out).mono ?_; rintro e w1 ⟨rfl, g1⟩
  have L1 := Lib.hid g1
  have Lc := L1
  have a := Lib.hid (BoxAt.new w1 (-3) 4)
  have Lc := Lib.hid (below_step L1.out (below_new w1 (.cells #[.int .i64 (-3), .int .i64 4] 25)))
  have Tc := Lib.hid (T0.out.below Lc.out)
  have a0 := a.out.2.1; have a1 := a.out.2.2
  go_wp2_with fail
  clear a0 a1
  refine (HI.out _ _ _).mono ?_; rintro e w2 ⟨rfl, g2⟩
  have L2 := Lib.hid (below_step Lc.out g2)
  have a := Lib.hid (a.out.below g2)
  have Lc := L2
  have Tc := Lib.hid (T0.out.below Lc.out)
  have a0 := a.out.2.1; have a1 := a.out.2.2
  go_wp2_with fail
  clear a0 a1
  refine (HI.out _ _ _).mono ?_; rintro e w3 ⟨rfl, g3⟩
  have L3 := Lib.hid (below_step Lc.out g3)
  have a := Lib.hid (a.out.below g3)
  have Lc := L3
  have Tc := Lib.hid (T0.out.below Lc.out)
  have a0 := a.out.2.1; have a1 := a.out.2.2
  go_wp2_with fail
  clear a0 a1
  refine (HA.out _ (Tc.out)).mono ?_; rintro e w4 ⟨rfl, g4⟩
  have L4 := Lib.hid (below_step Lc.out g4)
  have a := Lib.hid (a.out.below g4)
  have Lc := L4
  have b := Lib.hid (BoxAt.new w4 1 2)
  have a := Lib.hid (a.out.below (below_new w4 (.cells #[.int .i64 1, .int .i64 2] 25)))
  have Lc := Lib.hid (below_step L4.out (below_new w4 (.cells #[.int .i64 1, .int .i64 2] 25)))
  have Tc := Lib.hid (T0.out.below Lc.out)
  have a0 := a.out.2.1; have a1 := a.out.2.2
  have b0 := b.out.2.1; have b1 := b.out.2.2
  go_wp2_with fail
  clear a0 a1 b0 b1
  refine (HI.out _ _ _).mono ?_; rintro e w5 ⟨rfl, g5⟩
  have L5 := Lib.hid (below_step Lc.out g5)
  have a := Lib.hid (a.out.below g5)
  have b := Lib.hid (b.out.below g5)
  have Lc := L5
  have Tc := Lib.hid (T0.out.below Lc.out)
  have a0 := a.out.2.1; have a1 := a.out.2.2
  have b0 := b.out.2.1; have b1 := b.out.2.2
  go_wp2_with fail
  clear a0 a1 b0 b1
  refine (HR.out _ (Tc.out)).mono ?_; rintro e w6 ⟨rfl, g6⟩
  have L6 := Lib.hid (below_step Lc.out g6)
  have a := Lib.hid (a.out.below g6)
  have b := Lib.hid (b.out.below g6)
  have Lc := L6
  have c := Lib.hid (BoxAt.new w6 (-1) 1)
  have a := Lib.hid (a.out.below (below_new w6 (.cells #[.int .i64 (-1), .int .i64 1] 25)))
  have b := Lib.hid (b.out.below (below_new w6 (.cells #[.int .i64 (-1), .int .i64 1] 25)))
  have Lc := Lib.hid (below_step L6.out (below_new w6 (.cells #[.int .i64 (-1), .int .i64 1] 25)))
  have Tc := Lib.hid (T0.out.below Lc.out)
  have a0 := a.out.2.1; have a1 := a.out.2.2
  have b0 := b.out.2.1; have b1 := b.out.2.2
  have c0 := c.out.2.1; have c1 := c.out.2.2
  go_wp2_with fail
  clear a0 a1 b0 b1 c0 c1
  refine (HI.out _ _ _).mono ?_; rintro e w7 ⟨rfl, g7⟩
  have L7 := Lib.hid (below_step Lc.out g7)
  have a := Lib.hid (a.out.below g7)
  have b := Lib.hid (b.out.below g7)
  have c := Lib.hid (c.out.below g7)
  have Lc := L7
  have Tc := Lib.hid (T0.out.below Lc.out)
  have a0 := a.out.2.1; have a1 := a.out.2.2
  have b0 := b.out.2.1; have b1 := b.out.2.2
  have c0 := c.out.2.1; have c1 := c.out.2.2
  go_wp2_with fail
  clear a0 a1 b0 b1 c0 c1
  refine (HI.out _ _ _).mono ?_; rintro e w8 ⟨rfl, g8⟩
  have L8 := Lib.hid (below_step Lc.out g8)
  have a := Lib.hid (a.out.below g8)
  have b := Lib.hid (b.out.below g8)
  have c := Lib.hid (c.out.below g8)
  have Lc := L8
  have Tc := Lib.hid (T0.out.below Lc.out)
  have a0 := a.out.2.1; have a1 := a.out.2.2
  have b0 := b.out.2.1; have b1 := b.out.2.2
  have c0 := c.out.2.1; have c1 := c.out.2.2
  go_wp2_with fail
  clear a0 a1 b0 b1 c0 c1
  refine (HD.out _ (Tc.out)).mono ?_; rintro e w9 ⟨rfl, g9⟩
  have L9 := Lib.hid (below_step Lc.out g9)
  have a := Lib.hid (a.out.below g9)
  have b := Lib.hid (b.out.below g9)
  have c := Lib.hid (c.out.below g9)
  have Lc := L9
  have d := Lib.hid (BoxAt.new w9 0 0)
  have a := Lib.hid (a.out.below (below_new w9 (.cells #[.int .i64 0, .int .i64 0] 25)))
  have b := Lib.hid (b.out.below (below_new w9 (.cells #[.int .i64 0, .int .i64 0] 25)))
  have c := Lib.hid (c.out.below (below_new w9 (.cells #[.int .i64 0, .int .i64 0] 25)))
  have Lc := Lib.hid (below_step L9.out (below_new w9 (.cells #[.int .i64 0, .int .i64 0] 25)))
  have Tc := Lib.hid (T0.out.below Lc.out)
  have a0 := a.out.2.1; have a1 := a.out.2.2
  have b0 := b.out.2.1; have b1 := b.out.2.2
  have c0 := c.out.2.1; have c1 := c.out.2.2
  have d0 := d.out.2.1; have d1 := d.out.2.2
  go_wp2_with fail
  clear a0 a1 b0 b1 c0 c1 d0 d1
  refine (HP.out _ (Tc.out)).mono ?_; rintro e w10 ⟨rfl, g10⟩
  have L10 := Lib.hid (below_step Lc.out g10)
  have a := Lib.hid (a.out.below g10)
  have b := Lib.hid (b.out.below g10)
  have c := Lib.hid (c.out.below g10)
  have d := Lib.hid (d.out.below g10)
  have Lc := L10
  have Tc := Lib.hid (T0.out.below Lc.out)
  have a0 := a.out.2.1; have a1 := a.out.2.2
  have b0 := b.out.2.1; have b1 := b.out.2.2
  have c0 := c.out.2.1; have c1 := c.out.2.2
  have d0 := d.out.2.1; have d1 := d.out.2.2
  go_wp2_with fail
  clear a0 a1 b0 b1 c0 c1 d0 d1
  refine (HQ.out _ (Tc.out)).mono ?_; rintro e w11 ⟨rfl, g11⟩
  have L11 := Lib.hid (below_step Lc.out g11)
  have a := Lib.hid (a.out.below g11)
  have b := Lib.hid (b.out.below g11)
  have c := Lib.hid (c.out.below g11)
  have d := Lib.hid (d.out.below g11)
  have Lc := L11
  have p := Lib.hid (BoxAt.new w11 (-3) 4)
  have a := Lib.hid (a.out.below (below_new w11 (.cells #[.int .i64 (-3), .int .i64 4] 25)))
  have b := Lib.hid (b.out.below (below_new w11 (.cells #[.int .i64 (-3), .int .i64 4] 25)))
  have c := Lib.hid (c.out.below (below_new w11 (.cells #[.int .i64 (-3), .int .i64 4] 25)))
  have d := Lib.hid (d.out.below (below_new w11 (.cells #[.int .i64 (-3), .int .i64 4] 25)))
  have Lc := Lib.hid (below_step L11.out (below_new w11 (.cells #[.int .i64 (-3), .int .i64 4] 25)))
  have Tc := Lib.hid (T0.out.below Lc.out)
  have a0 := a.out.2.1; have a1 := a.out.2.2
  have b0 := b.out.2.1; have b1 := b.out.2.2
  have c0 := c.out.2.1; have c1 := c.out.2.2
  have d0 := d.out.2.1; have d1 := d.out.2.2
  have p0 := p.out.2.1; have p1 := p.out.2.2
  go_wp2_with fail
  clear a0 a1 b0 b1 c0 c1 d0 d1 p0 p1
  refine (HN.out _ (Tc.out)).mono ?_; rintro e w12 ⟨rfl, g12⟩
  have L12 := Lib.hid (below_step Lc.out g12)
  have a := Lib.hid (a.out.below g12)
  have b := Lib.hid (b.out.below g12)
  have c := Lib.hid (c.out.below g12)
  have d := Lib.hid (d.out.below g12)
  have p := Lib.hid (p.out.below g12)
  have Lc := L12
  have q := Lib.hid (BoxAt.new w12 0 0)
  have a := Lib.hid (a.out.below (below_new w12 (.cells #[.int .i64 0, .int .i64 0] 25)))
  have b := Lib.hid (b.out.below (below_new w12 (.cells #[.int .i64 0, .int .i64 0] 25)))
  have c := Lib.hid (c.out.below (below_new w12 (.cells #[.int .i64 0, .int .i64 0] 25)))
  have d := Lib.hid (d.out.below (below_new w12 (.cells #[.int .i64 0, .int .i64 0] 25)))
  have p := Lib.hid (p.out.below (below_new w12 (.cells #[.int .i64 0, .int .i64 0] 25)))
  have Lc := Lib.hid (below_step L12.out (below_new w12 (.cells #[.int .i64 0, .int .i64 0] 25)))
  have Tc := Lib.hid (T0.out.below Lc.out)
  have a0 := a.out.2.1; have a1 := a.out.2.2
  have b0 := b.out.2.1; have b1 := b.out.2.2
  have c0 := c.out.2.1; have c1 := c.out.2.2
  have d0 := d.out.2.1; have d1 := d.out.2.2
  have p0 := p.out.2.1; have p1 := p.out.2.2
  have q0 := q.out.2.1; have q1 := q.out.2.2
  go_wp2_with fail
  clear a0 a1 b0 b1 c0 c1 d0 d1 p0 p1 q0 q1
  have HS : Hid (∀ u1 u2, (u1.cell? ⟨w1.heap.size, 0, none⟩ = some (.int .i64 (-3)) ∧ u1.cell? ⟨w1.heap.size, 1, none⟩ = some (.int .i64 4) ∧ u1.cell? ⟨w4.heap.size, 0, none⟩ = some (.int .i64 1) ∧ u1.cell? ⟨w4.heap.size, 1, none⟩ = some (.int .i64 2) ∧ u1.cell? ⟨w6.heap.size, 0, none⟩ = some (.int .i64 (-1)) ∧ u1.cell? ⟨w6.heap.size, 1, none⟩ = some (.int .i64 1) ∧ u1.cell? ⟨w11.heap.size, 0, none⟩ = some (.int .i64 (-3)) ∧ u1.cell? ⟨w11.heap.size, 1, none⟩ = some (.int .i64 4) ∧ Below w.heap.size w u1) → Below u1.heap.size u1 u2 → (u2.cell? ⟨w1.heap.size, 0, none⟩ = some (.int .i64 (-3)) ∧ u2.cell? ⟨w1.heap.size, 1, none⟩ = some (.int .i64 4) ∧ u2.cell? ⟨w4.heap.size, 0, none⟩ = some (.int .i64 1) ∧ u2.cell? ⟨w4.heap.size, 1, none⟩ = some (.int .i64 2) ∧ u2.cell? ⟨w6.heap.size, 0, none⟩ = some (.int .i64 (-1)) ∧ u2.cell? ⟨w6.heap.size, 1, none⟩ = some (.int .i64 1) ∧ u2.cell? ⟨w11.heap.size, 0, none⟩ = some (.int .i64 (-3)) ∧ u2.cell? ⟨w11.heap.size, 1, none⟩ = some (.int .i64 4) ∧ Below w.heap.size w u2)) :=
    Lib.hid fun u1 u2 ⟨s0, s1, s2, s3, s4, s5, s6, s7, s8⟩ hb => ⟨cell_below hb s0, cell_below hb s1, cell_below hb s2, cell_below hb s3, cell_below hb s4, cell_below hb s5, cell_below hb s6, cell_below hb s7, below_step s8 hb⟩
  simp only [List.append_eq, List.cons_append, List.nil_append]
  generalize w12.alloc (.cells #[.int .i64 0, .int .i64 0] 25) = W at *
  have H0 : Hid (W.cell? ⟨w1.heap.size, 0, none⟩ = some (.int .i64 (-3)) ∧ W.cell? ⟨w1.heap.size, 1, none⟩ = some (.int .i64 4) ∧ W.cell? ⟨w4.heap.size, 0, none⟩ = some (.int .i64 1) ∧ W.cell? ⟨w4.heap.size, 1, none⟩ = some (.int .i64 2) ∧ W.cell? ⟨w6.heap.size, 0, none⟩ = some (.int .i64 (-1)) ∧ W.cell? ⟨w6.heap.size, 1, none⟩ = some (.int .i64 1) ∧ W.cell? ⟨w11.heap.size, 0, none⟩ = some (.int .i64 (-3)) ∧ W.cell? ⟨w11.heap.size, 1, none⟩ = some (.int .i64 4) ∧ Below w.heap.size w W) := Lib.hid ⟨a.out.2.1, a.out.2.2, b.out.2.1, b.out.2.2, c.out.2.1, c.out.2.2, p.out.2.1, p.out.2.2, Lc.out⟩
  go_region_held3 (fun w' => w'.cell? ⟨w1.heap.size, 0, none⟩ = some (.int .i64 (-3)) ∧ w'.cell? ⟨w1.heap.size, 1, none⟩ = some (.int .i64 4) ∧ w'.cell? ⟨w4.heap.size, 0, none⟩ = some (.int .i64 1) ∧ w'.cell? ⟨w4.heap.size, 1, none⟩ = some (.int .i64 2) ∧ w'.cell? ⟨w6.heap.size, 0, none⟩ = some (.int .i64 (-1)) ∧ w'.cell? ⟨w6.heap.size, 1, none⟩ = some (.int .i64 1) ∧ w'.cell? ⟨w11.heap.size, 0, none⟩ = some (.int .i64 (-3)) ∧ w'.cell? ⟨w11.heap.size, 1, none⟩ = some (.int .i64 4) ∧ Below w.heap.size w w') (first | exact HS.out _ _ H0.out (Below.refl _ _).drew | exact HS.out _ _ (by assumption) hb4)
    (first
      | (go_at_call 7; ((with_reducible refine (HI.out _ _ _).mono ?_); rintro e w4 ⟨rfl, hb4⟩))
      | (go_at_call 20; ((with_reducible refine (HC.out _).mono ?_); rintro e w4 ⟨rfl, hb4⟩))
      | (go_at_call 22; ((with_reducible refine (HF.out _).mono ?_); rintro e w4 ⟨rfl, hb4⟩))
      | (go_at_call 24; ((with_reducible refine (HL.out _).mono ?_); rintro e w4 ⟨rfl, hb4⟩))
      | (go_at_call 18; (first | ((with_reducible refine (HV.out _).mono ?_); rintro e w4 ⟨rfl, hb4⟩) | ((with_reducible refine (HW.out _).mono ?_); rintro e w4 ⟨rfl, hb4⟩))))
  all_goals
    rename_i hh
    have HB := Lib.hid hh.2.2.2.2.2.2.2.2
    clear hh
    go_wp2_with fail
    go_ret
    exact ⟨rfl, HB.out⟩
end Go.Proofs.YtkkhmgcjaehnkaaGreatDoor
