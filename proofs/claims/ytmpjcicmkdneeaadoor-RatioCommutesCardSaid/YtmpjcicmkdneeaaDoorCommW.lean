/-
  The walk of RatioCommutes: sums and products do not depend on the order, nor on the grouping as far as all of them fit.
-/
import Derived.Test.YtmpjcicmkdneeaaDoorPairs
namespace Go.Proofs.YtmpjcicmkdneeaaDoor
open Go.RowKit Go.Shelf

theorem addR_comm (an ad bn bd : Int) : addR bn bd an ad = addR an ad bn bd := by
  unfold addR
  by_cases h : Ra.Ok an ad ∧ Ra.Ok bn bd
  · rw [if_pos h, if_pos ⟨h.2, h.1⟩, Ra.add_comm']
  · rw [if_neg h, if_neg fun h' => h ⟨h'.2, h'.1⟩]
theorem mulR_comm (an ad bn bd : Int) : mulR bn bd an ad = mulR an ad bn bd := by
  unfold mulR
  by_cases h : Ra.Ok an ad ∧ Ra.Ok bn bd
  · rw [if_pos h, if_pos ⟨h.2, h.1⟩, Ra.mul_comm']
  · rw [if_neg h, if_neg fun h' => h ⟨h'.2, h'.1⟩]
theorem addR_red {an ad bn bd : Int} (ha : Ra.Ok an ad) (hb : Ra.Ok bn bd) : addR an ad bn bd = Ra.red (an * bd + bn * ad) (ad * bd) := if_pos ⟨ha, hb⟩
theorem mulR_red {an ad bn bd : Int} (ha : Ra.Ok an ad) (hb : Ra.Ok bn bd) : mulR an ad bn bd = Ra.red (an * bn) (ad * bd) := if_pos ⟨ha, hb⟩
theorem addR_assoc {an ad bn bd cn cd p q r s : Int} (ha : Ra.Ok an ad) (hb : Ra.Ok bn bd) (hc : Ra.Ok cn cd) (h1 : addR an ad bn bd = some (p, q)) (h2 : addR bn bd cn cd = some (r, s)) : addR an ad r s = addR p q cn cd ∧ Ra.Ok p q ∧ Ra.Ok r s := by
  rw [addR_red ha hb] at h1; rw [addR_red hb hc] at h2
  have o1 := (Ra.red_ok h1).1; have o2 := (Ra.red_ok h2).1
  exact ⟨by rw [addR_red ha o2, addR_red o1 hc]; exact (Ra.add_assoc' ha hb hc h1 h2).symm, o1, o2⟩
theorem mulR_assoc {an ad bn bd cn cd p q r s : Int} (ha : Ra.Ok an ad) (hb : Ra.Ok bn bd) (hc : Ra.Ok cn cd) (h1 : mulR an ad bn bd = some (p, q)) (h2 : mulR bn bd cn cd = some (r, s)) : mulR an ad r s = mulR p q cn cd ∧ Ra.Ok p q ∧ Ra.Ok r s := by
  rw [mulR_red ha hb] at h1; rw [mulR_red hb hc] at h2
  have o1 := (Ra.red_ok h1).1; have o2 := (Ra.red_ok h2).1
  exact ⟨by rw [mulR_red ha o2, mulR_red o1 hc]; exact (Ra.mul_assoc' ha hb hc h1 h2).symm, o1, o2⟩

set_option maxRecDepth 100000 in
set_option maxHeartbeats 2000000 in
theorem commW_none (a b c d e f : Int) (w : World) (ad : Addr) (ht : Tab ad w) (fa : Fits a ∧ Fits b) (fc : Fits c ∧ Fits d) (fe : Fits e ∧ Fits f) (h : Ra.red a b = none ∨ Ra.red c d = none ∨ Ra.red e f = none) :
    Calls Tryd.prog 4 #[pairsV a b c d e f] w fun e' w' => e' = .returned (.bool true) ∧ Below w.heap.size w w' := by
  have hs := fun w ht => sane_any w ad ht
  have hm := fun w ht => made_none a b c d e f w ad ht fa fc fe h
  have HS := Lib.hid hs; have HM := Lib.hid hm; have T0 := Lib.hid ht
  clear hs hm ht fa fc fe h
  have R0 := Lib.hid (SixAt.new w 33 a b c d e f)
  go_enter Tryd.func4, Tryd.ntmps4
  go_wp2_with fail
  have Lc := Lib.hid (below_new w (.cells #[.int .i64 a, .int .i64 b, .int .i64 c, .int .i64 d, .int .i64 e, .int .i64 f] 33))
  have X := R0
  refine (HS.out _ (T0.out.below Lc.out)).mono ?_; rintro e w1 ⟨rfl, g1⟩
  have Lc := Lib.hid (below_step Lc.out g1)
  have X := Lib.hid (X.out.below g1)
  have X0 := X.out.c0
  have X1 := X.out.c1
  have X2 := X.out.c2
  have X3 := X.out.c3
  have X4 := X.out.c4
  have X5 := X.out.c5
  go_wp2_with fail
  clear X0 X1 X2 X3 X4 X5
  refine (HM.out _ (T0.out.below Lc.out)).mono ?_; rintro e' w2 ⟨p0, q0, p1, q1, p2, q2, rfl, g2⟩
  have Lc := Lib.hid (below_step Lc.out g2)
  have Lc := Lib.hid (below_step Lc.out (below_new w2 (.cells #[.int .i64 p0, .int .i64 q0, .int .i64 p1, .int .i64 q1, .int .i64 p2, .int .i64 q2] 34)))
  go_wp2_with fail
  go_ret
  exact ⟨rfl, Lc.out⟩

set_option maxRecDepth 100000 in
set_option maxHeartbeats 4000000 in
theorem commW_n_n (a b c d e f p0 q0 p1 q1 p2 q2 : Int) (w : World) (ad : Addr) (ht : Tab ad w) (fa : Fits a ∧ Fits b) (fc : Fits c ∧ Fits d) (fe : Fits e ∧ Fits f) (h3 : addR p0 q0 p1 q1 = none) (h5 : mulR p0 q0 p1 q1 = none) (h0 : Ra.red a b = some (p0, q0)) (h1 : Ra.red c d = some (p1, q1)) (h2 : Ra.red e f = some (p2, q2)) :
    Calls Tryd.prog 4 #[pairsV a b c d e f] w fun e' w' => e' = .returned (.bool true) ∧ Below w.heap.size w w' := by
  have o0 := (Ra.red_ok h0).1; have o1 := (Ra.red_ok h1).1; have o2 := (Ra.red_ok h2).1
  have F0 := ok_fits o0; have F1 := ok_fits o1; have F2 := ok_fits o2
  have hs := fun w ht => sane_any w ad ht
  have hm := fun w ht => made_yes a b c d e f p0 q0 p1 q1 p2 q2 w ad ht fa fc fe h0 h1 h2
  have HS := Lib.hid hs; have HM := Lib.hid hm; have T0 := Lib.hid ht
  have kAdd := addR_comm p0 q0 p1 q1
  have A1 := Lib.hid (Add_none (a := ad) h3 F0 F1)
  rw [h3] at kAdd
  have A2 := Lib.hid (Add_none (a := ad) kAdd F1 F0)
  obtain ⟨xn, xd, xe, -, tAdd⟩ := Add_gen p1 q1 p2 q2 ad F1 F2
  have A3 := Lib.hid tAdd
  have kMul := mulR_comm p0 q0 p1 q1
  have M1 := Lib.hid (Mul_none (a := ad) h5 F0 F1)
  rw [h5] at kMul
  have M2 := Lib.hid (Mul_none (a := ad) kMul F1 F0)
  obtain ⟨yn, yd, ye, -, tMul⟩ := Mul_gen p1 q1 p2 q2 ad F1 F2
  have M3 := Lib.hid tMul
  clear hs hm ht fa fc fe h0 h1 h2 h3 h5 o0 o1 o2 F0 F1 F2 kAdd tAdd kMul tMul
  have R0 := Lib.hid (SixAt.new w 33 a b c d e f)
  go_enter Tryd.func4, Tryd.ntmps4
  go_wp2_with fail
  have Lc := Lib.hid (below_new w (.cells #[.int .i64 a, .int .i64 b, .int .i64 c, .int .i64 d, .int .i64 e, .int .i64 f] 33))
  have X := R0
  refine (HS.out _ (T0.out.below Lc.out)).mono ?_; rintro e w1 ⟨rfl, g1⟩
  have Lc := Lib.hid (below_step Lc.out g1)
  have X := Lib.hid (X.out.below g1)
  have X0 := X.out.c0
  have X1 := X.out.c1
  have X2 := X.out.c2
  have X3 := X.out.c3
  have X4 := X.out.c4
  have X5 := X.out.c5
  go_wp2_with fail
  clear X0 X1 X2 X3 X4 X5
  refine (HM.out _ (T0.out.below Lc.out)).mono ?_; rintro e w2 ⟨rfl, g2⟩
  have Lc := Lib.hid (below_step Lc.out g2)
  have X := Lib.hid (X.out.below g2)
  have X := Lib.hid (X.out.below (below_new w2 (.cells #[.int .i64 p0, .int .i64 q0, .int .i64 p1, .int .i64 q1, .int .i64 p2, .int .i64 q2] 34)))
  have L := Lib.hid (SixAt.new w2 34 p0 q0 p1 q1 p2 q2)
  have Lc := Lib.hid (below_step Lc.out (below_new w2 (.cells #[.int .i64 p0, .int .i64 q0, .int .i64 p1, .int .i64 q1, .int .i64 p2, .int .i64 q2] 34)))
  have L0 := L.out.c0
  have L1 := L.out.c1
  have L2 := L.out.c2
  have L3 := L.out.c3
  have L4 := L.out.c4
  have L5 := L.out.c5
  go_wp2_with fail
  clear L0 L1 L2 L3 L4 L5
  refine (A1.out _ (T0.out.below Lc.out)).mono ?_; rintro e w3 ⟨rfl, g3⟩
  have Lc := Lib.hid (below_step Lc.out g3)
  have X := Lib.hid (X.out.below g3)
  have L := Lib.hid (L.out.below g3)
  have X := Lib.hid (X.out.below (below_new w3 (.cells #[.int .i64 0, .int .i64 0] 27)))
  have L := Lib.hid (L.out.below (below_new w3 (.cells #[.int .i64 0, .int .i64 0] 27)))
  have A := Lib.hid (BoxAt.new w3 0 0)
  have Lc := Lib.hid (below_step Lc.out (below_new w3 (.cells #[.int .i64 0, .int .i64 0] 27)))
  have L0 := L.out.c0
  have L1 := L.out.c1
  have L2 := L.out.c2
  have L3 := L.out.c3
  have L4 := L.out.c4
  have L5 := L.out.c5
  go_wp2_with fail
  clear L0 L1 L2 L3 L4 L5
  refine (A2.out _ (T0.out.below Lc.out)).mono ?_; rintro e w4 ⟨rfl, g4⟩
  have Lc := Lib.hid (below_step Lc.out g4)
  have X := Lib.hid (X.out.below g4)
  have L := Lib.hid (L.out.below g4)
  have A := Lib.hid (A.out.below g4)
  have X := Lib.hid (X.out.below (below_new w4 (.cells #[.int .i64 0, .int .i64 0] 27)))
  have L := Lib.hid (L.out.below (below_new w4 (.cells #[.int .i64 0, .int .i64 0] 27)))
  have A := Lib.hid (A.out.below (below_new w4 (.cells #[.int .i64 0, .int .i64 0] 27)))
  have B := Lib.hid (BoxAt.new w4 0 0)
  have Lc := Lib.hid (below_step Lc.out (below_new w4 (.cells #[.int .i64 0, .int .i64 0] 27)))
  have L0 := L.out.c0
  have L1 := L.out.c1
  have L2 := L.out.c2
  have L3 := L.out.c3
  have L4 := L.out.c4
  have L5 := L.out.c5
  go_wp2_with fail
  clear L0 L1 L2 L3 L4 L5
  refine (M1.out _ (T0.out.below Lc.out)).mono ?_; rintro e w5 ⟨rfl, g5⟩
  have Lc := Lib.hid (below_step Lc.out g5)
  have X := Lib.hid (X.out.below g5)
  have L := Lib.hid (L.out.below g5)
  have A := Lib.hid (A.out.below g5)
  have B := Lib.hid (B.out.below g5)
  have X := Lib.hid (X.out.below (below_new w5 (.cells #[.int .i64 0, .int .i64 0] 27)))
  have L := Lib.hid (L.out.below (below_new w5 (.cells #[.int .i64 0, .int .i64 0] 27)))
  have A := Lib.hid (A.out.below (below_new w5 (.cells #[.int .i64 0, .int .i64 0] 27)))
  have B := Lib.hid (B.out.below (below_new w5 (.cells #[.int .i64 0, .int .i64 0] 27)))
  have C := Lib.hid (BoxAt.new w5 0 0)
  have Lc := Lib.hid (below_step Lc.out (below_new w5 (.cells #[.int .i64 0, .int .i64 0] 27)))
  have L0 := L.out.c0
  have L1 := L.out.c1
  have L2 := L.out.c2
  have L3 := L.out.c3
  have L4 := L.out.c4
  have L5 := L.out.c5
  go_wp2_with fail
  clear L0 L1 L2 L3 L4 L5
  refine (M2.out _ (T0.out.below Lc.out)).mono ?_; rintro e w6 ⟨rfl, g6⟩
  have Lc := Lib.hid (below_step Lc.out g6)
  have X := Lib.hid (X.out.below g6)
  have L := Lib.hid (L.out.below g6)
  have A := Lib.hid (A.out.below g6)
  have B := Lib.hid (B.out.below g6)
  have C := Lib.hid (C.out.below g6)
  have X := Lib.hid (X.out.below (below_new w6 (.cells #[.int .i64 0, .int .i64 0] 27)))
  have L := Lib.hid (L.out.below (below_new w6 (.cells #[.int .i64 0, .int .i64 0] 27)))
  have A := Lib.hid (A.out.below (below_new w6 (.cells #[.int .i64 0, .int .i64 0] 27)))
  have B := Lib.hid (B.out.below (below_new w6 (.cells #[.int .i64 0, .int .i64 0] 27)))
  have C := Lib.hid (C.out.below (below_new w6 (.cells #[.int .i64 0, .int .i64 0] 27)))
  have D := Lib.hid (BoxAt.new w6 0 0)
  have Lc := Lib.hid (below_step Lc.out (below_new w6 (.cells #[.int .i64 0, .int .i64 0] 27)))
  have L0 := L.out.c0
  have L1 := L.out.c1
  have L2 := L.out.c2
  have L3 := L.out.c3
  have L4 := L.out.c4
  have L5 := L.out.c5
  have A0 := A.out.2.1; have A1 := A.out.2.2
  have B0 := B.out.2.1; have B1 := B.out.2.2
  have C0 := C.out.2.1; have C1 := C.out.2.2
  have D0 := D.out.2.1; have D1 := D.out.2.2
  go_wp2_with fail
  clear L0 L1 L2 L3 L4 L5 A0 A1 B0 B1 C0 C1 D0 D1
  refine (A3.out _ (T0.out.below Lc.out)).mono ?_; rintro e w7 ⟨rfl, g7⟩
  have Lc := Lib.hid (below_step Lc.out g7)
  have X := Lib.hid (X.out.below g7)
  have L := Lib.hid (L.out.below g7)
  have A := Lib.hid (A.out.below g7)
  have B := Lib.hid (B.out.below g7)
  have C := Lib.hid (C.out.below g7)
  have D := Lib.hid (D.out.below g7)
  have X := Lib.hid (X.out.below (below_new w7 (.cells #[.int .i64 xn, .int .i64 xd] 27)))
  have L := Lib.hid (L.out.below (below_new w7 (.cells #[.int .i64 xn, .int .i64 xd] 27)))
  have A := Lib.hid (A.out.below (below_new w7 (.cells #[.int .i64 xn, .int .i64 xd] 27)))
  have B := Lib.hid (B.out.below (below_new w7 (.cells #[.int .i64 xn, .int .i64 xd] 27)))
  have C := Lib.hid (C.out.below (below_new w7 (.cells #[.int .i64 xn, .int .i64 xd] 27)))
  have D := Lib.hid (D.out.below (below_new w7 (.cells #[.int .i64 xn, .int .i64 xd] 27)))
  have I := Lib.hid (BoxAt.new w7 xn xd)
  have Lc := Lib.hid (below_step Lc.out (below_new w7 (.cells #[.int .i64 xn, .int .i64 xd] 27)))
  have L0 := L.out.c0
  have L1 := L.out.c1
  have L2 := L.out.c2
  have L3 := L.out.c3
  have L4 := L.out.c4
  have L5 := L.out.c5
  go_wp2_with fail
  clear L0 L1 L2 L3 L4 L5
  refine (M3.out _ (T0.out.below Lc.out)).mono ?_; rintro e w8 ⟨rfl, g8⟩
  have Lc := Lib.hid (below_step Lc.out g8)
  have X := Lib.hid (X.out.below g8)
  have L := Lib.hid (L.out.below g8)
  have A := Lib.hid (A.out.below g8)
  have B := Lib.hid (B.out.below g8)
  have C := Lib.hid (C.out.below g8)
  have D := Lib.hid (D.out.below g8)
  have I := Lib.hid (I.out.below g8)
  have X := Lib.hid (X.out.below (below_new w8 (.cells #[.int .i64 yn, .int .i64 yd] 27)))
  have L := Lib.hid (L.out.below (below_new w8 (.cells #[.int .i64 yn, .int .i64 yd] 27)))
  have A := Lib.hid (A.out.below (below_new w8 (.cells #[.int .i64 yn, .int .i64 yd] 27)))
  have B := Lib.hid (B.out.below (below_new w8 (.cells #[.int .i64 yn, .int .i64 yd] 27)))
  have C := Lib.hid (C.out.below (below_new w8 (.cells #[.int .i64 yn, .int .i64 yd] 27)))
  have D := Lib.hid (D.out.below (below_new w8 (.cells #[.int .i64 yn, .int .i64 yd] 27)))
  have I := Lib.hid (I.out.below (below_new w8 (.cells #[.int .i64 yn, .int .i64 yd] 27)))
  have J := Lib.hid (BoxAt.new w8 yn yd)
  have Lc := Lib.hid (below_step Lc.out (below_new w8 (.cells #[.int .i64 yn, .int .i64 yd] 27)))
  go_wp2_with fail
  go_ret
  exact ⟨rfl, Lc.out⟩

set_option maxRecDepth 100000 in
set_option maxHeartbeats 4000000 in
theorem commW_n_sn (a b c d e f p0 q0 p1 q1 p2 q2 : Int) (w : World) (ad : Addr) (ht : Tab ad w) (fa : Fits a ∧ Fits b) (fc : Fits c ∧ Fits d) (fe : Fits e ∧ Fits f) (h3 : addR p0 q0 p1 q1 = none) (cn cd : Int) (h5 : mulR p0 q0 p1 q1 = some (cn, cd)) (h6 : mulR p1 q1 p2 q2 = none) (h0 : Ra.red a b = some (p0, q0)) (h1 : Ra.red c d = some (p1, q1)) (h2 : Ra.red e f = some (p2, q2)) :
    Calls Tryd.prog 4 #[pairsV a b c d e f] w fun e' w' => e' = .returned (.bool true) ∧ Below w.heap.size w w' := by
  have o0 := (Ra.red_ok h0).1; have o1 := (Ra.red_ok h1).1; have o2 := (Ra.red_ok h2).1
  have F0 := ok_fits o0; have F1 := ok_fits o1; have F2 := ok_fits o2
  have hs := fun w ht => sane_any w ad ht
  have hm := fun w ht => made_yes a b c d e f p0 q0 p1 q1 p2 q2 w ad ht fa fc fe h0 h1 h2
  have HS := Lib.hid hs; have HM := Lib.hid hm; have T0 := Lib.hid ht
  have kAdd := addR_comm p0 q0 p1 q1
  have A1 := Lib.hid (Add_none (a := ad) h3 F0 F1)
  rw [h3] at kAdd
  have A2 := Lib.hid (Add_none (a := ad) kAdd F1 F0)
  obtain ⟨xn, xd, xe, -, tAdd⟩ := Add_gen p1 q1 p2 q2 ad F1 F2
  have A3 := Lib.hid tAdd
  have kMul := mulR_comm p0 q0 p1 q1
  have M1 := Lib.hid (Mul_some (a := ad) h5 F0 F1)
  rw [h5] at kMul
  have M2 := Lib.hid (Mul_some (a := ad) kMul F1 F0)
  have M3 := Lib.hid (Mul_none (a := ad) h6 F1 F2)
  clear hs hm ht fa fc fe h0 h1 h2 h3 h5 o0 o1 o2 F0 F1 F2 kAdd tAdd kMul h6
  have R0 := Lib.hid (SixAt.new w 33 a b c d e f)
  go_enter Tryd.func4, Tryd.ntmps4
  go_wp2_with fail
  have Lc := Lib.hid (below_new w (.cells #[.int .i64 a, .int .i64 b, .int .i64 c, .int .i64 d, .int .i64 e, .int .i64 f] 33))
  have X := R0
  refine (HS.out _ (T0.out.below Lc.out)).mono ?_; rintro e w1 ⟨rfl, g1⟩
  have Lc := Lib.hid (below_step Lc.out g1)
  have X := Lib.hid (X.out.below g1)
  have X0 := X.out.c0
  have X1 := X.out.c1
  have X2 := X.out.c2
  have X3 := X.out.c3
  have X4 := X.out.c4
  have X5 := X.out.c5
  go_wp2_with fail
  clear X0 X1 X2 X3 X4 X5
  refine (HM.out _ (T0.out.below Lc.out)).mono ?_; rintro e w2 ⟨rfl, g2⟩
  have Lc := Lib.hid (below_step Lc.out g2)
  have X := Lib.hid (X.out.below g2)
  have X := Lib.hid (X.out.below (below_new w2 (.cells #[.int .i64 p0, .int .i64 q0, .int .i64 p1, .int .i64 q1, .int .i64 p2, .int .i64 q2] 34)))
  have L := Lib.hid (SixAt.new w2 34 p0 q0 p1 q1 p2 q2)
  have Lc := Lib.hid (below_step Lc.out (below_new w2 (.cells #[.int .i64 p0, .int .i64 q0, .int .i64 p1, .int .i64 q1, .int .i64 p2, .int .i64 q2] 34)))
  have L0 := L.out.c0
  have L1 := L.out.c1
  have L2 := L.out.c2
  have L3 := L.out.c3
  have L4 := L.out.c4
  have L5 := L.out.c5
  go_wp2_with fail
  clear L0 L1 L2 L3 L4 L5
  refine (A1.out _ (T0.out.below Lc.out)).mono ?_; rintro e w3 ⟨rfl, g3⟩
  have Lc := Lib.hid (below_step Lc.out g3)
  have X := Lib.hid (X.out.below g3)
  have L := Lib.hid (L.out.below g3)
  have X := Lib.hid (X.out.below (below_new w3 (.cells #[.int .i64 0, .int .i64 0] 27)))
  have L := Lib.hid (L.out.below (below_new w3 (.cells #[.int .i64 0, .int .i64 0] 27)))
  have A := Lib.hid (BoxAt.new w3 0 0)
  have Lc := Lib.hid (below_step Lc.out (below_new w3 (.cells #[.int .i64 0, .int .i64 0] 27)))
  have L0 := L.out.c0
  have L1 := L.out.c1
  have L2 := L.out.c2
  have L3 := L.out.c3
  have L4 := L.out.c4
  have L5 := L.out.c5
  go_wp2_with fail
  clear L0 L1 L2 L3 L4 L5
  refine (A2.out _ (T0.out.below Lc.out)).mono ?_; rintro e w4 ⟨rfl, g4⟩
  have Lc := Lib.hid (below_step Lc.out g4)
  have X := Lib.hid (X.out.below g4)
  have L := Lib.hid (L.out.below g4)
  have A := Lib.hid (A.out.below g4)
  have X := Lib.hid (X.out.below (below_new w4 (.cells #[.int .i64 0, .int .i64 0] 27)))
  have L := Lib.hid (L.out.below (below_new w4 (.cells #[.int .i64 0, .int .i64 0] 27)))
  have A := Lib.hid (A.out.below (below_new w4 (.cells #[.int .i64 0, .int .i64 0] 27)))
  have B := Lib.hid (BoxAt.new w4 0 0)
  have Lc := Lib.hid (below_step Lc.out (below_new w4 (.cells #[.int .i64 0, .int .i64 0] 27)))
  have L0 := L.out.c0
  have L1 := L.out.c1
  have L2 := L.out.c2
  have L3 := L.out.c3
  have L4 := L.out.c4
  have L5 := L.out.c5
  go_wp2_with fail
  clear L0 L1 L2 L3 L4 L5
  refine (M1.out _ (T0.out.below Lc.out)).mono ?_; rintro e w5 ⟨rfl, g5⟩
  have Lc := Lib.hid (below_step Lc.out g5)
  have X := Lib.hid (X.out.below g5)
  have L := Lib.hid (L.out.below g5)
  have A := Lib.hid (A.out.below g5)
  have B := Lib.hid (B.out.below g5)
  have X := Lib.hid (X.out.below (below_new w5 (.cells #[.int .i64 cn, .int .i64 cd] 27)))
  have L := Lib.hid (L.out.below (below_new w5 (.cells #[.int .i64 cn, .int .i64 cd] 27)))
  have A := Lib.hid (A.out.below (below_new w5 (.cells #[.int .i64 cn, .int .i64 cd] 27)))
  have B := Lib.hid (B.out.below (below_new w5 (.cells #[.int .i64 cn, .int .i64 cd] 27)))
  have C := Lib.hid (BoxAt.new w5 cn cd)
  have Lc := Lib.hid (below_step Lc.out (below_new w5 (.cells #[.int .i64 cn, .int .i64 cd] 27)))
  have L0 := L.out.c0
  have L1 := L.out.c1
  have L2 := L.out.c2
  have L3 := L.out.c3
  have L4 := L.out.c4
  have L5 := L.out.c5
  go_wp2_with fail
  clear L0 L1 L2 L3 L4 L5
  refine (M2.out _ (T0.out.below Lc.out)).mono ?_; rintro e w6 ⟨rfl, g6⟩
  have Lc := Lib.hid (below_step Lc.out g6)
  have X := Lib.hid (X.out.below g6)
  have L := Lib.hid (L.out.below g6)
  have A := Lib.hid (A.out.below g6)
  have B := Lib.hid (B.out.below g6)
  have C := Lib.hid (C.out.below g6)
  have X := Lib.hid (X.out.below (below_new w6 (.cells #[.int .i64 cn, .int .i64 cd] 27)))
  have L := Lib.hid (L.out.below (below_new w6 (.cells #[.int .i64 cn, .int .i64 cd] 27)))
  have A := Lib.hid (A.out.below (below_new w6 (.cells #[.int .i64 cn, .int .i64 cd] 27)))
  have B := Lib.hid (B.out.below (below_new w6 (.cells #[.int .i64 cn, .int .i64 cd] 27)))
  have C := Lib.hid (C.out.below (below_new w6 (.cells #[.int .i64 cn, .int .i64 cd] 27)))
  have D := Lib.hid (BoxAt.new w6 cn cd)
  have Lc := Lib.hid (below_step Lc.out (below_new w6 (.cells #[.int .i64 cn, .int .i64 cd] 27)))
  have L0 := L.out.c0
  have L1 := L.out.c1
  have L2 := L.out.c2
  have L3 := L.out.c3
  have L4 := L.out.c4
  have L5 := L.out.c5
  have A0 := A.out.2.1; have A1 := A.out.2.2
  have B0 := B.out.2.1; have B1 := B.out.2.2
  have C0 := C.out.2.1; have C1 := C.out.2.2
  have D0 := D.out.2.1; have D1 := D.out.2.2
  go_wp2_with fail
  clear L0 L1 L2 L3 L4 L5 A0 A1 B0 B1 C0 C1 D0 D1
  refine (A3.out _ (T0.out.below Lc.out)).mono ?_; rintro e w7 ⟨rfl, g7⟩
  have Lc := Lib.hid (below_step Lc.out g7)
  have X := Lib.hid (X.out.below g7)
  have L := Lib.hid (L.out.below g7)
  have A := Lib.hid (A.out.below g7)
  have B := Lib.hid (B.out.below g7)
  have C := Lib.hid (C.out.below g7)
  have D := Lib.hid (D.out.below g7)
  have X := Lib.hid (X.out.below (below_new w7 (.cells #[.int .i64 xn, .int .i64 xd] 27)))
  have L := Lib.hid (L.out.below (below_new w7 (.cells #[.int .i64 xn, .int .i64 xd] 27)))
  have A := Lib.hid (A.out.below (below_new w7 (.cells #[.int .i64 xn, .int .i64 xd] 27)))
  have B := Lib.hid (B.out.below (below_new w7 (.cells #[.int .i64 xn, .int .i64 xd] 27)))
  have C := Lib.hid (C.out.below (below_new w7 (.cells #[.int .i64 xn, .int .i64 xd] 27)))
  have D := Lib.hid (D.out.below (below_new w7 (.cells #[.int .i64 xn, .int .i64 xd] 27)))
  have I := Lib.hid (BoxAt.new w7 xn xd)
  have Lc := Lib.hid (below_step Lc.out (below_new w7 (.cells #[.int .i64 xn, .int .i64 xd] 27)))
  have L0 := L.out.c0
  have L1 := L.out.c1
  have L2 := L.out.c2
  have L3 := L.out.c3
  have L4 := L.out.c4
  have L5 := L.out.c5
  go_wp2_with fail
  clear L0 L1 L2 L3 L4 L5
  refine (M3.out _ (T0.out.below Lc.out)).mono ?_; rintro e w8 ⟨rfl, g8⟩
  have Lc := Lib.hid (below_step Lc.out g8)
  have X := Lib.hid (X.out.below g8)
  have L := Lib.hid (L.out.below g8)
  have A := Lib.hid (A.out.below g8)
  have B := Lib.hid (B.out.below g8)
  have C := Lib.hid (C.out.below g8)
  have D := Lib.hid (D.out.below g8)
  have I := Lib.hid (I.out.below g8)
  have X := Lib.hid (X.out.below (below_new w8 (.cells #[.int .i64 0, .int .i64 0] 27)))
  have L := Lib.hid (L.out.below (below_new w8 (.cells #[.int .i64 0, .int .i64 0] 27)))
  have A := Lib.hid (A.out.below (below_new w8 (.cells #[.int .i64 0, .int .i64 0] 27)))
  have B := Lib.hid (B.out.below (below_new w8 (.cells #[.int .i64 0, .int .i64 0] 27)))
  have C := Lib.hid (C.out.below (below_new w8 (.cells #[.int .i64 0, .int .i64 0] 27)))
  have D := Lib.hid (D.out.below (below_new w8 (.cells #[.int .i64 0, .int .i64 0] 27)))
  have I := Lib.hid (I.out.below (below_new w8 (.cells #[.int .i64 0, .int .i64 0] 27)))
  have J := Lib.hid (BoxAt.new w8 0 0)
  have Lc := Lib.hid (below_step Lc.out (below_new w8 (.cells #[.int .i64 0, .int .i64 0] 27)))
  go_wp2_with fail
  go_ret
  exact ⟨rfl, Lc.out⟩

set_option maxRecDepth 100000 in
set_option maxHeartbeats 4000000 in
theorem commW_n_ss (a b c d e f p0 q0 p1 q1 p2 q2 : Int) (w : World) (ad : Addr) (ht : Tab ad w) (fa : Fits a ∧ Fits b) (fc : Fits c ∧ Fits d) (fe : Fits e ∧ Fits f) (h3 : addR p0 q0 p1 q1 = none) (cn cd : Int) (h5 : mulR p0 q0 p1 q1 = some (cn, cd)) (yn yd : Int) (h6 : mulR p1 q1 p2 q2 = some (yn, yd)) (h0 : Ra.red a b = some (p0, q0)) (h1 : Ra.red c d = some (p1, q1)) (h2 : Ra.red e f = some (p2, q2)) :
    Calls Tryd.prog 4 #[pairsV a b c d e f] w fun e' w' => e' = .returned (.bool true) ∧ Below w.heap.size w w' := by
  have o0 := (Ra.red_ok h0).1; have o1 := (Ra.red_ok h1).1; have o2 := (Ra.red_ok h2).1
  have F0 := ok_fits o0; have F1 := ok_fits o1; have F2 := ok_fits o2
  have hs := fun w ht => sane_any w ad ht
  have hm := fun w ht => made_yes a b c d e f p0 q0 p1 q1 p2 q2 w ad ht fa fc fe h0 h1 h2
  have HS := Lib.hid hs; have HM := Lib.hid hm; have T0 := Lib.hid ht
  have kAdd := addR_comm p0 q0 p1 q1
  have A1 := Lib.hid (Add_none (a := ad) h3 F0 F1)
  rw [h3] at kAdd
  have A2 := Lib.hid (Add_none (a := ad) kAdd F1 F0)
  obtain ⟨xn, xd, xe, -, tAdd⟩ := Add_gen p1 q1 p2 q2 ad F1 F2
  have A3 := Lib.hid tAdd
  have kMul := mulR_comm p0 q0 p1 q1
  have M1 := Lib.hid (Mul_some (a := ad) h5 F0 F1)
  rw [h5] at kMul
  have M2 := Lib.hid (Mul_some (a := ad) kMul F1 F0)
  have M3 := Lib.hid (Mul_some (a := ad) h6 F1 F2)
  obtain ⟨eMul, uMul, vMul⟩ := mulR_assoc o0 o1 o2 h5 h6
  obtain ⟨mMuln, mMuld, mMule, rMul, tMul⟩ := Mul_gen cn cd p2 q2 ad (ok_fits uMul) F2
  have zMul := fun w (ht : Tab ad w) => Mul_any p0 q0 yn yd w ad ht.err F0 (ok_fits vMul)
  rw [eMul, rMul] at zMul
  have M4 := Lib.hid tMul; have M5 := Lib.hid zMul
  clear hs hm ht fa fc fe h0 h1 h2 h3 h5 o0 o1 o2 F0 F1 F2 kAdd tAdd kMul h6 eMul uMul vMul rMul tMul zMul
  have R0 := Lib.hid (SixAt.new w 33 a b c d e f)
  go_enter Tryd.func4, Tryd.ntmps4
  go_wp2_with fail
  have Lc := Lib.hid (below_new w (.cells #[.int .i64 a, .int .i64 b, .int .i64 c, .int .i64 d, .int .i64 e, .int .i64 f] 33))
  have X := R0
  refine (HS.out _ (T0.out.below Lc.out)).mono ?_; rintro e w1 ⟨rfl, g1⟩
  have Lc := Lib.hid (below_step Lc.out g1)
  have X := Lib.hid (X.out.below g1)
  have X0 := X.out.c0
  have X1 := X.out.c1
  have X2 := X.out.c2
  have X3 := X.out.c3
  have X4 := X.out.c4
  have X5 := X.out.c5
  go_wp2_with fail
  clear X0 X1 X2 X3 X4 X5
  refine (HM.out _ (T0.out.below Lc.out)).mono ?_; rintro e w2 ⟨rfl, g2⟩
  have Lc := Lib.hid (below_step Lc.out g2)
  have X := Lib.hid (X.out.below g2)
  have X := Lib.hid (X.out.below (below_new w2 (.cells #[.int .i64 p0, .int .i64 q0, .int .i64 p1, .int .i64 q1, .int .i64 p2, .int .i64 q2] 34)))
  have L := Lib.hid (SixAt.new w2 34 p0 q0 p1 q1 p2 q2)
  have Lc := Lib.hid (below_step Lc.out (below_new w2 (.cells #[.int .i64 p0, .int .i64 q0, .int .i64 p1, .int .i64 q1, .int .i64 p2, .int .i64 q2] 34)))
  have L0 := L.out.c0
  have L1 := L.out.c1
  have L2 := L.out.c2
  have L3 := L.out.c3
  have L4 := L.out.c4
  have L5 := L.out.c5
  go_wp2_with fail
  clear L0 L1 L2 L3 L4 L5
  refine (A1.out _ (T0.out.below Lc.out)).mono ?_; rintro e w3 ⟨rfl, g3⟩
  have Lc := Lib.hid (below_step Lc.out g3)
  have X := Lib.hid (X.out.below g3)
  have L := Lib.hid (L.out.below g3)
  have X := Lib.hid (X.out.below (below_new w3 (.cells #[.int .i64 0, .int .i64 0] 27)))
  have L := Lib.hid (L.out.below (below_new w3 (.cells #[.int .i64 0, .int .i64 0] 27)))
  have A := Lib.hid (BoxAt.new w3 0 0)
  have Lc := Lib.hid (below_step Lc.out (below_new w3 (.cells #[.int .i64 0, .int .i64 0] 27)))
  have L0 := L.out.c0
  have L1 := L.out.c1
  have L2 := L.out.c2
  have L3 := L.out.c3
  have L4 := L.out.c4
  have L5 := L.out.c5
  go_wp2_with fail
  clear L0 L1 L2 L3 L4 L5
  refine (A2.out _ (T0.out.below Lc.out)).mono ?_; rintro e w4 ⟨rfl, g4⟩
  have Lc := Lib.hid (below_step Lc.out g4)
  have X := Lib.hid (X.out.below g4)
  have L := Lib.hid (L.out.below g4)
  have A := Lib.hid (A.out.below g4)
  have X := Lib.hid (X.out.below (below_new w4 (.cells #[.int .i64 0, .int .i64 0] 27)))
  have L := Lib.hid (L.out.below (below_new w4 (.cells #[.int .i64 0, .int .i64 0] 27)))
  have A := Lib.hid (A.out.below (below_new w4 (.cells #[.int .i64 0, .int .i64 0] 27)))
  have B := Lib.hid (BoxAt.new w4 0 0)
  have Lc := Lib.hid (below_step Lc.out (below_new w4 (.cells #[.int .i64 0, .int .i64 0] 27)))
  have L0 := L.out.c0
  have L1 := L.out.c1
  have L2 := L.out.c2
  have L3 := L.out.c3
  have L4 := L.out.c4
  have L5 := L.out.c5
  go_wp2_with fail
  clear L0 L1 L2 L3 L4 L5
  refine (M1.out _ (T0.out.below Lc.out)).mono ?_; rintro e w5 ⟨rfl, g5⟩
  have Lc := Lib.hid (below_step Lc.out g5)
  have X := Lib.hid (X.out.below g5)
  have L := Lib.hid (L.out.below g5)
  have A := Lib.hid (A.out.below g5)
  have B := Lib.hid (B.out.below g5)
  have X := Lib.hid (X.out.below (below_new w5 (.cells #[.int .i64 cn, .int .i64 cd] 27)))
  have L := Lib.hid (L.out.below (below_new w5 (.cells #[.int .i64 cn, .int .i64 cd] 27)))
  have A := Lib.hid (A.out.below (below_new w5 (.cells #[.int .i64 cn, .int .i64 cd] 27)))
  have B := Lib.hid (B.out.below (below_new w5 (.cells #[.int .i64 cn, .int .i64 cd] 27)))
  have C := Lib.hid (BoxAt.new w5 cn cd)
  have Lc := Lib.hid (below_step Lc.out (below_new w5 (.cells #[.int .i64 cn, .int .i64 cd] 27)))
  have L0 := L.out.c0
  have L1 := L.out.c1
  have L2 := L.out.c2
  have L3 := L.out.c3
  have L4 := L.out.c4
  have L5 := L.out.c5
  go_wp2_with fail
  clear L0 L1 L2 L3 L4 L5
  refine (M2.out _ (T0.out.below Lc.out)).mono ?_; rintro e w6 ⟨rfl, g6⟩
  have Lc := Lib.hid (below_step Lc.out g6)
  have X := Lib.hid (X.out.below g6)
  have L := Lib.hid (L.out.below g6)
  have A := Lib.hid (A.out.below g6)
  have B := Lib.hid (B.out.below g6)
  have C := Lib.hid (C.out.below g6)
  have X := Lib.hid (X.out.below (below_new w6 (.cells #[.int .i64 cn, .int .i64 cd] 27)))
  have L := Lib.hid (L.out.below (below_new w6 (.cells #[.int .i64 cn, .int .i64 cd] 27)))
  have A := Lib.hid (A.out.below (below_new w6 (.cells #[.int .i64 cn, .int .i64 cd] 27)))
  have B := Lib.hid (B.out.below (below_new w6 (.cells #[.int .i64 cn, .int .i64 cd] 27)))
  have C := Lib.hid (C.out.below (below_new w6 (.cells #[.int .i64 cn, .int .i64 cd] 27)))
  have D := Lib.hid (BoxAt.new w6 cn cd)
  have Lc := Lib.hid (below_step Lc.out (below_new w6 (.cells #[.int .i64 cn, .int .i64 cd] 27)))
  have L0 := L.out.c0
  have L1 := L.out.c1
  have L2 := L.out.c2
  have L3 := L.out.c3
  have L4 := L.out.c4
  have L5 := L.out.c5
  have A0 := A.out.2.1; have A1 := A.out.2.2
  have B0 := B.out.2.1; have B1 := B.out.2.2
  have C0 := C.out.2.1; have C1 := C.out.2.2
  have D0 := D.out.2.1; have D1 := D.out.2.2
  go_wp2_with fail
  clear L0 L1 L2 L3 L4 L5 A0 A1 B0 B1 C0 C1 D0 D1
  refine (A3.out _ (T0.out.below Lc.out)).mono ?_; rintro e w7 ⟨rfl, g7⟩
  have Lc := Lib.hid (below_step Lc.out g7)
  have X := Lib.hid (X.out.below g7)
  have L := Lib.hid (L.out.below g7)
  have A := Lib.hid (A.out.below g7)
  have B := Lib.hid (B.out.below g7)
  have C := Lib.hid (C.out.below g7)
  have D := Lib.hid (D.out.below g7)
  have X := Lib.hid (X.out.below (below_new w7 (.cells #[.int .i64 xn, .int .i64 xd] 27)))
  have L := Lib.hid (L.out.below (below_new w7 (.cells #[.int .i64 xn, .int .i64 xd] 27)))
  have A := Lib.hid (A.out.below (below_new w7 (.cells #[.int .i64 xn, .int .i64 xd] 27)))
  have B := Lib.hid (B.out.below (below_new w7 (.cells #[.int .i64 xn, .int .i64 xd] 27)))
  have C := Lib.hid (C.out.below (below_new w7 (.cells #[.int .i64 xn, .int .i64 xd] 27)))
  have D := Lib.hid (D.out.below (below_new w7 (.cells #[.int .i64 xn, .int .i64 xd] 27)))
  have I := Lib.hid (BoxAt.new w7 xn xd)
  have Lc := Lib.hid (below_step Lc.out (below_new w7 (.cells #[.int .i64 xn, .int .i64 xd] 27)))
  have L0 := L.out.c0
  have L1 := L.out.c1
  have L2 := L.out.c2
  have L3 := L.out.c3
  have L4 := L.out.c4
  have L5 := L.out.c5
  go_wp2_with fail
  clear L0 L1 L2 L3 L4 L5
  refine (M3.out _ (T0.out.below Lc.out)).mono ?_; rintro e w8 ⟨rfl, g8⟩
  have Lc := Lib.hid (below_step Lc.out g8)
  have X := Lib.hid (X.out.below g8)
  have L := Lib.hid (L.out.below g8)
  have A := Lib.hid (A.out.below g8)
  have B := Lib.hid (B.out.below g8)
  have C := Lib.hid (C.out.below g8)
  have D := Lib.hid (D.out.below g8)
  have I := Lib.hid (I.out.below g8)
  have X := Lib.hid (X.out.below (below_new w8 (.cells #[.int .i64 yn, .int .i64 yd] 27)))
  have L := Lib.hid (L.out.below (below_new w8 (.cells #[.int .i64 yn, .int .i64 yd] 27)))
  have A := Lib.hid (A.out.below (below_new w8 (.cells #[.int .i64 yn, .int .i64 yd] 27)))
  have B := Lib.hid (B.out.below (below_new w8 (.cells #[.int .i64 yn, .int .i64 yd] 27)))
  have C := Lib.hid (C.out.below (below_new w8 (.cells #[.int .i64 yn, .int .i64 yd] 27)))
  have D := Lib.hid (D.out.below (below_new w8 (.cells #[.int .i64 yn, .int .i64 yd] 27)))
  have I := Lib.hid (I.out.below (below_new w8 (.cells #[.int .i64 yn, .int .i64 yd] 27)))
  have J := Lib.hid (BoxAt.new w8 yn yd)
  have Lc := Lib.hid (below_step Lc.out (below_new w8 (.cells #[.int .i64 yn, .int .i64 yd] 27)))
  have L0 := L.out.c0
  have L1 := L.out.c1
  have L2 := L.out.c2
  have L3 := L.out.c3
  have L4 := L.out.c4
  have L5 := L.out.c5
  have C0 := C.out.2.1; have C1 := C.out.2.2
  go_wp2_with fail
  clear L0 L1 L2 L3 L4 L5 C0 C1
  refine (M4.out _ (T0.out.below Lc.out)).mono ?_; rintro e w9 ⟨rfl, g9⟩
  have Lc := Lib.hid (below_step Lc.out g9)
  have X := Lib.hid (X.out.below g9)
  have L := Lib.hid (L.out.below g9)
  have A := Lib.hid (A.out.below g9)
  have B := Lib.hid (B.out.below g9)
  have C := Lib.hid (C.out.below g9)
  have D := Lib.hid (D.out.below g9)
  have I := Lib.hid (I.out.below g9)
  have J := Lib.hid (J.out.below g9)
  have X := Lib.hid (X.out.below (below_new w9 (.cells #[.int .i64 mMuln, .int .i64 mMuld] 27)))
  have L := Lib.hid (L.out.below (below_new w9 (.cells #[.int .i64 mMuln, .int .i64 mMuld] 27)))
  have A := Lib.hid (A.out.below (below_new w9 (.cells #[.int .i64 mMuln, .int .i64 mMuld] 27)))
  have B := Lib.hid (B.out.below (below_new w9 (.cells #[.int .i64 mMuln, .int .i64 mMuld] 27)))
  have C := Lib.hid (C.out.below (below_new w9 (.cells #[.int .i64 mMuln, .int .i64 mMuld] 27)))
  have D := Lib.hid (D.out.below (below_new w9 (.cells #[.int .i64 mMuln, .int .i64 mMuld] 27)))
  have I := Lib.hid (I.out.below (below_new w9 (.cells #[.int .i64 mMuln, .int .i64 mMuld] 27)))
  have J := Lib.hid (J.out.below (below_new w9 (.cells #[.int .i64 mMuln, .int .i64 mMuld] 27)))
  have Y := Lib.hid (BoxAt.new w9 mMuln mMuld)
  have Lc := Lib.hid (below_step Lc.out (below_new w9 (.cells #[.int .i64 mMuln, .int .i64 mMuld] 27)))
  have L0 := L.out.c0
  have L1 := L.out.c1
  have L2 := L.out.c2
  have L3 := L.out.c3
  have L4 := L.out.c4
  have L5 := L.out.c5
  have J0 := J.out.2.1; have J1 := J.out.2.2
  go_wp2_with fail
  clear L0 L1 L2 L3 L4 L5 J0 J1
  refine (M5.out _ (T0.out.below Lc.out)).mono ?_; rintro e w10 ⟨rfl, g10⟩
  have Lc := Lib.hid (below_step Lc.out g10)
  have X := Lib.hid (X.out.below g10)
  have L := Lib.hid (L.out.below g10)
  have A := Lib.hid (A.out.below g10)
  have B := Lib.hid (B.out.below g10)
  have C := Lib.hid (C.out.below g10)
  have D := Lib.hid (D.out.below g10)
  have I := Lib.hid (I.out.below g10)
  have J := Lib.hid (J.out.below g10)
  have Y := Lib.hid (Y.out.below g10)
  have X := Lib.hid (X.out.below (below_new w10 (.cells #[.int .i64 mMuln, .int .i64 mMuld] 27)))
  have L := Lib.hid (L.out.below (below_new w10 (.cells #[.int .i64 mMuln, .int .i64 mMuld] 27)))
  have A := Lib.hid (A.out.below (below_new w10 (.cells #[.int .i64 mMuln, .int .i64 mMuld] 27)))
  have B := Lib.hid (B.out.below (below_new w10 (.cells #[.int .i64 mMuln, .int .i64 mMuld] 27)))
  have C := Lib.hid (C.out.below (below_new w10 (.cells #[.int .i64 mMuln, .int .i64 mMuld] 27)))
  have D := Lib.hid (D.out.below (below_new w10 (.cells #[.int .i64 mMuln, .int .i64 mMuld] 27)))
  have I := Lib.hid (I.out.below (below_new w10 (.cells #[.int .i64 mMuln, .int .i64 mMuld] 27)))
  have J := Lib.hid (J.out.below (below_new w10 (.cells #[.int .i64 mMuln, .int .i64 mMuld] 27)))
  have Y := Lib.hid (Y.out.below (below_new w10 (.cells #[.int .i64 mMuln, .int .i64 mMuld] 27)))
  have Z := Lib.hid (BoxAt.new w10 mMuln mMuld)
  have Lc := Lib.hid (below_step Lc.out (below_new w10 (.cells #[.int .i64 mMuln, .int .i64 mMuld] 27)))
  have Y0 := Y.out.2.1; have Y1 := Y.out.2.2
  have Z0 := Z.out.2.1; have Z1 := Z.out.2.2
  go_wp2_with fail
  clear Y0 Y1 Z0 Z1
  go_ret
  exact ⟨rfl, Lc.out⟩

set_option maxRecDepth 100000 in
set_option maxHeartbeats 4000000 in
theorem commW_sn_n (a b c d e f p0 q0 p1 q1 p2 q2 : Int) (w : World) (ad : Addr) (ht : Tab ad w) (fa : Fits a ∧ Fits b) (fc : Fits c ∧ Fits d) (fe : Fits e ∧ Fits f) (an ad1 : Int) (h3 : addR p0 q0 p1 q1 = some (an, ad1)) (h4 : addR p1 q1 p2 q2 = none) (h5 : mulR p0 q0 p1 q1 = none) (h0 : Ra.red a b = some (p0, q0)) (h1 : Ra.red c d = some (p1, q1)) (h2 : Ra.red e f = some (p2, q2)) :
    Calls Tryd.prog 4 #[pairsV a b c d e f] w fun e' w' => e' = .returned (.bool true) ∧ Below w.heap.size w w' := by
  have o0 := (Ra.red_ok h0).1; have o1 := (Ra.red_ok h1).1; have o2 := (Ra.red_ok h2).1
  have F0 := ok_fits o0; have F1 := ok_fits o1; have F2 := ok_fits o2
  have hs := fun w ht => sane_any w ad ht
  have hm := fun w ht => made_yes a b c d e f p0 q0 p1 q1 p2 q2 w ad ht fa fc fe h0 h1 h2
  have HS := Lib.hid hs; have HM := Lib.hid hm; have T0 := Lib.hid ht
  have kAdd := addR_comm p0 q0 p1 q1
  have A1 := Lib.hid (Add_some (a := ad) h3 F0 F1)
  rw [h3] at kAdd
  have A2 := Lib.hid (Add_some (a := ad) kAdd F1 F0)
  have A3 := Lib.hid (Add_none (a := ad) h4 F1 F2)
  have kMul := mulR_comm p0 q0 p1 q1
  have M1 := Lib.hid (Mul_none (a := ad) h5 F0 F1)
  rw [h5] at kMul
  have M2 := Lib.hid (Mul_none (a := ad) kMul F1 F0)
  obtain ⟨yn, yd, ye, -, tMul⟩ := Mul_gen p1 q1 p2 q2 ad F1 F2
  have M3 := Lib.hid tMul
  clear hs hm ht fa fc fe h0 h1 h2 h3 h5 o0 o1 o2 F0 F1 F2 kAdd h4 kMul tMul
  have R0 := Lib.hid (SixAt.new w 33 a b c d e f)
  go_enter Tryd.func4, Tryd.ntmps4
  go_wp2_with fail
  have Lc := Lib.hid (below_new w (.cells #[.int .i64 a, .int .i64 b, .int .i64 c, .int .i64 d, .int .i64 e, .int .i64 f] 33))
  have X := R0
  refine (HS.out _ (T0.out.below Lc.out)).mono ?_; rintro e w1 ⟨rfl, g1⟩
  have Lc := Lib.hid (below_step Lc.out g1)
  have X := Lib.hid (X.out.below g1)
  have X0 := X.out.c0
  have X1 := X.out.c1
  have X2 := X.out.c2
  have X3 := X.out.c3
  have X4 := X.out.c4
  have X5 := X.out.c5
  go_wp2_with fail
  clear X0 X1 X2 X3 X4 X5
  refine (HM.out _ (T0.out.below Lc.out)).mono ?_; rintro e w2 ⟨rfl, g2⟩
  have Lc := Lib.hid (below_step Lc.out g2)
  have X := Lib.hid (X.out.below g2)
  have X := Lib.hid (X.out.below (below_new w2 (.cells #[.int .i64 p0, .int .i64 q0, .int .i64 p1, .int .i64 q1, .int .i64 p2, .int .i64 q2] 34)))
  have L := Lib.hid (SixAt.new w2 34 p0 q0 p1 q1 p2 q2)
  have Lc := Lib.hid (below_step Lc.out (below_new w2 (.cells #[.int .i64 p0, .int .i64 q0, .int .i64 p1, .int .i64 q1, .int .i64 p2, .int .i64 q2] 34)))
  have L0 := L.out.c0
  have L1 := L.out.c1
  have L2 := L.out.c2
  have L3 := L.out.c3
  have L4 := L.out.c4
  have L5 := L.out.c5
  go_wp2_with fail
  clear L0 L1 L2 L3 L4 L5
  refine (A1.out _ (T0.out.below Lc.out)).mono ?_; rintro e w3 ⟨rfl, g3⟩
  have Lc := Lib.hid (below_step Lc.out g3)
  have X := Lib.hid (X.out.below g3)
  have L := Lib.hid (L.out.below g3)
  have X := Lib.hid (X.out.below (below_new w3 (.cells #[.int .i64 an, .int .i64 ad1] 27)))
  have L := Lib.hid (L.out.below (below_new w3 (.cells #[.int .i64 an, .int .i64 ad1] 27)))
  have A := Lib.hid (BoxAt.new w3 an ad1)
  have Lc := Lib.hid (below_step Lc.out (below_new w3 (.cells #[.int .i64 an, .int .i64 ad1] 27)))
  have L0 := L.out.c0
  have L1 := L.out.c1
  have L2 := L.out.c2
  have L3 := L.out.c3
  have L4 := L.out.c4
  have L5 := L.out.c5
  go_wp2_with fail
  clear L0 L1 L2 L3 L4 L5
  refine (A2.out _ (T0.out.below Lc.out)).mono ?_; rintro e w4 ⟨rfl, g4⟩
  have Lc := Lib.hid (below_step Lc.out g4)
  have X := Lib.hid (X.out.below g4)
  have L := Lib.hid (L.out.below g4)
  have A := Lib.hid (A.out.below g4)
  have X := Lib.hid (X.out.below (below_new w4 (.cells #[.int .i64 an, .int .i64 ad1] 27)))
  have L := Lib.hid (L.out.below (below_new w4 (.cells #[.int .i64 an, .int .i64 ad1] 27)))
  have A := Lib.hid (A.out.below (below_new w4 (.cells #[.int .i64 an, .int .i64 ad1] 27)))
  have B := Lib.hid (BoxAt.new w4 an ad1)
  have Lc := Lib.hid (below_step Lc.out (below_new w4 (.cells #[.int .i64 an, .int .i64 ad1] 27)))
  have L0 := L.out.c0
  have L1 := L.out.c1
  have L2 := L.out.c2
  have L3 := L.out.c3
  have L4 := L.out.c4
  have L5 := L.out.c5
  go_wp2_with fail
  clear L0 L1 L2 L3 L4 L5
  refine (M1.out _ (T0.out.below Lc.out)).mono ?_; rintro e w5 ⟨rfl, g5⟩
  have Lc := Lib.hid (below_step Lc.out g5)
  have X := Lib.hid (X.out.below g5)
  have L := Lib.hid (L.out.below g5)
  have A := Lib.hid (A.out.below g5)
  have B := Lib.hid (B.out.below g5)
  have X := Lib.hid (X.out.below (below_new w5 (.cells #[.int .i64 0, .int .i64 0] 27)))
  have L := Lib.hid (L.out.below (below_new w5 (.cells #[.int .i64 0, .int .i64 0] 27)))
  have A := Lib.hid (A.out.below (below_new w5 (.cells #[.int .i64 0, .int .i64 0] 27)))
  have B := Lib.hid (B.out.below (below_new w5 (.cells #[.int .i64 0, .int .i64 0] 27)))
  have C := Lib.hid (BoxAt.new w5 0 0)
  have Lc := Lib.hid (below_step Lc.out (below_new w5 (.cells #[.int .i64 0, .int .i64 0] 27)))
  have L0 := L.out.c0
  have L1 := L.out.c1
  have L2 := L.out.c2
  have L3 := L.out.c3
  have L4 := L.out.c4
  have L5 := L.out.c5
  go_wp2_with fail
  clear L0 L1 L2 L3 L4 L5
  refine (M2.out _ (T0.out.below Lc.out)).mono ?_; rintro e w6 ⟨rfl, g6⟩
  have Lc := Lib.hid (below_step Lc.out g6)
  have X := Lib.hid (X.out.below g6)
  have L := Lib.hid (L.out.below g6)
  have A := Lib.hid (A.out.below g6)
  have B := Lib.hid (B.out.below g6)
  have C := Lib.hid (C.out.below g6)
  have X := Lib.hid (X.out.below (below_new w6 (.cells #[.int .i64 0, .int .i64 0] 27)))
  have L := Lib.hid (L.out.below (below_new w6 (.cells #[.int .i64 0, .int .i64 0] 27)))
  have A := Lib.hid (A.out.below (below_new w6 (.cells #[.int .i64 0, .int .i64 0] 27)))
  have B := Lib.hid (B.out.below (below_new w6 (.cells #[.int .i64 0, .int .i64 0] 27)))
  have C := Lib.hid (C.out.below (below_new w6 (.cells #[.int .i64 0, .int .i64 0] 27)))
  have D := Lib.hid (BoxAt.new w6 0 0)
  have Lc := Lib.hid (below_step Lc.out (below_new w6 (.cells #[.int .i64 0, .int .i64 0] 27)))
  have L0 := L.out.c0
  have L1 := L.out.c1
  have L2 := L.out.c2
  have L3 := L.out.c3
  have L4 := L.out.c4
  have L5 := L.out.c5
  have A0 := A.out.2.1; have A1 := A.out.2.2
  have B0 := B.out.2.1; have B1 := B.out.2.2
  have C0 := C.out.2.1; have C1 := C.out.2.2
  have D0 := D.out.2.1; have D1 := D.out.2.2
  go_wp2_with fail
  clear L0 L1 L2 L3 L4 L5 A0 A1 B0 B1 C0 C1 D0 D1
  refine (A3.out _ (T0.out.below Lc.out)).mono ?_; rintro e w7 ⟨rfl, g7⟩
  have Lc := Lib.hid (below_step Lc.out g7)
  have X := Lib.hid (X.out.below g7)
  have L := Lib.hid (L.out.below g7)
  have A := Lib.hid (A.out.below g7)
  have B := Lib.hid (B.out.below g7)
  have C := Lib.hid (C.out.below g7)
  have D := Lib.hid (D.out.below g7)
  have X := Lib.hid (X.out.below (below_new w7 (.cells #[.int .i64 0, .int .i64 0] 27)))
  have L := Lib.hid (L.out.below (below_new w7 (.cells #[.int .i64 0, .int .i64 0] 27)))
  have A := Lib.hid (A.out.below (below_new w7 (.cells #[.int .i64 0, .int .i64 0] 27)))
  have B := Lib.hid (B.out.below (below_new w7 (.cells #[.int .i64 0, .int .i64 0] 27)))
  have C := Lib.hid (C.out.below (below_new w7 (.cells #[.int .i64 0, .int .i64 0] 27)))
  have D := Lib.hid (D.out.below (below_new w7 (.cells #[.int .i64 0, .int .i64 0] 27)))
  have I := Lib.hid (BoxAt.new w7 0 0)
  have Lc := Lib.hid (below_step Lc.out (below_new w7 (.cells #[.int .i64 0, .int .i64 0] 27)))
  have L0 := L.out.c0
  have L1 := L.out.c1
  have L2 := L.out.c2
  have L3 := L.out.c3
  have L4 := L.out.c4
  have L5 := L.out.c5
  go_wp2_with fail
  clear L0 L1 L2 L3 L4 L5
  refine (M3.out _ (T0.out.below Lc.out)).mono ?_; rintro e w8 ⟨rfl, g8⟩
  have Lc := Lib.hid (below_step Lc.out g8)
  have X := Lib.hid (X.out.below g8)
  have L := Lib.hid (L.out.below g8)
  have A := Lib.hid (A.out.below g8)
  have B := Lib.hid (B.out.below g8)
  have C := Lib.hid (C.out.below g8)
  have D := Lib.hid (D.out.below g8)
  have I := Lib.hid (I.out.below g8)
  have X := Lib.hid (X.out.below (below_new w8 (.cells #[.int .i64 yn, .int .i64 yd] 27)))
  have L := Lib.hid (L.out.below (below_new w8 (.cells #[.int .i64 yn, .int .i64 yd] 27)))
  have A := Lib.hid (A.out.below (below_new w8 (.cells #[.int .i64 yn, .int .i64 yd] 27)))
  have B := Lib.hid (B.out.below (below_new w8 (.cells #[.int .i64 yn, .int .i64 yd] 27)))
  have C := Lib.hid (C.out.below (below_new w8 (.cells #[.int .i64 yn, .int .i64 yd] 27)))
  have D := Lib.hid (D.out.below (below_new w8 (.cells #[.int .i64 yn, .int .i64 yd] 27)))
  have I := Lib.hid (I.out.below (below_new w8 (.cells #[.int .i64 yn, .int .i64 yd] 27)))
  have J := Lib.hid (BoxAt.new w8 yn yd)
  have Lc := Lib.hid (below_step Lc.out (below_new w8 (.cells #[.int .i64 yn, .int .i64 yd] 27)))
  go_wp2_with fail
  go_ret
  exact ⟨rfl, Lc.out⟩

set_option maxRecDepth 100000 in
set_option maxHeartbeats 4000000 in
theorem commW_sn_sn (a b c d e f p0 q0 p1 q1 p2 q2 : Int) (w : World) (ad : Addr) (ht : Tab ad w) (fa : Fits a ∧ Fits b) (fc : Fits c ∧ Fits d) (fe : Fits e ∧ Fits f) (an ad1 : Int) (h3 : addR p0 q0 p1 q1 = some (an, ad1)) (h4 : addR p1 q1 p2 q2 = none) (cn cd : Int) (h5 : mulR p0 q0 p1 q1 = some (cn, cd)) (h6 : mulR p1 q1 p2 q2 = none) (h0 : Ra.red a b = some (p0, q0)) (h1 : Ra.red c d = some (p1, q1)) (h2 : Ra.red e f = some (p2, q2)) :
    Calls Tryd.prog 4 #[pairsV a b c d e f] w fun e' w' => e' = .returned (.bool true) ∧ Below w.heap.size w w' := by
  have o0 := (Ra.red_ok h0).1; have o1 := (Ra.red_ok h1).1; have o2 := (Ra.red_ok h2).1
  have F0 := ok_fits o0; have F1 := ok_fits o1; have F2 := ok_fits o2
  have hs := fun w ht => sane_any w ad ht
  have hm := fun w ht => made_yes a b c d e f p0 q0 p1 q1 p2 q2 w ad ht fa fc fe h0 h1 h2
  have HS := Lib.hid hs; have HM := Lib.hid hm; have T0 := Lib.hid ht
  have kAdd := addR_comm p0 q0 p1 q1
  have A1 := Lib.hid (Add_some (a := ad) h3 F0 F1)
  rw [h3] at kAdd
  have A2 := Lib.hid (Add_some (a := ad) kAdd F1 F0)
  have A3 := Lib.hid (Add_none (a := ad) h4 F1 F2)
  have kMul := mulR_comm p0 q0 p1 q1
  have M1 := Lib.hid (Mul_some (a := ad) h5 F0 F1)
  rw [h5] at kMul
  have M2 := Lib.hid (Mul_some (a := ad) kMul F1 F0)
  have M3 := Lib.hid (Mul_none (a := ad) h6 F1 F2)
  clear hs hm ht fa fc fe h0 h1 h2 h3 h5 o0 o1 o2 F0 F1 F2 kAdd h4 kMul h6
  have R0 := Lib.hid (SixAt.new w 33 a b c d e f)
  go_enter Tryd.func4, Tryd.ntmps4
  go_wp2_with fail
  have Lc := Lib.hid (below_new w (.cells #[.int .i64 a, .int .i64 b, .int .i64 c, .int .i64 d, .int .i64 e, .int .i64 f] 33))
  have X := R0
  refine (HS.out _ (T0.out.below Lc.out)).mono ?_; rintro e w1 ⟨rfl, g1⟩
  have Lc := Lib.hid (below_step Lc.out g1)
  have X := Lib.hid (X.out.below g1)
  have X0 := X.out.c0
  have X1 := X.out.c1
  have X2 := X.out.c2
  have X3 := X.out.c3
  have X4 := X.out.c4
  have X5 := X.out.c5
  go_wp2_with fail
  clear X0 X1 X2 X3 X4 X5
  refine (HM.out _ (T0.out.below Lc.out)).mono ?_; rintro e w2 ⟨rfl, g2⟩
  have Lc := Lib.hid (below_step Lc.out g2)
  have X := Lib.hid (X.out.below g2)
  have X := Lib.hid (X.out.below (below_new w2 (.cells #[.int .i64 p0, .int .i64 q0, .int .i64 p1, .int .i64 q1, .int .i64 p2, .int .i64 q2] 34)))
  have L := Lib.hid (SixAt.new w2 34 p0 q0 p1 q1 p2 q2)
  have Lc := Lib.hid (below_step Lc.out (below_new w2 (.cells #[.int .i64 p0, .int .i64 q0, .int .i64 p1, .int .i64 q1, .int .i64 p2, .int .i64 q2] 34)))
  have L0 := L.out.c0
  have L1 := L.out.c1
  have L2 := L.out.c2
  have L3 := L.out.c3
  have L4 := L.out.c4
  have L5 := L.out.c5
  go_wp2_with fail
  clear L0 L1 L2 L3 L4 L5
  refine (A1.out _ (T0.out.below Lc.out)).mono ?_; rintro e w3 ⟨rfl, g3⟩
  have Lc := Lib.hid (below_step Lc.out g3)
  have X := Lib.hid (X.out.below g3)
  have L := Lib.hid (L.out.below g3)
  have X := Lib.hid (X.out.below (below_new w3 (.cells #[.int .i64 an, .int .i64 ad1] 27)))
  have L := Lib.hid (L.out.below (below_new w3 (.cells #[.int .i64 an, .int .i64 ad1] 27)))
  have A := Lib.hid (BoxAt.new w3 an ad1)
  have Lc := Lib.hid (below_step Lc.out (below_new w3 (.cells #[.int .i64 an, .int .i64 ad1] 27)))
  have L0 := L.out.c0
  have L1 := L.out.c1
  have L2 := L.out.c2
  have L3 := L.out.c3
  have L4 := L.out.c4
  have L5 := L.out.c5
  go_wp2_with fail
  clear L0 L1 L2 L3 L4 L5
  refine (A2.out _ (T0.out.below Lc.out)).mono ?_; rintro e w4 ⟨rfl, g4⟩
  have Lc := Lib.hid (below_step Lc.out g4)
  have X := Lib.hid (X.out.below g4)
  have L := Lib.hid (L.out.below g4)
  have A := Lib.hid (A.out.below g4)
  have X := Lib.hid (X.out.below (below_new w4 (.cells #[.int .i64 an, .int .i64 ad1] 27)))
  have L := Lib.hid (L.out.below (below_new w4 (.cells #[.int .i64 an, .int .i64 ad1] 27)))
  have A := Lib.hid (A.out.below (below_new w4 (.cells #[.int .i64 an, .int .i64 ad1] 27)))
  have B := Lib.hid (BoxAt.new w4 an ad1)
  have Lc := Lib.hid (below_step Lc.out (below_new w4 (.cells #[.int .i64 an, .int .i64 ad1] 27)))
  have L0 := L.out.c0
  have L1 := L.out.c1
  have L2 := L.out.c2
  have L3 := L.out.c3
  have L4 := L.out.c4
  have L5 := L.out.c5
  go_wp2_with fail
  clear L0 L1 L2 L3 L4 L5
  refine (M1.out _ (T0.out.below Lc.out)).mono ?_; rintro e w5 ⟨rfl, g5⟩
  have Lc := Lib.hid (below_step Lc.out g5)
  have X := Lib.hid (X.out.below g5)
  have L := Lib.hid (L.out.below g5)
  have A := Lib.hid (A.out.below g5)
  have B := Lib.hid (B.out.below g5)
  have X := Lib.hid (X.out.below (below_new w5 (.cells #[.int .i64 cn, .int .i64 cd] 27)))
  have L := Lib.hid (L.out.below (below_new w5 (.cells #[.int .i64 cn, .int .i64 cd] 27)))
  have A := Lib.hid (A.out.below (below_new w5 (.cells #[.int .i64 cn, .int .i64 cd] 27)))
  have B := Lib.hid (B.out.below (below_new w5 (.cells #[.int .i64 cn, .int .i64 cd] 27)))
  have C := Lib.hid (BoxAt.new w5 cn cd)
  have Lc := Lib.hid (below_step Lc.out (below_new w5 (.cells #[.int .i64 cn, .int .i64 cd] 27)))
  have L0 := L.out.c0
  have L1 := L.out.c1
  have L2 := L.out.c2
  have L3 := L.out.c3
  have L4 := L.out.c4
  have L5 := L.out.c5
  go_wp2_with fail
  clear L0 L1 L2 L3 L4 L5
  refine (M2.out _ (T0.out.below Lc.out)).mono ?_; rintro e w6 ⟨rfl, g6⟩
  have Lc := Lib.hid (below_step Lc.out g6)
  have X := Lib.hid (X.out.below g6)
  have L := Lib.hid (L.out.below g6)
  have A := Lib.hid (A.out.below g6)
  have B := Lib.hid (B.out.below g6)
  have C := Lib.hid (C.out.below g6)
  have X := Lib.hid (X.out.below (below_new w6 (.cells #[.int .i64 cn, .int .i64 cd] 27)))
  have L := Lib.hid (L.out.below (below_new w6 (.cells #[.int .i64 cn, .int .i64 cd] 27)))
  have A := Lib.hid (A.out.below (below_new w6 (.cells #[.int .i64 cn, .int .i64 cd] 27)))
  have B := Lib.hid (B.out.below (below_new w6 (.cells #[.int .i64 cn, .int .i64 cd] 27)))
  have C := Lib.hid (C.out.below (below_new w6 (.cells #[.int .i64 cn, .int .i64 cd] 27)))
  have D := Lib.hid (BoxAt.new w6 cn cd)
  have Lc := Lib.hid (below_step Lc.out (below_new w6 (.cells #[.int .i64 cn, .int .i64 cd] 27)))
  have L0 := L.out.c0
  have L1 := L.out.c1
  have L2 := L.out.c2
  have L3 := L.out.c3
  have L4 := L.out.c4
  have L5 := L.out.c5
  have A0 := A.out.2.1; have A1 := A.out.2.2
  have B0 := B.out.2.1; have B1 := B.out.2.2
  have C0 := C.out.2.1; have C1 := C.out.2.2
  have D0 := D.out.2.1; have D1 := D.out.2.2
  go_wp2_with fail
  clear L0 L1 L2 L3 L4 L5 A0 A1 B0 B1 C0 C1 D0 D1
  refine (A3.out _ (T0.out.below Lc.out)).mono ?_; rintro e w7 ⟨rfl, g7⟩
  have Lc := Lib.hid (below_step Lc.out g7)
  have X := Lib.hid (X.out.below g7)
  have L := Lib.hid (L.out.below g7)
  have A := Lib.hid (A.out.below g7)
  have B := Lib.hid (B.out.below g7)
  have C := Lib.hid (C.out.below g7)
  have D := Lib.hid (D.out.below g7)
  have X := Lib.hid (X.out.below (below_new w7 (.cells #[.int .i64 0, .int .i64 0] 27)))
  have L := Lib.hid (L.out.below (below_new w7 (.cells #[.int .i64 0, .int .i64 0] 27)))
  have A := Lib.hid (A.out.below (below_new w7 (.cells #[.int .i64 0, .int .i64 0] 27)))
  have B := Lib.hid (B.out.below (below_new w7 (.cells #[.int .i64 0, .int .i64 0] 27)))
  have C := Lib.hid (C.out.below (below_new w7 (.cells #[.int .i64 0, .int .i64 0] 27)))
  have D := Lib.hid (D.out.below (below_new w7 (.cells #[.int .i64 0, .int .i64 0] 27)))
  have I := Lib.hid (BoxAt.new w7 0 0)
  have Lc := Lib.hid (below_step Lc.out (below_new w7 (.cells #[.int .i64 0, .int .i64 0] 27)))
  have L0 := L.out.c0
  have L1 := L.out.c1
  have L2 := L.out.c2
  have L3 := L.out.c3
  have L4 := L.out.c4
  have L5 := L.out.c5
  go_wp2_with fail
  clear L0 L1 L2 L3 L4 L5
  refine (M3.out _ (T0.out.below Lc.out)).mono ?_; rintro e w8 ⟨rfl, g8⟩
  have Lc := Lib.hid (below_step Lc.out g8)
  have X := Lib.hid (X.out.below g8)
  have L := Lib.hid (L.out.below g8)
  have A := Lib.hid (A.out.below g8)
  have B := Lib.hid (B.out.below g8)
  have C := Lib.hid (C.out.below g8)
  have D := Lib.hid (D.out.below g8)
  have I := Lib.hid (I.out.below g8)
  have X := Lib.hid (X.out.below (below_new w8 (.cells #[.int .i64 0, .int .i64 0] 27)))
  have L := Lib.hid (L.out.below (below_new w8 (.cells #[.int .i64 0, .int .i64 0] 27)))
  have A := Lib.hid (A.out.below (below_new w8 (.cells #[.int .i64 0, .int .i64 0] 27)))
  have B := Lib.hid (B.out.below (below_new w8 (.cells #[.int .i64 0, .int .i64 0] 27)))
  have C := Lib.hid (C.out.below (below_new w8 (.cells #[.int .i64 0, .int .i64 0] 27)))
  have D := Lib.hid (D.out.below (below_new w8 (.cells #[.int .i64 0, .int .i64 0] 27)))
  have I := Lib.hid (I.out.below (below_new w8 (.cells #[.int .i64 0, .int .i64 0] 27)))
  have J := Lib.hid (BoxAt.new w8 0 0)
  have Lc := Lib.hid (below_step Lc.out (below_new w8 (.cells #[.int .i64 0, .int .i64 0] 27)))
  go_wp2_with fail
  go_ret
  exact ⟨rfl, Lc.out⟩

set_option maxRecDepth 100000 in
set_option maxHeartbeats 4000000 in
theorem commW_sn_ss (a b c d e f p0 q0 p1 q1 p2 q2 : Int) (w : World) (ad : Addr) (ht : Tab ad w) (fa : Fits a ∧ Fits b) (fc : Fits c ∧ Fits d) (fe : Fits e ∧ Fits f) (an ad1 : Int) (h3 : addR p0 q0 p1 q1 = some (an, ad1)) (h4 : addR p1 q1 p2 q2 = none) (cn cd : Int) (h5 : mulR p0 q0 p1 q1 = some (cn, cd)) (yn yd : Int) (h6 : mulR p1 q1 p2 q2 = some (yn, yd)) (h0 : Ra.red a b = some (p0, q0)) (h1 : Ra.red c d = some (p1, q1)) (h2 : Ra.red e f = some (p2, q2)) :
    Calls Tryd.prog 4 #[pairsV a b c d e f] w fun e' w' => e' = .returned (.bool true) ∧ Below w.heap.size w w' := by
  have o0 := (Ra.red_ok h0).1; have o1 := (Ra.red_ok h1).1; have o2 := (Ra.red_ok h2).1
  have F0 := ok_fits o0; have F1 := ok_fits o1; have F2 := ok_fits o2
  have hs := fun w ht => sane_any w ad ht
  have hm := fun w ht => made_yes a b c d e f p0 q0 p1 q1 p2 q2 w ad ht fa fc fe h0 h1 h2
  have HS := Lib.hid hs; have HM := Lib.hid hm; have T0 := Lib.hid ht
  have kAdd := addR_comm p0 q0 p1 q1
  have A1 := Lib.hid (Add_some (a := ad) h3 F0 F1)
  rw [h3] at kAdd
  have A2 := Lib.hid (Add_some (a := ad) kAdd F1 F0)
  have A3 := Lib.hid (Add_none (a := ad) h4 F1 F2)
  have kMul := mulR_comm p0 q0 p1 q1
  have M1 := Lib.hid (Mul_some (a := ad) h5 F0 F1)
  rw [h5] at kMul
  have M2 := Lib.hid (Mul_some (a := ad) kMul F1 F0)
  have M3 := Lib.hid (Mul_some (a := ad) h6 F1 F2)
  obtain ⟨eMul, uMul, vMul⟩ := mulR_assoc o0 o1 o2 h5 h6
  obtain ⟨mMuln, mMuld, mMule, rMul, tMul⟩ := Mul_gen cn cd p2 q2 ad (ok_fits uMul) F2
  have zMul := fun w (ht : Tab ad w) => Mul_any p0 q0 yn yd w ad ht.err F0 (ok_fits vMul)
  rw [eMul, rMul] at zMul
  have M4 := Lib.hid tMul; have M5 := Lib.hid zMul
  clear hs hm ht fa fc fe h0 h1 h2 h3 h5 o0 o1 o2 F0 F1 F2 kAdd h4 kMul h6 eMul uMul vMul rMul tMul zMul
  have R0 := Lib.hid (SixAt.new w 33 a b c d e f)
  go_enter Tryd.func4, Tryd.ntmps4
  go_wp2_with fail
  have Lc := Lib.hid (below_new w (.cells #[.int .i64 a, .int .i64 b, .int .i64 c, .int .i64 d, .int .i64 e, .int .i64 f] 33))
  have X := R0
  refine (HS.out _ (T0.out.below Lc.out)).mono ?_; rintro e w1 ⟨rfl, g1⟩
  have Lc := Lib.hid (below_step Lc.out g1)
  have X := Lib.hid (X.out.below g1)
  have X0 := X.out.c0
  have X1 := X.out.c1
  have X2 := X.out.c2
  have X3 := X.out.c3
  have X4 := X.out.c4
  have X5 := X.out.c5
  go_wp2_with fail
  clear X0 X1 X2 X3 X4 X5
  refine (HM.out _ (T0.out.below Lc.out)).mono ?_; rintro e w2 ⟨rfl, g2⟩
  have Lc := Lib.hid (below_step Lc.out g2)
  have X := Lib.hid (X.out.below g2)
  have X := Lib.hid (X.out.below (below_new w2 (.cells #[.int .i64 p0, .int .i64 q0, .int .i64 p1, .int .i64 q1, .int .i64 p2, .int .i64 q2] 34)))
  have L := Lib.hid (SixAt.new w2 34 p0 q0 p1 q1 p2 q2)
  have Lc := Lib.hid (below_step Lc.out (below_new w2 (.cells #[.int .i64 p0, .int .i64 q0, .int .i64 p1, .int .i64 q1, .int .i64 p2, .int .i64 q2] 34)))
  have L0 := L.out.c0
  have L1 := L.out.c1
  have L2 := L.out.c2
  have L3 := L.out.c3
  have L4 := L.out.c4
  have L5 := L.out.c5
  go_wp2_with fail
  clear L0 L1 L2 L3 L4 L5
  refine (A1.out _ (T0.out.below Lc.out)).mono ?_; rintro e w3 ⟨rfl, g3⟩
  have Lc := Lib.hid (below_step Lc.out g3)
  have X := Lib.hid (X.out.below g3)
  have L := Lib.hid (L.out.below g3)
  have X := Lib.hid (X.out.below (below_new w3 (.cells #[.int .i64 an, .int .i64 ad1] 27)))
  have L := Lib.hid (L.out.below (below_new w3 (.cells #[.int .i64 an, .int .i64 ad1] 27)))
  have A := Lib.hid (BoxAt.new w3 an ad1)
  have Lc := Lib.hid (below_step Lc.out (below_new w3 (.cells #[.int .i64 an, .int .i64 ad1] 27)))
  have L0 := L.out.c0
  have L1 := L.out.c1
  have L2 := L.out.c2
  have L3 := L.out.c3
  have L4 := L.out.c4
  have L5 := L.out.c5
  go_wp2_with fail
  clear L0 L1 L2 L3 L4 L5
  refine (A2.out _ (T0.out.below Lc.out)).mono ?_; rintro e w4 ⟨rfl, g4⟩
  have Lc := Lib.hid (below_step Lc.out g4)
  have X := Lib.hid (X.out.below g4)
  have L := Lib.hid (L.out.below g4)
  have A := Lib.hid (A.out.below g4)
  have X := Lib.hid (X.out.below (below_new w4 (.cells #[.int .i64 an, .int .i64 ad1] 27)))
  have L := Lib.hid (L.out.below (below_new w4 (.cells #[.int .i64 an, .int .i64 ad1] 27)))
  have A := Lib.hid (A.out.below (below_new w4 (.cells #[.int .i64 an, .int .i64 ad1] 27)))
  have B := Lib.hid (BoxAt.new w4 an ad1)
  have Lc := Lib.hid (below_step Lc.out (below_new w4 (.cells #[.int .i64 an, .int .i64 ad1] 27)))
  have L0 := L.out.c0
  have L1 := L.out.c1
  have L2 := L.out.c2
  have L3 := L.out.c3
  have L4 := L.out.c4
  have L5 := L.out.c5
  go_wp2_with fail
  clear L0 L1 L2 L3 L4 L5
  refine (M1.out _ (T0.out.below Lc.out)).mono ?_; rintro e w5 ⟨rfl, g5⟩
  have Lc := Lib.hid (below_step Lc.out g5)
  have X := Lib.hid (X.out.below g5)
  have L := Lib.hid (L.out.below g5)
  have A := Lib.hid (A.out.below g5)
  have B := Lib.hid (B.out.below g5)
  have X := Lib.hid (X.out.below (below_new w5 (.cells #[.int .i64 cn, .int .i64 cd] 27)))
  have L := Lib.hid (L.out.below (below_new w5 (.cells #[.int .i64 cn, .int .i64 cd] 27)))
  have A := Lib.hid (A.out.below (below_new w5 (.cells #[.int .i64 cn, .int .i64 cd] 27)))
  have B := Lib.hid (B.out.below (below_new w5 (.cells #[.int .i64 cn, .int .i64 cd] 27)))
  have C := Lib.hid (BoxAt.new w5 cn cd)
  have Lc := Lib.hid (below_step Lc.out (below_new w5 (.cells #[.int .i64 cn, .int .i64 cd] 27)))
  have L0 := L.out.c0
  have L1 := L.out.c1
  have L2 := L.out.c2
  have L3 := L.out.c3
  have L4 := L.out.c4
  have L5 := L.out.c5
  go_wp2_with fail
  clear L0 L1 L2 L3 L4 L5
  refine (M2.out _ (T0.out.below Lc.out)).mono ?_; rintro e w6 ⟨rfl, g6⟩
  have Lc := Lib.hid (below_step Lc.out g6)
  have X := Lib.hid (X.out.below g6)
  have L := Lib.hid (L.out.below g6)
  have A := Lib.hid (A.out.below g6)
  have B := Lib.hid (B.out.below g6)
  have C := Lib.hid (C.out.below g6)
  have X := Lib.hid (X.out.below (below_new w6 (.cells #[.int .i64 cn, .int .i64 cd] 27)))
  have L := Lib.hid (L.out.below (below_new w6 (.cells #[.int .i64 cn, .int .i64 cd] 27)))
  have A := Lib.hid (A.out.below (below_new w6 (.cells #[.int .i64 cn, .int .i64 cd] 27)))
  have B := Lib.hid (B.out.below (below_new w6 (.cells #[.int .i64 cn, .int .i64 cd] 27)))
  have C := Lib.hid (C.out.below (below_new w6 (.cells #[.int .i64 cn, .int .i64 cd] 27)))
  have D := Lib.hid (BoxAt.new w6 cn cd)
  have Lc := Lib.hid (below_step Lc.out (below_new w6 (.cells #[.int .i64 cn, .int .i64 cd] 27)))
  have L0 := L.out.c0
  have L1 := L.out.c1
  have L2 := L.out.c2
  have L3 := L.out.c3
  have L4 := L.out.c4
  have L5 := L.out.c5
  have A0 := A.out.2.1; have A1 := A.out.2.2
  have B0 := B.out.2.1; have B1 := B.out.2.2
  have C0 := C.out.2.1; have C1 := C.out.2.2
  have D0 := D.out.2.1; have D1 := D.out.2.2
  go_wp2_with fail
  clear L0 L1 L2 L3 L4 L5 A0 A1 B0 B1 C0 C1 D0 D1
  refine (A3.out _ (T0.out.below Lc.out)).mono ?_; rintro e w7 ⟨rfl, g7⟩
  have Lc := Lib.hid (below_step Lc.out g7)
  have X := Lib.hid (X.out.below g7)
  have L := Lib.hid (L.out.below g7)
  have A := Lib.hid (A.out.below g7)
  have B := Lib.hid (B.out.below g7)
  have C := Lib.hid (C.out.below g7)
  have D := Lib.hid (D.out.below g7)
  have X := Lib.hid (X.out.below (below_new w7 (.cells #[.int .i64 0, .int .i64 0] 27)))
  have L := Lib.hid (L.out.below (below_new w7 (.cells #[.int .i64 0, .int .i64 0] 27)))
  have A := Lib.hid (A.out.below (below_new w7 (.cells #[.int .i64 0, .int .i64 0] 27)))
  have B := Lib.hid (B.out.below (below_new w7 (.cells #[.int .i64 0, .int .i64 0] 27)))
  have C := Lib.hid (C.out.below (below_new w7 (.cells #[.int .i64 0, .int .i64 0] 27)))
  have D := Lib.hid (D.out.below (below_new w7 (.cells #[.int .i64 0, .int .i64 0] 27)))
  have I := Lib.hid (BoxAt.new w7 0 0)
  have Lc := Lib.hid (below_step Lc.out (below_new w7 (.cells #[.int .i64 0, .int .i64 0] 27)))
  have L0 := L.out.c0
  have L1 := L.out.c1
  have L2 := L.out.c2
  have L3 := L.out.c3
  have L4 := L.out.c4
  have L5 := L.out.c5
  go_wp2_with fail
  clear L0 L1 L2 L3 L4 L5
  refine (M3.out _ (T0.out.below Lc.out)).mono ?_; rintro e w8 ⟨rfl, g8⟩
  have Lc := Lib.hid (below_step Lc.out g8)
  have X := Lib.hid (X.out.below g8)
  have L := Lib.hid (L.out.below g8)
  have A := Lib.hid (A.out.below g8)
  have B := Lib.hid (B.out.below g8)
  have C := Lib.hid (C.out.below g8)
  have D := Lib.hid (D.out.below g8)
  have I := Lib.hid (I.out.below g8)
  have X := Lib.hid (X.out.below (below_new w8 (.cells #[.int .i64 yn, .int .i64 yd] 27)))
  have L := Lib.hid (L.out.below (below_new w8 (.cells #[.int .i64 yn, .int .i64 yd] 27)))
  have A := Lib.hid (A.out.below (below_new w8 (.cells #[.int .i64 yn, .int .i64 yd] 27)))
  have B := Lib.hid (B.out.below (below_new w8 (.cells #[.int .i64 yn, .int .i64 yd] 27)))
  have C := Lib.hid (C.out.below (below_new w8 (.cells #[.int .i64 yn, .int .i64 yd] 27)))
  have D := Lib.hid (D.out.below (below_new w8 (.cells #[.int .i64 yn, .int .i64 yd] 27)))
  have I := Lib.hid (I.out.below (below_new w8 (.cells #[.int .i64 yn, .int .i64 yd] 27)))
  have J := Lib.hid (BoxAt.new w8 yn yd)
  have Lc := Lib.hid (below_step Lc.out (below_new w8 (.cells #[.int .i64 yn, .int .i64 yd] 27)))
  have L0 := L.out.c0
  have L1 := L.out.c1
  have L2 := L.out.c2
  have L3 := L.out.c3
  have L4 := L.out.c4
  have L5 := L.out.c5
  have C0 := C.out.2.1; have C1 := C.out.2.2
  go_wp2_with fail
  clear L0 L1 L2 L3 L4 L5 C0 C1
  refine (M4.out _ (T0.out.below Lc.out)).mono ?_; rintro e w9 ⟨rfl, g9⟩
  have Lc := Lib.hid (below_step Lc.out g9)
  have X := Lib.hid (X.out.below g9)
  have L := Lib.hid (L.out.below g9)
  have A := Lib.hid (A.out.below g9)
  have B := Lib.hid (B.out.below g9)
  have C := Lib.hid (C.out.below g9)
  have D := Lib.hid (D.out.below g9)
  have I := Lib.hid (I.out.below g9)
  have J := Lib.hid (J.out.below g9)
  have X := Lib.hid (X.out.below (below_new w9 (.cells #[.int .i64 mMuln, .int .i64 mMuld] 27)))
  have L := Lib.hid (L.out.below (below_new w9 (.cells #[.int .i64 mMuln, .int .i64 mMuld] 27)))
  have A := Lib.hid (A.out.below (below_new w9 (.cells #[.int .i64 mMuln, .int .i64 mMuld] 27)))
  have B := Lib.hid (B.out.below (below_new w9 (.cells #[.int .i64 mMuln, .int .i64 mMuld] 27)))
  have C := Lib.hid (C.out.below (below_new w9 (.cells #[.int .i64 mMuln, .int .i64 mMuld] 27)))
  have D := Lib.hid (D.out.below (below_new w9 (.cells #[.int .i64 mMuln, .int .i64 mMuld] 27)))
  have I := Lib.hid (I.out.below (below_new w9 (.cells #[.int .i64 mMuln, .int .i64 mMuld] 27)))
  have J := Lib.hid (J.out.below (below_new w9 (.cells #[.int .i64 mMuln, .int .i64 mMuld] 27)))
  have Y := Lib.hid (BoxAt.new w9 mMuln mMuld)
  have Lc := Lib.hid (below_step Lc.out (below_new w9 (.cells #[.int .i64 mMuln, .int .i64 mMuld] 27)))
  have L0 := L.out.c0
  have L1 := L.out.c1
  have L2 := L.out.c2
  have L3 := L.out.c3
  have L4 := L.out.c4
  have L5 := L.out.c5
  have J0 := J.out.2.1; have J1 := J.out.2.2
  go_wp2_with fail
  clear L0 L1 L2 L3 L4 L5 J0 J1
  refine (M5.out _ (T0.out.below Lc.out)).mono ?_; rintro e w10 ⟨rfl, g10⟩
  have Lc := Lib.hid (below_step Lc.out g10)
  have X := Lib.hid (X.out.below g10)
  have L := Lib.hid (L.out.below g10)
  have A := Lib.hid (A.out.below g10)
  have B := Lib.hid (B.out.below g10)
  have C := Lib.hid (C.out.below g10)
  have D := Lib.hid (D.out.below g10)
  have I := Lib.hid (I.out.below g10)
  have J := Lib.hid (J.out.below g10)
  have Y := Lib.hid (Y.out.below g10)
  have X := Lib.hid (X.out.below (below_new w10 (.cells #[.int .i64 mMuln, .int .i64 mMuld] 27)))
  have L := Lib.hid (L.out.below (below_new w10 (.cells #[.int .i64 mMuln, .int .i64 mMuld] 27)))
  have A := Lib.hid (A.out.below (below_new w10 (.cells #[.int .i64 mMuln, .int .i64 mMuld] 27)))
  have B := Lib.hid (B.out.below (below_new w10 (.cells #[.int .i64 mMuln, .int .i64 mMuld] 27)))
  have C := Lib.hid (C.out.below (below_new w10 (.cells #[.int .i64 mMuln, .int .i64 mMuld] 27)))
  have D := Lib.hid (D.out.below (below_new w10 (.cells #[.int .i64 mMuln, .int .i64 mMuld] 27)))
  have I := Lib.hid (I.out.below (below_new w10 (.cells #[.int .i64 mMuln, .int .i64 mMuld] 27)))
  have J := Lib.hid (J.out.below (below_new w10 (.cells #[.int .i64 mMuln, .int .i64 mMuld] 27)))
  have Y := Lib.hid (Y.out.below (below_new w10 (.cells #[.int .i64 mMuln, .int .i64 mMuld] 27)))
  have Z := Lib.hid (BoxAt.new w10 mMuln mMuld)
  have Lc := Lib.hid (below_step Lc.out (below_new w10 (.cells #[.int .i64 mMuln, .int .i64 mMuld] 27)))
  have Y0 := Y.out.2.1; have Y1 := Y.out.2.2
  have Z0 := Z.out.2.1; have Z1 := Z.out.2.2
  go_wp2_with fail
  clear Y0 Y1 Z0 Z1
  go_ret
  exact ⟨rfl, Lc.out⟩

set_option maxRecDepth 100000 in
set_option maxHeartbeats 4000000 in
theorem commW_ss_n (a b c d e f p0 q0 p1 q1 p2 q2 : Int) (w : World) (ad : Addr) (ht : Tab ad w) (fa : Fits a ∧ Fits b) (fc : Fits c ∧ Fits d) (fe : Fits e ∧ Fits f) (an ad1 : Int) (h3 : addR p0 q0 p1 q1 = some (an, ad1)) (xn xd : Int) (h4 : addR p1 q1 p2 q2 = some (xn, xd)) (h5 : mulR p0 q0 p1 q1 = none) (h0 : Ra.red a b = some (p0, q0)) (h1 : Ra.red c d = some (p1, q1)) (h2 : Ra.red e f = some (p2, q2)) :
    Calls Tryd.prog 4 #[pairsV a b c d e f] w fun e' w' => e' = .returned (.bool true) ∧ Below w.heap.size w w' := by
  have o0 := (Ra.red_ok h0).1; have o1 := (Ra.red_ok h1).1; have o2 := (Ra.red_ok h2).1
  have F0 := ok_fits o0; have F1 := ok_fits o1; have F2 := ok_fits o2
  have hs := fun w ht => sane_any w ad ht
  have hm := fun w ht => made_yes a b c d e f p0 q0 p1 q1 p2 q2 w ad ht fa fc fe h0 h1 h2
  have HS := Lib.hid hs; have HM := Lib.hid hm; have T0 := Lib.hid ht
  have kAdd := addR_comm p0 q0 p1 q1
  have A1 := Lib.hid (Add_some (a := ad) h3 F0 F1)
  rw [h3] at kAdd
  have A2 := Lib.hid (Add_some (a := ad) kAdd F1 F0)
  have A3 := Lib.hid (Add_some (a := ad) h4 F1 F2)
  obtain ⟨eAdd, uAdd, vAdd⟩ := addR_assoc o0 o1 o2 h3 h4
  obtain ⟨mAddn, mAddd, mAdde, rAdd, tAdd⟩ := Add_gen an ad1 p2 q2 ad (ok_fits uAdd) F2
  have zAdd := fun w (ht : Tab ad w) => Add_any p0 q0 xn xd w ad ht.err F0 (ok_fits vAdd)
  rw [eAdd, rAdd] at zAdd
  have A4 := Lib.hid tAdd; have A5 := Lib.hid zAdd
  have kMul := mulR_comm p0 q0 p1 q1
  have M1 := Lib.hid (Mul_none (a := ad) h5 F0 F1)
  rw [h5] at kMul
  have M2 := Lib.hid (Mul_none (a := ad) kMul F1 F0)
  obtain ⟨yn, yd, ye, -, tMul⟩ := Mul_gen p1 q1 p2 q2 ad F1 F2
  have M3 := Lib.hid tMul
  clear hs hm ht fa fc fe h0 h1 h2 h3 h5 o0 o1 o2 F0 F1 F2 kAdd h4 eAdd uAdd vAdd rAdd tAdd zAdd kMul tMul
  have R0 := Lib.hid (SixAt.new w 33 a b c d e f)
  go_enter Tryd.func4, Tryd.ntmps4
  go_wp2_with fail
  have Lc := Lib.hid (below_new w (.cells #[.int .i64 a, .int .i64 b, .int .i64 c, .int .i64 d, .int .i64 e, .int .i64 f] 33))
  have X := R0
  refine (HS.out _ (T0.out.below Lc.out)).mono ?_; rintro e w1 ⟨rfl, g1⟩
  have Lc := Lib.hid (below_step Lc.out g1)
  have X := Lib.hid (X.out.below g1)
  have X0 := X.out.c0
  have X1 := X.out.c1
  have X2 := X.out.c2
  have X3 := X.out.c3
  have X4 := X.out.c4
  have X5 := X.out.c5
  go_wp2_with fail
  clear X0 X1 X2 X3 X4 X5
  refine (HM.out _ (T0.out.below Lc.out)).mono ?_; rintro e w2 ⟨rfl, g2⟩
  have Lc := Lib.hid (below_step Lc.out g2)
  have X := Lib.hid (X.out.below g2)
  have X := Lib.hid (X.out.below (below_new w2 (.cells #[.int .i64 p0, .int .i64 q0, .int .i64 p1, .int .i64 q1, .int .i64 p2, .int .i64 q2] 34)))
  have L := Lib.hid (SixAt.new w2 34 p0 q0 p1 q1 p2 q2)
  have Lc := Lib.hid (below_step Lc.out (below_new w2 (.cells #[.int .i64 p0, .int .i64 q0, .int .i64 p1, .int .i64 q1, .int .i64 p2, .int .i64 q2] 34)))
  have L0 := L.out.c0
  have L1 := L.out.c1
  have L2 := L.out.c2
  have L3 := L.out.c3
  have L4 := L.out.c4
  have L5 := L.out.c5
  go_wp2_with fail
  clear L0 L1 L2 L3 L4 L5
  refine (A1.out _ (T0.out.below Lc.out)).mono ?_; rintro e w3 ⟨rfl, g3⟩
  have Lc := Lib.hid (below_step Lc.out g3)
  have X := Lib.hid (X.out.below g3)
  have L := Lib.hid (L.out.below g3)
  have X := Lib.hid (X.out.below (below_new w3 (.cells #[.int .i64 an, .int .i64 ad1] 27)))
  have L := Lib.hid (L.out.below (below_new w3 (.cells #[.int .i64 an, .int .i64 ad1] 27)))
  have A := Lib.hid (BoxAt.new w3 an ad1)
  have Lc := Lib.hid (below_step Lc.out (below_new w3 (.cells #[.int .i64 an, .int .i64 ad1] 27)))
  have L0 := L.out.c0
  have L1 := L.out.c1
  have L2 := L.out.c2
  have L3 := L.out.c3
  have L4 := L.out.c4
  have L5 := L.out.c5
  go_wp2_with fail
  clear L0 L1 L2 L3 L4 L5
  refine (A2.out _ (T0.out.below Lc.out)).mono ?_; rintro e w4 ⟨rfl, g4⟩
  have Lc := Lib.hid (below_step Lc.out g4)
  have X := Lib.hid (X.out.below g4)
  have L := Lib.hid (L.out.below g4)
  have A := Lib.hid (A.out.below g4)
  have X := Lib.hid (X.out.below (below_new w4 (.cells #[.int .i64 an, .int .i64 ad1] 27)))
  have L := Lib.hid (L.out.below (below_new w4 (.cells #[.int .i64 an, .int .i64 ad1] 27)))
  have A := Lib.hid (A.out.below (below_new w4 (.cells #[.int .i64 an, .int .i64 ad1] 27)))
  have B := Lib.hid (BoxAt.new w4 an ad1)
  have Lc := Lib.hid (below_step Lc.out (below_new w4 (.cells #[.int .i64 an, .int .i64 ad1] 27)))
  have L0 := L.out.c0
  have L1 := L.out.c1
  have L2 := L.out.c2
  have L3 := L.out.c3
  have L4 := L.out.c4
  have L5 := L.out.c5
  go_wp2_with fail
  clear L0 L1 L2 L3 L4 L5
  refine (M1.out _ (T0.out.below Lc.out)).mono ?_; rintro e w5 ⟨rfl, g5⟩
  have Lc := Lib.hid (below_step Lc.out g5)
  have X := Lib.hid (X.out.below g5)
  have L := Lib.hid (L.out.below g5)
  have A := Lib.hid (A.out.below g5)
  have B := Lib.hid (B.out.below g5)
  have X := Lib.hid (X.out.below (below_new w5 (.cells #[.int .i64 0, .int .i64 0] 27)))
  have L := Lib.hid (L.out.below (below_new w5 (.cells #[.int .i64 0, .int .i64 0] 27)))
  have A := Lib.hid (A.out.below (below_new w5 (.cells #[.int .i64 0, .int .i64 0] 27)))
  have B := Lib.hid (B.out.below (below_new w5 (.cells #[.int .i64 0, .int .i64 0] 27)))
  have C := Lib.hid (BoxAt.new w5 0 0)
  have Lc := Lib.hid (below_step Lc.out (below_new w5 (.cells #[.int .i64 0, .int .i64 0] 27)))
  have L0 := L.out.c0
  have L1 := L.out.c1
  have L2 := L.out.c2
  have L3 := L.out.c3
  have L4 := L.out.c4
  have L5 := L.out.c5
  go_wp2_with fail
  clear L0 L1 L2 L3 L4 L5
  refine (M2.out _ (T0.out.below Lc.out)).mono ?_; rintro e w6 ⟨rfl, g6⟩
  have Lc := Lib.hid (below_step Lc.out g6)
  have X := Lib.hid (X.out.below g6)
  have L := Lib.hid (L.out.below g6)
  have A := Lib.hid (A.out.below g6)
  have B := Lib.hid (B.out.below g6)
  have C := Lib.hid (C.out.below g6)
  have X := Lib.hid (X.out.below (below_new w6 (.cells #[.int .i64 0, .int .i64 0] 27)))
  have L := Lib.hid (L.out.below (below_new w6 (.cells #[.int .i64 0, .int .i64 0] 27)))
  have A := Lib.hid (A.out.below (below_new w6 (.cells #[.int .i64 0, .int .i64 0] 27)))
  have B := Lib.hid (B.out.below (below_new w6 (.cells #[.int .i64 0, .int .i64 0] 27)))
  have C := Lib.hid (C.out.below (below_new w6 (.cells #[.int .i64 0, .int .i64 0] 27)))
  have D := Lib.hid (BoxAt.new w6 0 0)
  have Lc := Lib.hid (below_step Lc.out (below_new w6 (.cells #[.int .i64 0, .int .i64 0] 27)))
  have L0 := L.out.c0
  have L1 := L.out.c1
  have L2 := L.out.c2
  have L3 := L.out.c3
  have L4 := L.out.c4
  have L5 := L.out.c5
  have A0 := A.out.2.1; have A1 := A.out.2.2
  have B0 := B.out.2.1; have B1 := B.out.2.2
  have C0 := C.out.2.1; have C1 := C.out.2.2
  have D0 := D.out.2.1; have D1 := D.out.2.2
  go_wp2_with fail
  clear L0 L1 L2 L3 L4 L5 A0 A1 B0 B1 C0 C1 D0 D1
  refine (A3.out _ (T0.out.below Lc.out)).mono ?_; rintro e w7 ⟨rfl, g7⟩
  have Lc := Lib.hid (below_step Lc.out g7)
  have X := Lib.hid (X.out.below g7)
  have L := Lib.hid (L.out.below g7)
  have A := Lib.hid (A.out.below g7)
  have B := Lib.hid (B.out.below g7)
  have C := Lib.hid (C.out.below g7)
  have D := Lib.hid (D.out.below g7)
  have X := Lib.hid (X.out.below (below_new w7 (.cells #[.int .i64 xn, .int .i64 xd] 27)))
  have L := Lib.hid (L.out.below (below_new w7 (.cells #[.int .i64 xn, .int .i64 xd] 27)))
  have A := Lib.hid (A.out.below (below_new w7 (.cells #[.int .i64 xn, .int .i64 xd] 27)))
  have B := Lib.hid (B.out.below (below_new w7 (.cells #[.int .i64 xn, .int .i64 xd] 27)))
  have C := Lib.hid (C.out.below (below_new w7 (.cells #[.int .i64 xn, .int .i64 xd] 27)))
  have D := Lib.hid (D.out.below (below_new w7 (.cells #[.int .i64 xn, .int .i64 xd] 27)))
  have I := Lib.hid (BoxAt.new w7 xn xd)
  have Lc := Lib.hid (below_step Lc.out (below_new w7 (.cells #[.int .i64 xn, .int .i64 xd] 27)))
  have L0 := L.out.c0
  have L1 := L.out.c1
  have L2 := L.out.c2
  have L3 := L.out.c3
  have L4 := L.out.c4
  have L5 := L.out.c5
  have A0 := A.out.2.1; have A1 := A.out.2.2
  go_wp2_with fail
  clear L0 L1 L2 L3 L4 L5 A0 A1
  refine (A4.out _ (T0.out.below Lc.out)).mono ?_; rintro e w8 ⟨rfl, g8⟩
  have Lc := Lib.hid (below_step Lc.out g8)
  have X := Lib.hid (X.out.below g8)
  have L := Lib.hid (L.out.below g8)
  have A := Lib.hid (A.out.below g8)
  have B := Lib.hid (B.out.below g8)
  have C := Lib.hid (C.out.below g8)
  have D := Lib.hid (D.out.below g8)
  have I := Lib.hid (I.out.below g8)
  have X := Lib.hid (X.out.below (below_new w8 (.cells #[.int .i64 mAddn, .int .i64 mAddd] 27)))
  have L := Lib.hid (L.out.below (below_new w8 (.cells #[.int .i64 mAddn, .int .i64 mAddd] 27)))
  have A := Lib.hid (A.out.below (below_new w8 (.cells #[.int .i64 mAddn, .int .i64 mAddd] 27)))
  have B := Lib.hid (B.out.below (below_new w8 (.cells #[.int .i64 mAddn, .int .i64 mAddd] 27)))
  have C := Lib.hid (C.out.below (below_new w8 (.cells #[.int .i64 mAddn, .int .i64 mAddd] 27)))
  have D := Lib.hid (D.out.below (below_new w8 (.cells #[.int .i64 mAddn, .int .i64 mAddd] 27)))
  have I := Lib.hid (I.out.below (below_new w8 (.cells #[.int .i64 mAddn, .int .i64 mAddd] 27)))
  have U := Lib.hid (BoxAt.new w8 mAddn mAddd)
  have Lc := Lib.hid (below_step Lc.out (below_new w8 (.cells #[.int .i64 mAddn, .int .i64 mAddd] 27)))
  have L0 := L.out.c0
  have L1 := L.out.c1
  have L2 := L.out.c2
  have L3 := L.out.c3
  have L4 := L.out.c4
  have L5 := L.out.c5
  have I0 := I.out.2.1; have I1 := I.out.2.2
  go_wp2_with fail
  clear L0 L1 L2 L3 L4 L5 I0 I1
  refine (A5.out _ (T0.out.below Lc.out)).mono ?_; rintro e w9 ⟨rfl, g9⟩
  have Lc := Lib.hid (below_step Lc.out g9)
  have X := Lib.hid (X.out.below g9)
  have L := Lib.hid (L.out.below g9)
  have A := Lib.hid (A.out.below g9)
  have B := Lib.hid (B.out.below g9)
  have C := Lib.hid (C.out.below g9)
  have D := Lib.hid (D.out.below g9)
  have I := Lib.hid (I.out.below g9)
  have U := Lib.hid (U.out.below g9)
  have X := Lib.hid (X.out.below (below_new w9 (.cells #[.int .i64 mAddn, .int .i64 mAddd] 27)))
  have L := Lib.hid (L.out.below (below_new w9 (.cells #[.int .i64 mAddn, .int .i64 mAddd] 27)))
  have A := Lib.hid (A.out.below (below_new w9 (.cells #[.int .i64 mAddn, .int .i64 mAddd] 27)))
  have B := Lib.hid (B.out.below (below_new w9 (.cells #[.int .i64 mAddn, .int .i64 mAddd] 27)))
  have C := Lib.hid (C.out.below (below_new w9 (.cells #[.int .i64 mAddn, .int .i64 mAddd] 27)))
  have D := Lib.hid (D.out.below (below_new w9 (.cells #[.int .i64 mAddn, .int .i64 mAddd] 27)))
  have I := Lib.hid (I.out.below (below_new w9 (.cells #[.int .i64 mAddn, .int .i64 mAddd] 27)))
  have U := Lib.hid (U.out.below (below_new w9 (.cells #[.int .i64 mAddn, .int .i64 mAddd] 27)))
  have V := Lib.hid (BoxAt.new w9 mAddn mAddd)
  have Lc := Lib.hid (below_step Lc.out (below_new w9 (.cells #[.int .i64 mAddn, .int .i64 mAddd] 27)))
  have L0 := L.out.c0
  have L1 := L.out.c1
  have L2 := L.out.c2
  have L3 := L.out.c3
  have L4 := L.out.c4
  have L5 := L.out.c5
  have U0 := U.out.2.1; have U1 := U.out.2.2
  have V0 := V.out.2.1; have V1 := V.out.2.2
  go_wp2_with fail
  clear L0 L1 L2 L3 L4 L5 U0 U1 V0 V1
  refine (M3.out _ (T0.out.below Lc.out)).mono ?_; rintro e w10 ⟨rfl, g10⟩
  have Lc := Lib.hid (below_step Lc.out g10)
  have X := Lib.hid (X.out.below g10)
  have L := Lib.hid (L.out.below g10)
  have A := Lib.hid (A.out.below g10)
  have B := Lib.hid (B.out.below g10)
  have C := Lib.hid (C.out.below g10)
  have D := Lib.hid (D.out.below g10)
  have I := Lib.hid (I.out.below g10)
  have U := Lib.hid (U.out.below g10)
  have V := Lib.hid (V.out.below g10)
  have X := Lib.hid (X.out.below (below_new w10 (.cells #[.int .i64 yn, .int .i64 yd] 27)))
  have L := Lib.hid (L.out.below (below_new w10 (.cells #[.int .i64 yn, .int .i64 yd] 27)))
  have A := Lib.hid (A.out.below (below_new w10 (.cells #[.int .i64 yn, .int .i64 yd] 27)))
  have B := Lib.hid (B.out.below (below_new w10 (.cells #[.int .i64 yn, .int .i64 yd] 27)))
  have C := Lib.hid (C.out.below (below_new w10 (.cells #[.int .i64 yn, .int .i64 yd] 27)))
  have D := Lib.hid (D.out.below (below_new w10 (.cells #[.int .i64 yn, .int .i64 yd] 27)))
  have I := Lib.hid (I.out.below (below_new w10 (.cells #[.int .i64 yn, .int .i64 yd] 27)))
  have U := Lib.hid (U.out.below (below_new w10 (.cells #[.int .i64 yn, .int .i64 yd] 27)))
  have V := Lib.hid (V.out.below (below_new w10 (.cells #[.int .i64 yn, .int .i64 yd] 27)))
  have J := Lib.hid (BoxAt.new w10 yn yd)
  have Lc := Lib.hid (below_step Lc.out (below_new w10 (.cells #[.int .i64 yn, .int .i64 yd] 27)))
  go_wp2_with fail
  go_ret
  exact ⟨rfl, Lc.out⟩

set_option maxRecDepth 100000 in
set_option maxHeartbeats 4000000 in
theorem commW_ss_sn (a b c d e f p0 q0 p1 q1 p2 q2 : Int) (w : World) (ad : Addr) (ht : Tab ad w) (fa : Fits a ∧ Fits b) (fc : Fits c ∧ Fits d) (fe : Fits e ∧ Fits f) (an ad1 : Int) (h3 : addR p0 q0 p1 q1 = some (an, ad1)) (xn xd : Int) (h4 : addR p1 q1 p2 q2 = some (xn, xd)) (cn cd : Int) (h5 : mulR p0 q0 p1 q1 = some (cn, cd)) (h6 : mulR p1 q1 p2 q2 = none) (h0 : Ra.red a b = some (p0, q0)) (h1 : Ra.red c d = some (p1, q1)) (h2 : Ra.red e f = some (p2, q2)) :
    Calls Tryd.prog 4 #[pairsV a b c d e f] w fun e' w' => e' = .returned (.bool true) ∧ Below w.heap.size w w' := by
  have o0 := (Ra.red_ok h0).1; have o1 := (Ra.red_ok h1).1; have o2 := (Ra.red_ok h2).1
  have F0 := ok_fits o0; have F1 := ok_fits o1; have F2 := ok_fits o2
  have hs := fun w ht => sane_any w ad ht
  have hm := fun w ht => made_yes a b c d e f p0 q0 p1 q1 p2 q2 w ad ht fa fc fe h0 h1 h2
  have HS := Lib.hid hs; have HM := Lib.hid hm; have T0 := Lib.hid ht
  have kAdd := addR_comm p0 q0 p1 q1
  have A1 := Lib.hid (Add_some (a := ad) h3 F0 F1)
  rw [h3] at kAdd
  have A2 := Lib.hid (Add_some (a := ad) kAdd F1 F0)
  have A3 := Lib.hid (Add_some (a := ad) h4 F1 F2)
  obtain ⟨eAdd, uAdd, vAdd⟩ := addR_assoc o0 o1 o2 h3 h4
  obtain ⟨mAddn, mAddd, mAdde, rAdd, tAdd⟩ := Add_gen an ad1 p2 q2 ad (ok_fits uAdd) F2
  have zAdd := fun w (ht : Tab ad w) => Add_any p0 q0 xn xd w ad ht.err F0 (ok_fits vAdd)
  rw [eAdd, rAdd] at zAdd
  have A4 := Lib.hid tAdd; have A5 := Lib.hid zAdd
  have kMul := mulR_comm p0 q0 p1 q1
  have M1 := Lib.hid (Mul_some (a := ad) h5 F0 F1)
  rw [h5] at kMul
  have M2 := Lib.hid (Mul_some (a := ad) kMul F1 F0)
  have M3 := Lib.hid (Mul_none (a := ad) h6 F1 F2)
  clear hs hm ht fa fc fe h0 h1 h2 h3 h5 o0 o1 o2 F0 F1 F2 kAdd h4 eAdd uAdd vAdd rAdd tAdd zAdd kMul h6
  have R0 := Lib.hid (SixAt.new w 33 a b c d e f)
  go_enter Tryd.func4, Tryd.ntmps4
  go_wp2_with fail
  have Lc := Lib.hid (below_new w (.cells #[.int .i64 a, .int .i64 b, .int .i64 c, .int .i64 d, .int .i64 e, .int .i64 f] 33))
  have X := R0
  refine (HS.out _ (T0.out.below Lc.out)).mono ?_; rintro e w1 ⟨rfl, g1⟩
  have Lc := Lib.hid (below_step Lc.out g1)
  have X := Lib.hid (X.out.below g1)
  have X0 := X.out.c0
  have X1 := X.out.c1
  have X2 := X.out.c2
  have X3 := X.out.c3
  have X4 := X.out.c4
  have X5 := X.out.c5
  go_wp2_with fail
  clear X0 X1 X2 X3 X4 X5
  refine (HM.out _ (T0.out.below Lc.out)).mono ?_; rintro e w2 ⟨rfl, g2⟩
  have Lc := Lib.hid (below_step Lc.out g2)
  have X := Lib.hid (X.out.below g2)
  have X := Lib.hid (X.out.below (below_new w2 (.cells #[.int .i64 p0, .int .i64 q0, .int .i64 p1, .int .i64 q1, .int .i64 p2, .int .i64 q2] 34)))
  have L := Lib.hid (SixAt.new w2 34 p0 q0 p1 q1 p2 q2)
  have Lc := Lib.hid (below_step Lc.out (below_new w2 (.cells #[.int .i64 p0, .int .i64 q0, .int .i64 p1, .int .i64 q1, .int .i64 p2, .int .i64 q2] 34)))
  have L0 := L.out.c0
  have L1 := L.out.c1
  have L2 := L.out.c2
  have L3 := L.out.c3
  have L4 := L.out.c4
  have L5 := L.out.c5
  go_wp2_with fail
  clear L0 L1 L2 L3 L4 L5
  refine (A1.out _ (T0.out.below Lc.out)).mono ?_; rintro e w3 ⟨rfl, g3⟩
  have Lc := Lib.hid (below_step Lc.out g3)
  have X := Lib.hid (X.out.below g3)
  have L := Lib.hid (L.out.below g3)
  have X := Lib.hid (X.out.below (below_new w3 (.cells #[.int .i64 an, .int .i64 ad1] 27)))
  have L := Lib.hid (L.out.below (below_new w3 (.cells #[.int .i64 an, .int .i64 ad1] 27)))
  have A := Lib.hid (BoxAt.new w3 an ad1)
  have Lc := Lib.hid (below_step Lc.out (below_new w3 (.cells #[.int .i64 an, .int .i64 ad1] 27)))
  have L0 := L.out.c0
  have L1 := L.out.c1
  have L2 := L.out.c2
  have L3 := L.out.c3
  have L4 := L.out.c4
  have L5 := L.out.c5
  go_wp2_with fail
  clear L0 L1 L2 L3 L4 L5
  refine (A2.out _ (T0.out.below Lc.out)).mono ?_; rintro e w4 ⟨rfl, g4⟩
  have Lc := Lib.hid (below_step Lc.out g4)
  have X := Lib.hid (X.out.below g4)
  have L := Lib.hid (L.out.below g4)
  have A := Lib.hid (A.out.below g4)
  have X := Lib.hid (X.out.below (below_new w4 (.cells #[.int .i64 an, .int .i64 ad1] 27)))
  have L := Lib.hid (L.out.below (below_new w4 (.cells #[.int .i64 an, .int .i64 ad1] 27)))
  have A := Lib.hid (A.out.below (below_new w4 (.cells #[.int .i64 an, .int .i64 ad1] 27)))
  have B := Lib.hid (BoxAt.new w4 an ad1)
  have Lc := Lib.hid (below_step Lc.out (below_new w4 (.cells #[.int .i64 an, .int .i64 ad1] 27)))
  have L0 := L.out.c0
  have L1 := L.out.c1
  have L2 := L.out.c2
  have L3 := L.out.c3
  have L4 := L.out.c4
  have L5 := L.out.c5
  go_wp2_with fail
  clear L0 L1 L2 L3 L4 L5
  refine (M1.out _ (T0.out.below Lc.out)).mono ?_; rintro e w5 ⟨rfl, g5⟩
  have Lc := Lib.hid (below_step Lc.out g5)
  have X := Lib.hid (X.out.below g5)
  have L := Lib.hid (L.out.below g5)
  have A := Lib.hid (A.out.below g5)
  have B := Lib.hid (B.out.below g5)
  have X := Lib.hid (X.out.below (below_new w5 (.cells #[.int .i64 cn, .int .i64 cd] 27)))
  have L := Lib.hid (L.out.below (below_new w5 (.cells #[.int .i64 cn, .int .i64 cd] 27)))
  have A := Lib.hid (A.out.below (below_new w5 (.cells #[.int .i64 cn, .int .i64 cd] 27)))
  have B := Lib.hid (B.out.below (below_new w5 (.cells #[.int .i64 cn, .int .i64 cd] 27)))
  have C := Lib.hid (BoxAt.new w5 cn cd)
  have Lc := Lib.hid (below_step Lc.out (below_new w5 (.cells #[.int .i64 cn, .int .i64 cd] 27)))
  have L0 := L.out.c0
  have L1 := L.out.c1
  have L2 := L.out.c2
  have L3 := L.out.c3
  have L4 := L.out.c4
  have L5 := L.out.c5
  go_wp2_with fail
  clear L0 L1 L2 L3 L4 L5
  refine (M2.out _ (T0.out.below Lc.out)).mono ?_; rintro e w6 ⟨rfl, g6⟩
  have Lc := Lib.hid (below_step Lc.out g6)
  have X := Lib.hid (X.out.below g6)
  have L := Lib.hid (L.out.below g6)
  have A := Lib.hid (A.out.below g6)
  have B := Lib.hid (B.out.below g6)
  have C := Lib.hid (C.out.below g6)
  have X := Lib.hid (X.out.below (below_new w6 (.cells #[.int .i64 cn, .int .i64 cd] 27)))
  have L := Lib.hid (L.out.below (below_new w6 (.cells #[.int .i64 cn, .int .i64 cd] 27)))
  have A := Lib.hid (A.out.below (below_new w6 (.cells #[.int .i64 cn, .int .i64 cd] 27)))
  have B := Lib.hid (B.out.below (below_new w6 (.cells #[.int .i64 cn, .int .i64 cd] 27)))
  have C := Lib.hid (C.out.below (below_new w6 (.cells #[.int .i64 cn, .int .i64 cd] 27)))
  have D := Lib.hid (BoxAt.new w6 cn cd)
  have Lc := Lib.hid (below_step Lc.out (below_new w6 (.cells #[.int .i64 cn, .int .i64 cd] 27)))
  have L0 := L.out.c0
  have L1 := L.out.c1
  have L2 := L.out.c2
  have L3 := L.out.c3
  have L4 := L.out.c4
  have L5 := L.out.c5
  have A0 := A.out.2.1; have A1 := A.out.2.2
  have B0 := B.out.2.1; have B1 := B.out.2.2
  have C0 := C.out.2.1; have C1 := C.out.2.2
  have D0 := D.out.2.1; have D1 := D.out.2.2
  go_wp2_with fail
  clear L0 L1 L2 L3 L4 L5 A0 A1 B0 B1 C0 C1 D0 D1
  refine (A3.out _ (T0.out.below Lc.out)).mono ?_; rintro e w7 ⟨rfl, g7⟩
  have Lc := Lib.hid (below_step Lc.out g7)
  have X := Lib.hid (X.out.below g7)
  have L := Lib.hid (L.out.below g7)
  have A := Lib.hid (A.out.below g7)
  have B := Lib.hid (B.out.below g7)
  have C := Lib.hid (C.out.below g7)
  have D := Lib.hid (D.out.below g7)
  have X := Lib.hid (X.out.below (below_new w7 (.cells #[.int .i64 xn, .int .i64 xd] 27)))
  have L := Lib.hid (L.out.below (below_new w7 (.cells #[.int .i64 xn, .int .i64 xd] 27)))
  have A := Lib.hid (A.out.below (below_new w7 (.cells #[.int .i64 xn, .int .i64 xd] 27)))
  have B := Lib.hid (B.out.below (below_new w7 (.cells #[.int .i64 xn, .int .i64 xd] 27)))
  have C := Lib.hid (C.out.below (below_new w7 (.cells #[.int .i64 xn, .int .i64 xd] 27)))
  have D := Lib.hid (D.out.below (below_new w7 (.cells #[.int .i64 xn, .int .i64 xd] 27)))
  have I := Lib.hid (BoxAt.new w7 xn xd)
  have Lc := Lib.hid (below_step Lc.out (below_new w7 (.cells #[.int .i64 xn, .int .i64 xd] 27)))
  have L0 := L.out.c0
  have L1 := L.out.c1
  have L2 := L.out.c2
  have L3 := L.out.c3
  have L4 := L.out.c4
  have L5 := L.out.c5
  have A0 := A.out.2.1; have A1 := A.out.2.2
  go_wp2_with fail
  clear L0 L1 L2 L3 L4 L5 A0 A1
  refine (A4.out _ (T0.out.below Lc.out)).mono ?_; rintro e w8 ⟨rfl, g8⟩
  have Lc := Lib.hid (below_step Lc.out g8)
  have X := Lib.hid (X.out.below g8)
  have L := Lib.hid (L.out.below g8)
  have A := Lib.hid (A.out.below g8)
  have B := Lib.hid (B.out.below g8)
  have C := Lib.hid (C.out.below g8)
  have D := Lib.hid (D.out.below g8)
  have I := Lib.hid (I.out.below g8)
  have X := Lib.hid (X.out.below (below_new w8 (.cells #[.int .i64 mAddn, .int .i64 mAddd] 27)))
  have L := Lib.hid (L.out.below (below_new w8 (.cells #[.int .i64 mAddn, .int .i64 mAddd] 27)))
  have A := Lib.hid (A.out.below (below_new w8 (.cells #[.int .i64 mAddn, .int .i64 mAddd] 27)))
  have B := Lib.hid (B.out.below (below_new w8 (.cells #[.int .i64 mAddn, .int .i64 mAddd] 27)))
  have C := Lib.hid (C.out.below (below_new w8 (.cells #[.int .i64 mAddn, .int .i64 mAddd] 27)))
  have D := Lib.hid (D.out.below (below_new w8 (.cells #[.int .i64 mAddn, .int .i64 mAddd] 27)))
  have I := Lib.hid (I.out.below (below_new w8 (.cells #[.int .i64 mAddn, .int .i64 mAddd] 27)))
  have U := Lib.hid (BoxAt.new w8 mAddn mAddd)
  have Lc := Lib.hid (below_step Lc.out (below_new w8 (.cells #[.int .i64 mAddn, .int .i64 mAddd] 27)))
  have L0 := L.out.c0
  have L1 := L.out.c1
  have L2 := L.out.c2
  have L3 := L.out.c3
  have L4 := L.out.c4
  have L5 := L.out.c5
  have I0 := I.out.2.1; have I1 := I.out.2.2
  go_wp2_with fail
  clear L0 L1 L2 L3 L4 L5 I0 I1
  refine (A5.out _ (T0.out.below Lc.out)).mono ?_; rintro e w9 ⟨rfl, g9⟩
  have Lc := Lib.hid (below_step Lc.out g9)
  have X := Lib.hid (X.out.below g9)
  have L := Lib.hid (L.out.below g9)
  have A := Lib.hid (A.out.below g9)
  have B := Lib.hid (B.out.below g9)
  have C := Lib.hid (C.out.below g9)
  have D := Lib.hid (D.out.below g9)
  have I := Lib.hid (I.out.below g9)
  have U := Lib.hid (U.out.below g9)
  have X := Lib.hid (X.out.below (below_new w9 (.cells #[.int .i64 mAddn, .int .i64 mAddd] 27)))
  have L := Lib.hid (L.out.below (below_new w9 (.cells #[.int .i64 mAddn, .int .i64 mAddd] 27)))
  have A := Lib.hid (A.out.below (below_new w9 (.cells #[.int .i64 mAddn, .int .i64 mAddd] 27)))
  have B := Lib.hid (B.out.below (below_new w9 (.cells #[.int .i64 mAddn, .int .i64 mAddd] 27)))
  have C := Lib.hid (C.out.below (below_new w9 (.cells #[.int .i64 mAddn, .int .i64 mAddd] 27)))
  have D := Lib.hid (D.out.below (below_new w9 (.cells #[.int .i64 mAddn, .int .i64 mAddd] 27)))
  have I := Lib.hid (I.out.below (below_new w9 (.cells #[.int .i64 mAddn, .int .i64 mAddd] 27)))
  have U := Lib.hid (U.out.below (below_new w9 (.cells #[.int .i64 mAddn, .int .i64 mAddd] 27)))
  have V := Lib.hid (BoxAt.new w9 mAddn mAddd)
  have Lc := Lib.hid (below_step Lc.out (below_new w9 (.cells #[.int .i64 mAddn, .int .i64 mAddd] 27)))
  have L0 := L.out.c0
  have L1 := L.out.c1
  have L2 := L.out.c2
  have L3 := L.out.c3
  have L4 := L.out.c4
  have L5 := L.out.c5
  have U0 := U.out.2.1; have U1 := U.out.2.2
  have V0 := V.out.2.1; have V1 := V.out.2.2
  go_wp2_with fail
  clear L0 L1 L2 L3 L4 L5 U0 U1 V0 V1
  refine (M3.out _ (T0.out.below Lc.out)).mono ?_; rintro e w10 ⟨rfl, g10⟩
  have Lc := Lib.hid (below_step Lc.out g10)
  have X := Lib.hid (X.out.below g10)
  have L := Lib.hid (L.out.below g10)
  have A := Lib.hid (A.out.below g10)
  have B := Lib.hid (B.out.below g10)
  have C := Lib.hid (C.out.below g10)
  have D := Lib.hid (D.out.below g10)
  have I := Lib.hid (I.out.below g10)
  have U := Lib.hid (U.out.below g10)
  have V := Lib.hid (V.out.below g10)
  have X := Lib.hid (X.out.below (below_new w10 (.cells #[.int .i64 0, .int .i64 0] 27)))
  have L := Lib.hid (L.out.below (below_new w10 (.cells #[.int .i64 0, .int .i64 0] 27)))
  have A := Lib.hid (A.out.below (below_new w10 (.cells #[.int .i64 0, .int .i64 0] 27)))
  have B := Lib.hid (B.out.below (below_new w10 (.cells #[.int .i64 0, .int .i64 0] 27)))
  have C := Lib.hid (C.out.below (below_new w10 (.cells #[.int .i64 0, .int .i64 0] 27)))
  have D := Lib.hid (D.out.below (below_new w10 (.cells #[.int .i64 0, .int .i64 0] 27)))
  have I := Lib.hid (I.out.below (below_new w10 (.cells #[.int .i64 0, .int .i64 0] 27)))
  have U := Lib.hid (U.out.below (below_new w10 (.cells #[.int .i64 0, .int .i64 0] 27)))
  have V := Lib.hid (V.out.below (below_new w10 (.cells #[.int .i64 0, .int .i64 0] 27)))
  have J := Lib.hid (BoxAt.new w10 0 0)
  have Lc := Lib.hid (below_step Lc.out (below_new w10 (.cells #[.int .i64 0, .int .i64 0] 27)))
  go_wp2_with fail
  go_ret
  exact ⟨rfl, Lc.out⟩

set_option maxRecDepth 100000 in
set_option maxHeartbeats 4000000 in
theorem commW_ss_ss (a b c d e f p0 q0 p1 q1 p2 q2 : Int) (w : World) (ad : Addr) (ht : Tab ad w) (fa : Fits a ∧ Fits b) (fc : Fits c ∧ Fits d) (fe : Fits e ∧ Fits f) (an ad1 : Int) (h3 : addR p0 q0 p1 q1 = some (an, ad1)) (xn xd : Int) (h4 : addR p1 q1 p2 q2 = some (xn, xd)) (cn cd : Int) (h5 : mulR p0 q0 p1 q1 = some (cn, cd)) (yn yd : Int) (h6 : mulR p1 q1 p2 q2 = some (yn, yd)) (h0 : Ra.red a b = some (p0, q0)) (h1 : Ra.red c d = some (p1, q1)) (h2 : Ra.red e f = some (p2, q2)) :
    Calls Tryd.prog 4 #[pairsV a b c d e f] w fun e' w' => e' = .returned (.bool true) ∧ Below w.heap.size w w' := by
  have o0 := (Ra.red_ok h0).1; have o1 := (Ra.red_ok h1).1; have o2 := (Ra.red_ok h2).1
  have F0 := ok_fits o0; have F1 := ok_fits o1; have F2 := ok_fits o2
  have hs := fun w ht => sane_any w ad ht
  have hm := fun w ht => made_yes a b c d e f p0 q0 p1 q1 p2 q2 w ad ht fa fc fe h0 h1 h2
  have HS := Lib.hid hs; have HM := Lib.hid hm; have T0 := Lib.hid ht
  have kAdd := addR_comm p0 q0 p1 q1
  have A1 := Lib.hid (Add_some (a := ad) h3 F0 F1)
  rw [h3] at kAdd
  have A2 := Lib.hid (Add_some (a := ad) kAdd F1 F0)
  have A3 := Lib.hid (Add_some (a := ad) h4 F1 F2)
  obtain ⟨eAdd, uAdd, vAdd⟩ := addR_assoc o0 o1 o2 h3 h4
  obtain ⟨mAddn, mAddd, mAdde, rAdd, tAdd⟩ := Add_gen an ad1 p2 q2 ad (ok_fits uAdd) F2
  have zAdd := fun w (ht : Tab ad w) => Add_any p0 q0 xn xd w ad ht.err F0 (ok_fits vAdd)
  rw [eAdd, rAdd] at zAdd
  have A4 := Lib.hid tAdd; have A5 := Lib.hid zAdd
  have kMul := mulR_comm p0 q0 p1 q1
  have M1 := Lib.hid (Mul_some (a := ad) h5 F0 F1)
  rw [h5] at kMul
  have M2 := Lib.hid (Mul_some (a := ad) kMul F1 F0)
  have M3 := Lib.hid (Mul_some (a := ad) h6 F1 F2)
  obtain ⟨eMul, uMul, vMul⟩ := mulR_assoc o0 o1 o2 h5 h6
  obtain ⟨mMuln, mMuld, mMule, rMul, tMul⟩ := Mul_gen cn cd p2 q2 ad (ok_fits uMul) F2
  have zMul := fun w (ht : Tab ad w) => Mul_any p0 q0 yn yd w ad ht.err F0 (ok_fits vMul)
  rw [eMul, rMul] at zMul
  have M4 := Lib.hid tMul; have M5 := Lib.hid zMul
  clear hs hm ht fa fc fe h0 h1 h2 h3 h5 o0 o1 o2 F0 F1 F2 kAdd h4 eAdd uAdd vAdd rAdd tAdd zAdd kMul h6 eMul uMul vMul rMul tMul zMul
  have R0 := Lib.hid (SixAt.new w 33 a b c d e f)
  go_enter Tryd.func4, Tryd.ntmps4
  go_wp2_with fail
  have Lc := Lib.hid (below_new w (.cells #[.int .i64 a, .int .i64 b, .int .i64 c, .int .i64 d, .int .i64 e, .int .i64 f] 33))
  have X := R0
  refine (HS.out _ (T0.out.below Lc.out)).mono ?_; rintro e w1 ⟨rfl, g1⟩
  have Lc := Lib.hid (below_step Lc.out g1)
  have X := Lib.hid (X.out.below g1)
  have X0 := X.out.c0
  have X1 := X.out.c1
  have X2 := X.out.c2
  have X3 := X.out.c3
  have X4 := X.out.c4
  have X5 := X.out.c5
  go_wp2_with fail
  clear X0 X1 X2 X3 X4 X5
  refine (HM.out _ (T0.out.below Lc.out)).mono ?_; rintro e w2 ⟨rfl, g2⟩
  have Lc := Lib.hid (below_step Lc.out g2)
  have X := Lib.hid (X.out.below g2)
  have X := Lib.hid (X.out.below (below_new w2 (.cells #[.int .i64 p0, .int .i64 q0, .int .i64 p1, .int .i64 q1, .int .i64 p2, .int .i64 q2] 34)))
  have L := Lib.hid (SixAt.new w2 34 p0 q0 p1 q1 p2 q2)
  have Lc := Lib.hid (below_step Lc.out (below_new w2 (.cells #[.int .i64 p0, .int .i64 q0, .int .i64 p1, .int .i64 q1, .int .i64 p2, .int .i64 q2] 34)))
  have L0 := L.out.c0
  have L1 := L.out.c1
  have L2 := L.out.c2
  have L3 := L.out.c3
  have L4 := L.out.c4
  have L5 := L.out.c5
  go_wp2_with fail
  clear L0 L1 L2 L3 L4 L5
  refine (A1.out _ (T0.out.below Lc.out)).mono ?_; rintro e w3 ⟨rfl, g3⟩
  have Lc := Lib.hid (below_step Lc.out g3)
  have X := Lib.hid (X.out.below g3)
  have L := Lib.hid (L.out.below g3)
  have X := Lib.hid (X.out.below (below_new w3 (.cells #[.int .i64 an, .int .i64 ad1] 27)))
  have L := Lib.hid (L.out.below (below_new w3 (.cells #[.int .i64 an, .int .i64 ad1] 27)))
  have A := Lib.hid (BoxAt.new w3 an ad1)
  have Lc := Lib.hid (below_step Lc.out (below_new w3 (.cells #[.int .i64 an, .int .i64 ad1] 27)))
  have L0 := L.out.c0
  have L1 := L.out.c1
  have L2 := L.out.c2
  have L3 := L.out.c3
  have L4 := L.out.c4
  have L5 := L.out.c5
  go_wp2_with fail
  clear L0 L1 L2 L3 L4 L5
  refine (A2.out _ (T0.out.below Lc.out)).mono ?_; rintro e w4 ⟨rfl, g4⟩
  have Lc := Lib.hid (below_step Lc.out g4)
  have X := Lib.hid (X.out.below g4)
  have L := Lib.hid (L.out.below g4)
  have A := Lib.hid (A.out.below g4)
  have X := Lib.hid (X.out.below (below_new w4 (.cells #[.int .i64 an, .int .i64 ad1] 27)))
  have L := Lib.hid (L.out.below (below_new w4 (.cells #[.int .i64 an, .int .i64 ad1] 27)))
  have A := Lib.hid (A.out.below (below_new w4 (.cells #[.int .i64 an, .int .i64 ad1] 27)))
  have B := Lib.hid (BoxAt.new w4 an ad1)
  have Lc := Lib.hid (below_step Lc.out (below_new w4 (.cells #[.int .i64 an, .int .i64 ad1] 27)))
  have L0 := L.out.c0
  have L1 := L.out.c1
  have L2 := L.out.c2
  have L3 := L.out.c3
  have L4 := L.out.c4
  have L5 := L.out.c5
  go_wp2_with fail
  clear L0 L1 L2 L3 L4 L5
  refine (M1.out _ (T0.out.below Lc.out)).mono ?_; rintro e w5 ⟨rfl, g5⟩
  have Lc := Lib.hid (below_step Lc.out g5)
  have X := Lib.hid (X.out.below g5)
  have L := Lib.hid (L.out.below g5)
  have A := Lib.hid (A.out.below g5)
  have B := Lib.hid (B.out.below g5)
  have X := Lib.hid (X.out.below (below_new w5 (.cells #[.int .i64 cn, .int .i64 cd] 27)))
  have L := Lib.hid (L.out.below (below_new w5 (.cells #[.int .i64 cn, .int .i64 cd] 27)))
  have A := Lib.hid (A.out.below (below_new w5 (.cells #[.int .i64 cn, .int .i64 cd] 27)))
  have B := Lib.hid (B.out.below (below_new w5 (.cells #[.int .i64 cn, .int .i64 cd] 27)))
  have C := Lib.hid (BoxAt.new w5 cn cd)
  have Lc := Lib.hid (below_step Lc.out (below_new w5 (.cells #[.int .i64 cn, .int .i64 cd] 27)))
  have L0 := L.out.c0
  have L1 := L.out.c1
  have L2 := L.out.c2
  have L3 := L.out.c3
  have L4 := L.out.c4
  have L5 := L.out.c5
  go_wp2_with fail
  clear L0 L1 L2 L3 L4 L5
  refine (M2.out _ (T0.out.below Lc.out)).mono ?_; rintro e w6 ⟨rfl, g6⟩
  have Lc := Lib.hid (below_step Lc.out g6)
  have X := Lib.hid (X.out.below g6)
  have L := Lib.hid (L.out.below g6)
  have A := Lib.hid (A.out.below g6)
  have B := Lib.hid (B.out.below g6)
  have C := Lib.hid (C.out.below g6)
  have X := Lib.hid (X.out.below (below_new w6 (.cells #[.int .i64 cn, .int .i64 cd] 27)))
  have L := Lib.hid (L.out.below (below_new w6 (.cells #[.int .i64 cn, .int .i64 cd] 27)))
  have A := Lib.hid (A.out.below (below_new w6 (.cells #[.int .i64 cn, .int .i64 cd] 27)))
  have B := Lib.hid (B.out.below (below_new w6 (.cells #[.int .i64 cn, .int .i64 cd] 27)))
  have C := Lib.hid (C.out.below (below_new w6 (.cells #[.int .i64 cn, .int .i64 cd] 27)))
  have D := Lib.hid (BoxAt.new w6 cn cd)
  have Lc := Lib.hid (below_step Lc.out (below_new w6 (.cells #[.int .i64 cn, .int .i64 cd] 27)))
  have L0 := L.out.c0
  have L1 := L.out.c1
  have L2 := L.out.c2
  have L3 := L.out.c3
  have L4 := L.out.c4
  have L5 := L.out.c5
  have A0 := A.out.2.1; have A1 := A.out.2.2
  have B0 := B.out.2.1; have B1 := B.out.2.2
  have C0 := C.out.2.1; have C1 := C.out.2.2
  have D0 := D.out.2.1; have D1 := D.out.2.2
  go_wp2_with fail
  clear L0 L1 L2 L3 L4 L5 A0 A1 B0 B1 C0 C1 D0 D1
  refine (A3.out _ (T0.out.below Lc.out)).mono ?_; rintro e w7 ⟨rfl, g7⟩
  have Lc := Lib.hid (below_step Lc.out g7)
  have X := Lib.hid (X.out.below g7)
  have L := Lib.hid (L.out.below g7)
  have A := Lib.hid (A.out.below g7)
  have B := Lib.hid (B.out.below g7)
  have C := Lib.hid (C.out.below g7)
  have D := Lib.hid (D.out.below g7)
  have X := Lib.hid (X.out.below (below_new w7 (.cells #[.int .i64 xn, .int .i64 xd] 27)))
  have L := Lib.hid (L.out.below (below_new w7 (.cells #[.int .i64 xn, .int .i64 xd] 27)))
  have A := Lib.hid (A.out.below (below_new w7 (.cells #[.int .i64 xn, .int .i64 xd] 27)))
  have B := Lib.hid (B.out.below (below_new w7 (.cells #[.int .i64 xn, .int .i64 xd] 27)))
  have C := Lib.hid (C.out.below (below_new w7 (.cells #[.int .i64 xn, .int .i64 xd] 27)))
  have D := Lib.hid (D.out.below (below_new w7 (.cells #[.int .i64 xn, .int .i64 xd] 27)))
  have I := Lib.hid (BoxAt.new w7 xn xd)
  have Lc := Lib.hid (below_step Lc.out (below_new w7 (.cells #[.int .i64 xn, .int .i64 xd] 27)))
  have L0 := L.out.c0
  have L1 := L.out.c1
  have L2 := L.out.c2
  have L3 := L.out.c3
  have L4 := L.out.c4
  have L5 := L.out.c5
  have A0 := A.out.2.1; have A1 := A.out.2.2
  go_wp2_with fail
  clear L0 L1 L2 L3 L4 L5 A0 A1
  refine (A4.out _ (T0.out.below Lc.out)).mono ?_; rintro e w8 ⟨rfl, g8⟩
  have Lc := Lib.hid (below_step Lc.out g8)
  have X := Lib.hid (X.out.below g8)
  have L := Lib.hid (L.out.below g8)
  have A := Lib.hid (A.out.below g8)
  have B := Lib.hid (B.out.below g8)
  have C := Lib.hid (C.out.below g8)
  have D := Lib.hid (D.out.below g8)
  have I := Lib.hid (I.out.below g8)
  have X := Lib.hid (X.out.below (below_new w8 (.cells #[.int .i64 mAddn, .int .i64 mAddd] 27)))
  have L := Lib.hid (L.out.below (below_new w8 (.cells #[.int .i64 mAddn, .int .i64 mAddd] 27)))
  have A := Lib.hid (A.out.below (below_new w8 (.cells #[.int .i64 mAddn, .int .i64 mAddd] 27)))
  have B := Lib.hid (B.out.below (below_new w8 (.cells #[.int .i64 mAddn, .int .i64 mAddd] 27)))
  have C := Lib.hid (C.out.below (below_new w8 (.cells #[.int .i64 mAddn, .int .i64 mAddd] 27)))
  have D := Lib.hid (D.out.below (below_new w8 (.cells #[.int .i64 mAddn, .int .i64 mAddd] 27)))
  have I := Lib.hid (I.out.below (below_new w8 (.cells #[.int .i64 mAddn, .int .i64 mAddd] 27)))
  have U := Lib.hid (BoxAt.new w8 mAddn mAddd)
  have Lc := Lib.hid (below_step Lc.out (below_new w8 (.cells #[.int .i64 mAddn, .int .i64 mAddd] 27)))
  have L0 := L.out.c0
  have L1 := L.out.c1
  have L2 := L.out.c2
  have L3 := L.out.c3
  have L4 := L.out.c4
  have L5 := L.out.c5
  have I0 := I.out.2.1; have I1 := I.out.2.2
  go_wp2_with fail
  clear L0 L1 L2 L3 L4 L5 I0 I1
  refine (A5.out _ (T0.out.below Lc.out)).mono ?_; rintro e w9 ⟨rfl, g9⟩
  have Lc := Lib.hid (below_step Lc.out g9)
  have X := Lib.hid (X.out.below g9)
  have L := Lib.hid (L.out.below g9)
  have A := Lib.hid (A.out.below g9)
  have B := Lib.hid (B.out.below g9)
  have C := Lib.hid (C.out.below g9)
  have D := Lib.hid (D.out.below g9)
  have I := Lib.hid (I.out.below g9)
  have U := Lib.hid (U.out.below g9)
  have X := Lib.hid (X.out.below (below_new w9 (.cells #[.int .i64 mAddn, .int .i64 mAddd] 27)))
  have L := Lib.hid (L.out.below (below_new w9 (.cells #[.int .i64 mAddn, .int .i64 mAddd] 27)))
  have A := Lib.hid (A.out.below (below_new w9 (.cells #[.int .i64 mAddn, .int .i64 mAddd] 27)))
  have B := Lib.hid (B.out.below (below_new w9 (.cells #[.int .i64 mAddn, .int .i64 mAddd] 27)))
  have C := Lib.hid (C.out.below (below_new w9 (.cells #[.int .i64 mAddn, .int .i64 mAddd] 27)))
  have D := Lib.hid (D.out.below (below_new w9 (.cells #[.int .i64 mAddn, .int .i64 mAddd] 27)))
  have I := Lib.hid (I.out.below (below_new w9 (.cells #[.int .i64 mAddn, .int .i64 mAddd] 27)))
  have U := Lib.hid (U.out.below (below_new w9 (.cells #[.int .i64 mAddn, .int .i64 mAddd] 27)))
  have V := Lib.hid (BoxAt.new w9 mAddn mAddd)
  have Lc := Lib.hid (below_step Lc.out (below_new w9 (.cells #[.int .i64 mAddn, .int .i64 mAddd] 27)))
  have L0 := L.out.c0
  have L1 := L.out.c1
  have L2 := L.out.c2
  have L3 := L.out.c3
  have L4 := L.out.c4
  have L5 := L.out.c5
  have U0 := U.out.2.1; have U1 := U.out.2.2
  have V0 := V.out.2.1; have V1 := V.out.2.2
  go_wp2_with fail
  clear L0 L1 L2 L3 L4 L5 U0 U1 V0 V1
  refine (M3.out _ (T0.out.below Lc.out)).mono ?_; rintro e w10 ⟨rfl, g10⟩
  have Lc := Lib.hid (below_step Lc.out g10)
  have X := Lib.hid (X.out.below g10)
  have L := Lib.hid (L.out.below g10)
  have A := Lib.hid (A.out.below g10)
  have B := Lib.hid (B.out.below g10)
  have C := Lib.hid (C.out.below g10)
  have D := Lib.hid (D.out.below g10)
  have I := Lib.hid (I.out.below g10)
  have U := Lib.hid (U.out.below g10)
  have V := Lib.hid (V.out.below g10)
  have X := Lib.hid (X.out.below (below_new w10 (.cells #[.int .i64 yn, .int .i64 yd] 27)))
  have L := Lib.hid (L.out.below (below_new w10 (.cells #[.int .i64 yn, .int .i64 yd] 27)))
  have A := Lib.hid (A.out.below (below_new w10 (.cells #[.int .i64 yn, .int .i64 yd] 27)))
  have B := Lib.hid (B.out.below (below_new w10 (.cells #[.int .i64 yn, .int .i64 yd] 27)))
  have C := Lib.hid (C.out.below (below_new w10 (.cells #[.int .i64 yn, .int .i64 yd] 27)))
  have D := Lib.hid (D.out.below (below_new w10 (.cells #[.int .i64 yn, .int .i64 yd] 27)))
  have I := Lib.hid (I.out.below (below_new w10 (.cells #[.int .i64 yn, .int .i64 yd] 27)))
  have U := Lib.hid (U.out.below (below_new w10 (.cells #[.int .i64 yn, .int .i64 yd] 27)))
  have V := Lib.hid (V.out.below (below_new w10 (.cells #[.int .i64 yn, .int .i64 yd] 27)))
  have J := Lib.hid (BoxAt.new w10 yn yd)
  have Lc := Lib.hid (below_step Lc.out (below_new w10 (.cells #[.int .i64 yn, .int .i64 yd] 27)))
  have L0 := L.out.c0
  have L1 := L.out.c1
  have L2 := L.out.c2
  have L3 := L.out.c3
  have L4 := L.out.c4
  have L5 := L.out.c5
  have C0 := C.out.2.1; have C1 := C.out.2.2
  go_wp2_with fail
  clear L0 L1 L2 L3 L4 L5 C0 C1
  refine (M4.out _ (T0.out.below Lc.out)).mono ?_; rintro e w11 ⟨rfl, g11⟩
  have Lc := Lib.hid (below_step Lc.out g11)
  have X := Lib.hid (X.out.below g11)
  have L := Lib.hid (L.out.below g11)
  have A := Lib.hid (A.out.below g11)
  have B := Lib.hid (B.out.below g11)
  have C := Lib.hid (C.out.below g11)
  have D := Lib.hid (D.out.below g11)
  have I := Lib.hid (I.out.below g11)
  have U := Lib.hid (U.out.below g11)
  have V := Lib.hid (V.out.below g11)
  have J := Lib.hid (J.out.below g11)
  have X := Lib.hid (X.out.below (below_new w11 (.cells #[.int .i64 mMuln, .int .i64 mMuld] 27)))
  have L := Lib.hid (L.out.below (below_new w11 (.cells #[.int .i64 mMuln, .int .i64 mMuld] 27)))
  have A := Lib.hid (A.out.below (below_new w11 (.cells #[.int .i64 mMuln, .int .i64 mMuld] 27)))
  have B := Lib.hid (B.out.below (below_new w11 (.cells #[.int .i64 mMuln, .int .i64 mMuld] 27)))
  have C := Lib.hid (C.out.below (below_new w11 (.cells #[.int .i64 mMuln, .int .i64 mMuld] 27)))
  have D := Lib.hid (D.out.below (below_new w11 (.cells #[.int .i64 mMuln, .int .i64 mMuld] 27)))
  have I := Lib.hid (I.out.below (below_new w11 (.cells #[.int .i64 mMuln, .int .i64 mMuld] 27)))
  have U := Lib.hid (U.out.below (below_new w11 (.cells #[.int .i64 mMuln, .int .i64 mMuld] 27)))
  have V := Lib.hid (V.out.below (below_new w11 (.cells #[.int .i64 mMuln, .int .i64 mMuld] 27)))
  have J := Lib.hid (J.out.below (below_new w11 (.cells #[.int .i64 mMuln, .int .i64 mMuld] 27)))
  have Y := Lib.hid (BoxAt.new w11 mMuln mMuld)
  have Lc := Lib.hid (below_step Lc.out (below_new w11 (.cells #[.int .i64 mMuln, .int .i64 mMuld] 27)))
  have L0 := L.out.c0
  have L1 := L.out.c1
  have L2 := L.out.c2
  have L3 := L.out.c3
  have L4 := L.out.c4
  have L5 := L.out.c5
  have J0 := J.out.2.1; have J1 := J.out.2.2
  go_wp2_with fail
  clear L0 L1 L2 L3 L4 L5 J0 J1
  refine (M5.out _ (T0.out.below Lc.out)).mono ?_; rintro e w12 ⟨rfl, g12⟩
  have Lc := Lib.hid (below_step Lc.out g12)
  have X := Lib.hid (X.out.below g12)
  have L := Lib.hid (L.out.below g12)
  have A := Lib.hid (A.out.below g12)
  have B := Lib.hid (B.out.below g12)
  have C := Lib.hid (C.out.below g12)
  have D := Lib.hid (D.out.below g12)
  have I := Lib.hid (I.out.below g12)
  have U := Lib.hid (U.out.below g12)
  have V := Lib.hid (V.out.below g12)
  have J := Lib.hid (J.out.below g12)
  have Y := Lib.hid (Y.out.below g12)
  have X := Lib.hid (X.out.below (below_new w12 (.cells #[.int .i64 mMuln, .int .i64 mMuld] 27)))
  have L := Lib.hid (L.out.below (below_new w12 (.cells #[.int .i64 mMuln, .int .i64 mMuld] 27)))
  have A := Lib.hid (A.out.below (below_new w12 (.cells #[.int .i64 mMuln, .int .i64 mMuld] 27)))
  have B := Lib.hid (B.out.below (below_new w12 (.cells #[.int .i64 mMuln, .int .i64 mMuld] 27)))
  have C := Lib.hid (C.out.below (below_new w12 (.cells #[.int .i64 mMuln, .int .i64 mMuld] 27)))
  have D := Lib.hid (D.out.below (below_new w12 (.cells #[.int .i64 mMuln, .int .i64 mMuld] 27)))
  have I := Lib.hid (I.out.below (below_new w12 (.cells #[.int .i64 mMuln, .int .i64 mMuld] 27)))
  have U := Lib.hid (U.out.below (below_new w12 (.cells #[.int .i64 mMuln, .int .i64 mMuld] 27)))
  have V := Lib.hid (V.out.below (below_new w12 (.cells #[.int .i64 mMuln, .int .i64 mMuld] 27)))
  have J := Lib.hid (J.out.below (below_new w12 (.cells #[.int .i64 mMuln, .int .i64 mMuld] 27)))
  have Y := Lib.hid (Y.out.below (below_new w12 (.cells #[.int .i64 mMuln, .int .i64 mMuld] 27)))
  have Z := Lib.hid (BoxAt.new w12 mMuln mMuld)
  have Lc := Lib.hid (below_step Lc.out (below_new w12 (.cells #[.int .i64 mMuln, .int .i64 mMuld] 27)))
  have Y0 := Y.out.2.1; have Y1 := Y.out.2.2
  have Z0 := Z.out.2.1; have Z1 := Z.out.2.2
  go_wp2_with fail
  clear Y0 Y1 Z0 Z1
  go_ret
  exact ⟨rfl, Lc.out⟩

theorem commW_some (a b c d e f p0 q0 p1 q1 p2 q2 : Int) (w : World) (ad : Addr) (ht : Tab ad w) (fa : Fits a ∧ Fits b) (fc : Fits c ∧ Fits d) (fe : Fits e ∧ Fits f) (h0 : Ra.red a b = some (p0, q0)) (h1 : Ra.red c d = some (p1, q1)) (h2 : Ra.red e f = some (p2, q2)) :
    Calls Tryd.prog 4 #[pairsV a b c d e f] w fun e' w' => e' = .returned (.bool true) ∧ Below w.heap.size w w' := by
  cases h3 : addR p0 q0 p1 q1 with
  | none =>
    cases h5 : mulR p0 q0 p1 q1 with
    | none => exact commW_n_n a b c d e f p0 q0 p1 q1 p2 q2 w ad ht fa fc fe h3 h5 h0 h1 h2
    | some y =>
      obtain ⟨cn, cd⟩ := y
      cases h6 : mulR p1 q1 p2 q2 with
      | none => exact commW_n_sn a b c d e f p0 q0 p1 q1 p2 q2 w ad ht fa fc fe h3 cn cd h5 h6 h0 h1 h2
      | some z => exact commW_n_ss a b c d e f p0 q0 p1 q1 p2 q2 w ad ht fa fc fe h3 cn cd h5 z.1 z.2 h6 h0 h1 h2
  | some x =>
    obtain ⟨an, ad1⟩ := x
    cases h4 : addR p1 q1 p2 q2 with
    | none =>
      cases h5 : mulR p0 q0 p1 q1 with
      | none => exact commW_sn_n a b c d e f p0 q0 p1 q1 p2 q2 w ad ht fa fc fe an ad1 h3 h4 h5 h0 h1 h2
      | some y =>
        obtain ⟨cn, cd⟩ := y
        cases h6 : mulR p1 q1 p2 q2 with
        | none => exact commW_sn_sn a b c d e f p0 q0 p1 q1 p2 q2 w ad ht fa fc fe an ad1 h3 h4 cn cd h5 h6 h0 h1 h2
        | some z => exact commW_sn_ss a b c d e f p0 q0 p1 q1 p2 q2 w ad ht fa fc fe an ad1 h3 h4 cn cd h5 z.1 z.2 h6 h0 h1 h2
    | some u =>
      obtain ⟨xn, xd⟩ := u
      cases h5 : mulR p0 q0 p1 q1 with
      | none => exact commW_ss_n a b c d e f p0 q0 p1 q1 p2 q2 w ad ht fa fc fe an ad1 h3 xn xd h4 h5 h0 h1 h2
      | some y =>
        obtain ⟨cn, cd⟩ := y
        cases h6 : mulR p1 q1 p2 q2 with
        | none => exact commW_ss_sn a b c d e f p0 q0 p1 q1 p2 q2 w ad ht fa fc fe an ad1 h3 xn xd h4 cn cd h5 h6 h0 h1 h2
        | some z => exact commW_ss_ss a b c d e f p0 q0 p1 q1 p2 q2 w ad ht fa fc fe an ad1 h3 xn xd h4 cn cd h5 z.1 z.2 h6 h0 h1 h2

theorem ratioCommutes_any (a b c d e f : Int) (w : World) (ht : ∃ ad, Tab ad w) (f0 : Fits a) (f1 : Fits b) (f2 : Fits c) (f3 : Fits d) (f4 : Fits e) (f5 : Fits f) :
    Calls Tryd.prog 4 #[pairsV a b c d e f] w fun e' w' => e' = .returned (.bool true) ∧ Below w.heap.size w w' := by
  obtain ⟨ad, ht⟩ := ht
  cases h0 : Ra.red a b with
  | none => exact commW_none a b c d e f w ad ht ⟨f0, f1⟩ ⟨f2, f3⟩ ⟨f4, f5⟩ (.inl h0)
  | some x =>
    cases h1 : Ra.red c d with
    | none => exact commW_none a b c d e f w ad ht ⟨f0, f1⟩ ⟨f2, f3⟩ ⟨f4, f5⟩ (.inr (.inl h1))
    | some y =>
      cases h2 : Ra.red e f with
      | none => exact commW_none a b c d e f w ad ht ⟨f0, f1⟩ ⟨f2, f3⟩ ⟨f4, f5⟩ (.inr (.inr h2))
      | some z =>
        obtain ⟨p0, q0⟩ := x; obtain ⟨p1, q1⟩ := y; obtain ⟨p2, q2⟩ := z
        exact commW_some a b c d e f p0 q0 p1 q1 p2 q2 w ad ht ⟨f0, f1⟩ ⟨f2, f3⟩ ⟨f4, f5⟩ h0 h1 h2
end Go.Proofs.YtmpjcicmkdneeaaDoor
