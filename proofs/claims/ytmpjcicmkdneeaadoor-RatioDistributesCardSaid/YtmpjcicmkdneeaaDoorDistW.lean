/-
  The walk of RatioDistributes: products distribute over sums, as far as all of them fit.
-/
import Derived.Test.YtmpjcicmkdneeaaDoorPairs
namespace Go.Proofs.YtmpjcicmkdneeaaDoor
open Go.RowKit Go.Shelf

set_option maxRecDepth 100000 in
set_option maxHeartbeats 2000000 in
theorem distW_none (a b c d e f : Int) (w : World) (ad : Addr) (ht : Tab ad w) (fa : Fits a ∧ Fits b) (fc : Fits c ∧ Fits d) (fe : Fits e ∧ Fits f) (h : Ra.red a b = none ∨ Ra.red c d = none ∨ Ra.red e f = none) :
    Calls Tryd.prog 5 #[pairsV a b c d e f] w fun e' w' => e' = .returned (.bool true) ∧ Below w.heap.size w w' := by
  have hs := fun w ht => sane_any w ad ht
  have hm := fun w ht => made_none a b c d e f w ad ht fa fc fe h
  have HS := Lib.hid hs; have HM := Lib.hid hm; have T0 := Lib.hid ht
  clear hs hm ht fa fc fe h
  have R0 := Lib.hid (SixAt.new w 33 a b c d e f)
  go_enter Tryd.func5, Tryd.ntmps5
  go_wp2_with fail
  have Lc := Lib.hid (below_new w (.cells #[.int .i64 a, .int .i64 b, .int .i64 c, .int .i64 d, .int .i64 e, .int .i64 f] 33))
  have X := R0
  refine (HS.out _ (T0.out.below Lc.out)).mono ?_; rintro e w1 ⟨rfl, g1⟩
  have Lc := Lib.hid (below_step Lc.out g1)
  have X := Lib.hid (X.out.below g1)
  have X0 := X.out.c0
  have X1 := X.out.c1
  have X2 := X.out.c2
  have X3 := X.out.c3
  have X4 := X.out.c4
  have X5 := X.out.c5
  go_wp2_with fail
  clear X0 X1 X2 X3 X4 X5
  refine (HM.out _ (T0.out.below Lc.out)).mono ?_; rintro e' w2 ⟨p0, q0, p1, q1, p2, q2, rfl, g2⟩
  have Lc := Lib.hid (below_step Lc.out g2)
  have Lc := Lib.hid (below_step Lc.out (below_new w2 (.cells #[.int .i64 p0, .int .i64 q0, .int .i64 p1, .int .i64 q1, .int .i64 p2, .int .i64 q2] 34)))
  go_wp2_with fail
  go_ret
  exact ⟨rfl, Lc.out⟩

set_option maxRecDepth 100000 in
set_option maxHeartbeats 4000000 in
theorem distW_some (a b c d e f p0 q0 p1 q1 p2 q2 : Int) (w : World) (ad : Addr) (ht : Tab ad w) (fa : Fits a ∧ Fits b) (fc : Fits c ∧ Fits d) (fe : Fits e ∧ Fits f) (h0 : Ra.red a b = some (p0, q0)) (h1 : Ra.red c d = some (p1, q1)) (h2 : Ra.red e f = some (p2, q2)) :
    Calls Tryd.prog 5 #[pairsV a b c d e f] w fun e' w' => e' = .returned (.bool true) ∧ Below w.heap.size w w' := by
  have o0 := (Ra.red_ok h0).1; have o1 := (Ra.red_ok h1).1; have o2 := (Ra.red_ok h2).1
  have F0 := ok_fits o0; have F1 := ok_fits o1; have F2 := ok_fits o2
  have hs := fun w ht => sane_any w ad ht
  have hm := fun w ht => made_yes a b c d e f p0 q0 p1 q1 p2 q2 w ad ht fa fc fe h0 h1 h2
  have HS := Lib.hid hs; have HM := Lib.hid hm; have T0 := Lib.hid ht
  obtain ⟨an, ad1, ae, -, m1⟩ := Mul_gen p0 q0 p1 q1 ad F0 F1
  obtain ⟨bn, bd, be, -, m2⟩ := Mul_gen p0 q0 p2 q2 ad F0 F2
  cases h3 : addR p1 q1 p2 q2 with
  | none =>
    have A1 := Lib.hid (Add_none (a := ad) h3 F1 F2); have M1 := Lib.hid m1; have M2 := Lib.hid m2
    clear hs hm m1 m2 ht fa fc fe h0 h1 h2 h3 o0 o1 o2 F0 F1 F2
    have R0 := Lib.hid (SixAt.new w 33 a b c d e f)
    go_enter Tryd.func5, Tryd.ntmps5
    go_wp2_with fail
    have Lc := Lib.hid (below_new w (.cells #[.int .i64 a, .int .i64 b, .int .i64 c, .int .i64 d, .int .i64 e, .int .i64 f] 33))
    have X := R0
    refine (HS.out _ (T0.out.below Lc.out)).mono ?_; rintro e w1 ⟨rfl, g1⟩
    have Lc := Lib.hid (below_step Lc.out g1)
    have X := Lib.hid (X.out.below g1)
    have X0 := X.out.c0
    have X1 := X.out.c1
    have X2 := X.out.c2
    have X3 := X.out.c3
    have X4 := X.out.c4
    have X5 := X.out.c5
    go_wp2_with fail
    clear X0 X1 X2 X3 X4 X5
    refine (HM.out _ (T0.out.below Lc.out)).mono ?_; rintro e w2 ⟨rfl, g2⟩
    have Lc := Lib.hid (below_step Lc.out g2)
    have X := Lib.hid (X.out.below g2)
    have X := Lib.hid (X.out.below (below_new w2 (.cells #[.int .i64 p0, .int .i64 q0, .int .i64 p1, .int .i64 q1, .int .i64 p2, .int .i64 q2] 34)))
    have L := Lib.hid (SixAt.new w2 34 p0 q0 p1 q1 p2 q2)
    have Lc := Lib.hid (below_step Lc.out (below_new w2 (.cells #[.int .i64 p0, .int .i64 q0, .int .i64 p1, .int .i64 q1, .int .i64 p2, .int .i64 q2] 34)))
    have L0 := L.out.c0
    have L1 := L.out.c1
    have L2 := L.out.c2
    have L3 := L.out.c3
    have L4 := L.out.c4
    have L5 := L.out.c5
    go_wp2_with fail
    clear L0 L1 L2 L3 L4 L5
    refine (A1.out _ (T0.out.below Lc.out)).mono ?_; rintro e w3 ⟨rfl, g3⟩
    have Lc := Lib.hid (below_step Lc.out g3)
    have X := Lib.hid (X.out.below g3)
    have L := Lib.hid (L.out.below g3)
    have X := Lib.hid (X.out.below (below_new w3 (.cells #[.int .i64 0, .int .i64 0] 27)))
    have L := Lib.hid (L.out.below (below_new w3 (.cells #[.int .i64 0, .int .i64 0] 27)))
    have S := Lib.hid (BoxAt.new w3 0 0)
    have Lc := Lib.hid (below_step Lc.out (below_new w3 (.cells #[.int .i64 0, .int .i64 0] 27)))
    have L0 := L.out.c0
    have L1 := L.out.c1
    have L2 := L.out.c2
    have L3 := L.out.c3
    have L4 := L.out.c4
    have L5 := L.out.c5
    go_wp2_with fail
    clear L0 L1 L2 L3 L4 L5
    refine (M1.out _ (T0.out.below Lc.out)).mono ?_; rintro e w4 ⟨rfl, g4⟩
    have Lc := Lib.hid (below_step Lc.out g4)
    have X := Lib.hid (X.out.below g4)
    have L := Lib.hid (L.out.below g4)
    have S := Lib.hid (S.out.below g4)
    have X := Lib.hid (X.out.below (below_new w4 (.cells #[.int .i64 an, .int .i64 ad1] 27)))
    have L := Lib.hid (L.out.below (below_new w4 (.cells #[.int .i64 an, .int .i64 ad1] 27)))
    have S := Lib.hid (S.out.below (below_new w4 (.cells #[.int .i64 an, .int .i64 ad1] 27)))
    have A := Lib.hid (BoxAt.new w4 an ad1)
    have Lc := Lib.hid (below_step Lc.out (below_new w4 (.cells #[.int .i64 an, .int .i64 ad1] 27)))
    have L0 := L.out.c0
    have L1 := L.out.c1
    have L2 := L.out.c2
    have L3 := L.out.c3
    have L4 := L.out.c4
    have L5 := L.out.c5
    go_wp2_with fail
    clear L0 L1 L2 L3 L4 L5
    refine (M2.out _ (T0.out.below Lc.out)).mono ?_; rintro e w5 ⟨rfl, g5⟩
    have Lc := Lib.hid (below_step Lc.out g5)
    have X := Lib.hid (X.out.below g5)
    have L := Lib.hid (L.out.below g5)
    have S := Lib.hid (S.out.below g5)
    have A := Lib.hid (A.out.below g5)
    have X := Lib.hid (X.out.below (below_new w5 (.cells #[.int .i64 bn, .int .i64 bd] 27)))
    have L := Lib.hid (L.out.below (below_new w5 (.cells #[.int .i64 bn, .int .i64 bd] 27)))
    have S := Lib.hid (S.out.below (below_new w5 (.cells #[.int .i64 bn, .int .i64 bd] 27)))
    have A := Lib.hid (A.out.below (below_new w5 (.cells #[.int .i64 bn, .int .i64 bd] 27)))
    have B := Lib.hid (BoxAt.new w5 bn bd)
    have Lc := Lib.hid (below_step Lc.out (below_new w5 (.cells #[.int .i64 bn, .int .i64 bd] 27)))
    go_wp2_with fail
    go_ret
    exact ⟨rfl, Lc.out⟩
  | some x =>
    obtain ⟨sn, sd⟩ := x
    have A1 := Lib.hid (Add_some (a := ad) h3 F1 F2)
    cases h4 : mulR p0 q0 p1 q1 with
    | none =>
      have M1 := Lib.hid (Mul_none (a := ad) h4 F0 F1); have M2 := Lib.hid m2
      clear hs hm m1 m2 ht fa fc fe h0 h1 h2 h3 h4 o0 o1 o2 F0 F1 F2
      have R0 := Lib.hid (SixAt.new w 33 a b c d e f)
      go_enter Tryd.func5, Tryd.ntmps5
      go_wp2_with fail
      have Lc := Lib.hid (below_new w (.cells #[.int .i64 a, .int .i64 b, .int .i64 c, .int .i64 d, .int .i64 e, .int .i64 f] 33))
      have X := R0
      refine (HS.out _ (T0.out.below Lc.out)).mono ?_; rintro e w1 ⟨rfl, g1⟩
      have Lc := Lib.hid (below_step Lc.out g1)
      have X := Lib.hid (X.out.below g1)
      have X0 := X.out.c0
      have X1 := X.out.c1
      have X2 := X.out.c2
      have X3 := X.out.c3
      have X4 := X.out.c4
      have X5 := X.out.c5
      go_wp2_with fail
      clear X0 X1 X2 X3 X4 X5
      refine (HM.out _ (T0.out.below Lc.out)).mono ?_; rintro e w2 ⟨rfl, g2⟩
      have Lc := Lib.hid (below_step Lc.out g2)
      have X := Lib.hid (X.out.below g2)
      have X := Lib.hid (X.out.below (below_new w2 (.cells #[.int .i64 p0, .int .i64 q0, .int .i64 p1, .int .i64 q1, .int .i64 p2, .int .i64 q2] 34)))
      have L := Lib.hid (SixAt.new w2 34 p0 q0 p1 q1 p2 q2)
      have Lc := Lib.hid (below_step Lc.out (below_new w2 (.cells #[.int .i64 p0, .int .i64 q0, .int .i64 p1, .int .i64 q1, .int .i64 p2, .int .i64 q2] 34)))
      have L0 := L.out.c0
      have L1 := L.out.c1
      have L2 := L.out.c2
      have L3 := L.out.c3
      have L4 := L.out.c4
      have L5 := L.out.c5
      go_wp2_with fail
      clear L0 L1 L2 L3 L4 L5
      refine (A1.out _ (T0.out.below Lc.out)).mono ?_; rintro e w3 ⟨rfl, g3⟩
      have Lc := Lib.hid (below_step Lc.out g3)
      have X := Lib.hid (X.out.below g3)
      have L := Lib.hid (L.out.below g3)
      have X := Lib.hid (X.out.below (below_new w3 (.cells #[.int .i64 sn, .int .i64 sd] 27)))
      have L := Lib.hid (L.out.below (below_new w3 (.cells #[.int .i64 sn, .int .i64 sd] 27)))
      have S := Lib.hid (BoxAt.new w3 sn sd)
      have Lc := Lib.hid (below_step Lc.out (below_new w3 (.cells #[.int .i64 sn, .int .i64 sd] 27)))
      have L0 := L.out.c0
      have L1 := L.out.c1
      have L2 := L.out.c2
      have L3 := L.out.c3
      have L4 := L.out.c4
      have L5 := L.out.c5
      go_wp2_with fail
      clear L0 L1 L2 L3 L4 L5
      refine (M1.out _ (T0.out.below Lc.out)).mono ?_; rintro e w4 ⟨rfl, g4⟩
      have Lc := Lib.hid (below_step Lc.out g4)
      have X := Lib.hid (X.out.below g4)
      have L := Lib.hid (L.out.below g4)
      have S := Lib.hid (S.out.below g4)
      have X := Lib.hid (X.out.below (below_new w4 (.cells #[.int .i64 0, .int .i64 0] 27)))
      have L := Lib.hid (L.out.below (below_new w4 (.cells #[.int .i64 0, .int .i64 0] 27)))
      have S := Lib.hid (S.out.below (below_new w4 (.cells #[.int .i64 0, .int .i64 0] 27)))
      have A := Lib.hid (BoxAt.new w4 0 0)
      have Lc := Lib.hid (below_step Lc.out (below_new w4 (.cells #[.int .i64 0, .int .i64 0] 27)))
      have L0 := L.out.c0
      have L1 := L.out.c1
      have L2 := L.out.c2
      have L3 := L.out.c3
      have L4 := L.out.c4
      have L5 := L.out.c5
      go_wp2_with fail
      clear L0 L1 L2 L3 L4 L5
      refine (M2.out _ (T0.out.below Lc.out)).mono ?_; rintro e w5 ⟨rfl, g5⟩
      have Lc := Lib.hid (below_step Lc.out g5)
      have X := Lib.hid (X.out.below g5)
      have L := Lib.hid (L.out.below g5)
      have S := Lib.hid (S.out.below g5)
      have A := Lib.hid (A.out.below g5)
      have X := Lib.hid (X.out.below (below_new w5 (.cells #[.int .i64 bn, .int .i64 bd] 27)))
      have L := Lib.hid (L.out.below (below_new w5 (.cells #[.int .i64 bn, .int .i64 bd] 27)))
      have S := Lib.hid (S.out.below (below_new w5 (.cells #[.int .i64 bn, .int .i64 bd] 27)))
      have A := Lib.hid (A.out.below (below_new w5 (.cells #[.int .i64 bn, .int .i64 bd] 27)))
      have B := Lib.hid (BoxAt.new w5 bn bd)
      have Lc := Lib.hid (below_step Lc.out (below_new w5 (.cells #[.int .i64 bn, .int .i64 bd] 27)))
      go_wp2_with fail
      go_ret
      exact ⟨rfl, Lc.out⟩
    | some y =>
      obtain ⟨an, ad1⟩ := y
      have M1 := Lib.hid (Mul_some (a := ad) h4 F0 F1)
      cases h5 : mulR p0 q0 p2 q2 with
      | none =>
        have M2 := Lib.hid (Mul_none (a := ad) h5 F0 F2)
        clear hs hm m1 m2 ht fa fc fe h0 h1 h2 h3 h4 h5 o0 o1 o2 F0 F1 F2
        have R0 := Lib.hid (SixAt.new w 33 a b c d e f)
        go_enter Tryd.func5, Tryd.ntmps5
        go_wp2_with fail
        have Lc := Lib.hid (below_new w (.cells #[.int .i64 a, .int .i64 b, .int .i64 c, .int .i64 d, .int .i64 e, .int .i64 f] 33))
        have X := R0
        refine (HS.out _ (T0.out.below Lc.out)).mono ?_; rintro e w1 ⟨rfl, g1⟩
        have Lc := Lib.hid (below_step Lc.out g1)
        have X := Lib.hid (X.out.below g1)
        have X0 := X.out.c0
        have X1 := X.out.c1
        have X2 := X.out.c2
        have X3 := X.out.c3
        have X4 := X.out.c4
        have X5 := X.out.c5
        go_wp2_with fail
        clear X0 X1 X2 X3 X4 X5
        refine (HM.out _ (T0.out.below Lc.out)).mono ?_; rintro e w2 ⟨rfl, g2⟩
        have Lc := Lib.hid (below_step Lc.out g2)
        have X := Lib.hid (X.out.below g2)
        have X := Lib.hid (X.out.below (below_new w2 (.cells #[.int .i64 p0, .int .i64 q0, .int .i64 p1, .int .i64 q1, .int .i64 p2, .int .i64 q2] 34)))
        have L := Lib.hid (SixAt.new w2 34 p0 q0 p1 q1 p2 q2)
        have Lc := Lib.hid (below_step Lc.out (below_new w2 (.cells #[.int .i64 p0, .int .i64 q0, .int .i64 p1, .int .i64 q1, .int .i64 p2, .int .i64 q2] 34)))
        have L0 := L.out.c0
        have L1 := L.out.c1
        have L2 := L.out.c2
        have L3 := L.out.c3
        have L4 := L.out.c4
        have L5 := L.out.c5
        go_wp2_with fail
        clear L0 L1 L2 L3 L4 L5
        refine (A1.out _ (T0.out.below Lc.out)).mono ?_; rintro e w3 ⟨rfl, g3⟩
        have Lc := Lib.hid (below_step Lc.out g3)
        have X := Lib.hid (X.out.below g3)
        have L := Lib.hid (L.out.below g3)
        have X := Lib.hid (X.out.below (below_new w3 (.cells #[.int .i64 sn, .int .i64 sd] 27)))
        have L := Lib.hid (L.out.below (below_new w3 (.cells #[.int .i64 sn, .int .i64 sd] 27)))
        have S := Lib.hid (BoxAt.new w3 sn sd)
        have Lc := Lib.hid (below_step Lc.out (below_new w3 (.cells #[.int .i64 sn, .int .i64 sd] 27)))
        have L0 := L.out.c0
        have L1 := L.out.c1
        have L2 := L.out.c2
        have L3 := L.out.c3
        have L4 := L.out.c4
        have L5 := L.out.c5
        go_wp2_with fail
        clear L0 L1 L2 L3 L4 L5
        refine (M1.out _ (T0.out.below Lc.out)).mono ?_; rintro e w4 ⟨rfl, g4⟩
        have Lc := Lib.hid (below_step Lc.out g4)
        have X := Lib.hid (X.out.below g4)
        have L := Lib.hid (L.out.below g4)
        have S := Lib.hid (S.out.below g4)
        have X := Lib.hid (X.out.below (below_new w4 (.cells #[.int .i64 an, .int .i64 ad1] 27)))
        have L := Lib.hid (L.out.below (below_new w4 (.cells #[.int .i64 an, .int .i64 ad1] 27)))
        have S := Lib.hid (S.out.below (below_new w4 (.cells #[.int .i64 an, .int .i64 ad1] 27)))
        have A := Lib.hid (BoxAt.new w4 an ad1)
        have Lc := Lib.hid (below_step Lc.out (below_new w4 (.cells #[.int .i64 an, .int .i64 ad1] 27)))
        have L0 := L.out.c0
        have L1 := L.out.c1
        have L2 := L.out.c2
        have L3 := L.out.c3
        have L4 := L.out.c4
        have L5 := L.out.c5
        go_wp2_with fail
        clear L0 L1 L2 L3 L4 L5
        refine (M2.out _ (T0.out.below Lc.out)).mono ?_; rintro e w5 ⟨rfl, g5⟩
        have Lc := Lib.hid (below_step Lc.out g5)
        have X := Lib.hid (X.out.below g5)
        have L := Lib.hid (L.out.below g5)
        have S := Lib.hid (S.out.below g5)
        have A := Lib.hid (A.out.below g5)
        have X := Lib.hid (X.out.below (below_new w5 (.cells #[.int .i64 0, .int .i64 0] 27)))
        have L := Lib.hid (L.out.below (below_new w5 (.cells #[.int .i64 0, .int .i64 0] 27)))
        have S := Lib.hid (S.out.below (below_new w5 (.cells #[.int .i64 0, .int .i64 0] 27)))
        have A := Lib.hid (A.out.below (below_new w5 (.cells #[.int .i64 0, .int .i64 0] 27)))
        have B := Lib.hid (BoxAt.new w5 0 0)
        have Lc := Lib.hid (below_step Lc.out (below_new w5 (.cells #[.int .i64 0, .int .i64 0] 27)))
        go_wp2_with fail
        go_ret
        exact ⟨rfl, Lc.out⟩
      | some z =>
        obtain ⟨bn, bd⟩ := z
        have M2 := Lib.hid (Mul_some (a := ad) h5 F0 F2)
        have r3 : Ra.red (p1 * q2 + p2 * q1) (q1 * q2) = some (sn, sd) := by unfold addR at h3; rwa [if_pos ⟨o1, o2⟩] at h3
        have r4 : Ra.red (p0 * p1) (q0 * q1) = some (an, ad1) := by unfold mulR at h4; rwa [if_pos ⟨o0, o1⟩] at h4
        have r5 : Ra.red (p0 * p2) (q0 * q2) = some (bn, bd) := by unfold mulR at h5; rwa [if_pos ⟨o0, o2⟩] at h5
        have key : addR an ad1 bn bd = mulR p0 q0 sn sd := by
          unfold addR mulR
          rw [if_pos ⟨(Ra.red_ok r4).1, (Ra.red_ok r5).1⟩, if_pos ⟨o0, (Ra.red_ok r3).1⟩]
          exact (Ra.distrib' o0 o1 o2 r3 r4 r5).symm
        obtain ⟨cn, cd, ce, hc, m3⟩ := Mul_gen p0 q0 sn sd ad F0 (ok_fits (Ra.red_ok r3).1)
        have a2 := fun w (ht : Tab ad w) => Add_any an ad1 bn bd w ad ht.err (ok_fits (Ra.red_ok r4).1) (ok_fits (Ra.red_ok r5).1)
        rw [key, hc] at a2
        have M3 := Lib.hid m3; have A2 := Lib.hid a2
        clear hs hm m1 m2 m3 a2 ht fa fc fe h0 h1 h2 h3 h4 h5 o0 o1 o2 F0 F1 F2 r3 r4 r5 key hc
        have R0 := Lib.hid (SixAt.new w 33 a b c d e f)
        go_enter Tryd.func5, Tryd.ntmps5
        go_wp2_with fail
        have Lc := Lib.hid (below_new w (.cells #[.int .i64 a, .int .i64 b, .int .i64 c, .int .i64 d, .int .i64 e, .int .i64 f] 33))
        have X := R0
        refine (HS.out _ (T0.out.below Lc.out)).mono ?_; rintro e w1 ⟨rfl, g1⟩
        have Lc := Lib.hid (below_step Lc.out g1)
        have X := Lib.hid (X.out.below g1)
        have X0 := X.out.c0
        have X1 := X.out.c1
        have X2 := X.out.c2
        have X3 := X.out.c3
        have X4 := X.out.c4
        have X5 := X.out.c5
        go_wp2_with fail
        clear X0 X1 X2 X3 X4 X5
        refine (HM.out _ (T0.out.below Lc.out)).mono ?_; rintro e w2 ⟨rfl, g2⟩
        have Lc := Lib.hid (below_step Lc.out g2)
        have X := Lib.hid (X.out.below g2)
        have X := Lib.hid (X.out.below (below_new w2 (.cells #[.int .i64 p0, .int .i64 q0, .int .i64 p1, .int .i64 q1, .int .i64 p2, .int .i64 q2] 34)))
        have L := Lib.hid (SixAt.new w2 34 p0 q0 p1 q1 p2 q2)
        have Lc := Lib.hid (below_step Lc.out (below_new w2 (.cells #[.int .i64 p0, .int .i64 q0, .int .i64 p1, .int .i64 q1, .int .i64 p2, .int .i64 q2] 34)))
        have L0 := L.out.c0
        have L1 := L.out.c1
        have L2 := L.out.c2
        have L3 := L.out.c3
        have L4 := L.out.c4
        have L5 := L.out.c5
        go_wp2_with fail
        clear L0 L1 L2 L3 L4 L5
        refine (A1.out _ (T0.out.below Lc.out)).mono ?_; rintro e w3 ⟨rfl, g3⟩
        have Lc := Lib.hid (below_step Lc.out g3)
        have X := Lib.hid (X.out.below g3)
        have L := Lib.hid (L.out.below g3)
        have X := Lib.hid (X.out.below (below_new w3 (.cells #[.int .i64 sn, .int .i64 sd] 27)))
        have L := Lib.hid (L.out.below (below_new w3 (.cells #[.int .i64 sn, .int .i64 sd] 27)))
        have S := Lib.hid (BoxAt.new w3 sn sd)
        have Lc := Lib.hid (below_step Lc.out (below_new w3 (.cells #[.int .i64 sn, .int .i64 sd] 27)))
        have L0 := L.out.c0
        have L1 := L.out.c1
        have L2 := L.out.c2
        have L3 := L.out.c3
        have L4 := L.out.c4
        have L5 := L.out.c5
        go_wp2_with fail
        clear L0 L1 L2 L3 L4 L5
        refine (M1.out _ (T0.out.below Lc.out)).mono ?_; rintro e w4 ⟨rfl, g4⟩
        have Lc := Lib.hid (below_step Lc.out g4)
        have X := Lib.hid (X.out.below g4)
        have L := Lib.hid (L.out.below g4)
        have S := Lib.hid (S.out.below g4)
        have X := Lib.hid (X.out.below (below_new w4 (.cells #[.int .i64 an, .int .i64 ad1] 27)))
        have L := Lib.hid (L.out.below (below_new w4 (.cells #[.int .i64 an, .int .i64 ad1] 27)))
        have S := Lib.hid (S.out.below (below_new w4 (.cells #[.int .i64 an, .int .i64 ad1] 27)))
        have A := Lib.hid (BoxAt.new w4 an ad1)
        have Lc := Lib.hid (below_step Lc.out (below_new w4 (.cells #[.int .i64 an, .int .i64 ad1] 27)))
        have L0 := L.out.c0
        have L1 := L.out.c1
        have L2 := L.out.c2
        have L3 := L.out.c3
        have L4 := L.out.c4
        have L5 := L.out.c5
        go_wp2_with fail
        clear L0 L1 L2 L3 L4 L5
        refine (M2.out _ (T0.out.below Lc.out)).mono ?_; rintro e w5 ⟨rfl, g5⟩
        have Lc := Lib.hid (below_step Lc.out g5)
        have X := Lib.hid (X.out.below g5)
        have L := Lib.hid (L.out.below g5)
        have S := Lib.hid (S.out.below g5)
        have A := Lib.hid (A.out.below g5)
        have X := Lib.hid (X.out.below (below_new w5 (.cells #[.int .i64 bn, .int .i64 bd] 27)))
        have L := Lib.hid (L.out.below (below_new w5 (.cells #[.int .i64 bn, .int .i64 bd] 27)))
        have S := Lib.hid (S.out.below (below_new w5 (.cells #[.int .i64 bn, .int .i64 bd] 27)))
        have A := Lib.hid (A.out.below (below_new w5 (.cells #[.int .i64 bn, .int .i64 bd] 27)))
        have B := Lib.hid (BoxAt.new w5 bn bd)
        have Lc := Lib.hid (below_step Lc.out (below_new w5 (.cells #[.int .i64 bn, .int .i64 bd] 27)))
        have L0 := L.out.c0
        have L1 := L.out.c1
        have L2 := L.out.c2
        have L3 := L.out.c3
        have L4 := L.out.c4
        have L5 := L.out.c5
        have S0 := S.out.2.1; have S1 := S.out.2.2
        go_wp2_with fail
        clear L0 L1 L2 L3 L4 L5 S0 S1
        refine (M3.out _ (T0.out.below Lc.out)).mono ?_; rintro e w6 ⟨rfl, g6⟩
        have Lc := Lib.hid (below_step Lc.out g6)
        have X := Lib.hid (X.out.below g6)
        have L := Lib.hid (L.out.below g6)
        have S := Lib.hid (S.out.below g6)
        have A := Lib.hid (A.out.below g6)
        have B := Lib.hid (B.out.below g6)
        have X := Lib.hid (X.out.below (below_new w6 (.cells #[.int .i64 cn, .int .i64 cd] 27)))
        have L := Lib.hid (L.out.below (below_new w6 (.cells #[.int .i64 cn, .int .i64 cd] 27)))
        have S := Lib.hid (S.out.below (below_new w6 (.cells #[.int .i64 cn, .int .i64 cd] 27)))
        have A := Lib.hid (A.out.below (below_new w6 (.cells #[.int .i64 cn, .int .i64 cd] 27)))
        have B := Lib.hid (B.out.below (below_new w6 (.cells #[.int .i64 cn, .int .i64 cd] 27)))
        have C := Lib.hid (BoxAt.new w6 cn cd)
        have Lc := Lib.hid (below_step Lc.out (below_new w6 (.cells #[.int .i64 cn, .int .i64 cd] 27)))
        have A0 := A.out.2.1; have A1 := A.out.2.2
        have B0 := B.out.2.1; have B1 := B.out.2.2
        go_wp2_with fail
        clear A0 A1 B0 B1
        refine (A2.out _ (T0.out.below Lc.out)).mono ?_; rintro e w7 ⟨rfl, g7⟩
        have Lc := Lib.hid (below_step Lc.out g7)
        have X := Lib.hid (X.out.below g7)
        have L := Lib.hid (L.out.below g7)
        have S := Lib.hid (S.out.below g7)
        have A := Lib.hid (A.out.below g7)
        have B := Lib.hid (B.out.below g7)
        have C := Lib.hid (C.out.below g7)
        have X := Lib.hid (X.out.below (below_new w7 (.cells #[.int .i64 cn, .int .i64 cd] 27)))
        have L := Lib.hid (L.out.below (below_new w7 (.cells #[.int .i64 cn, .int .i64 cd] 27)))
        have S := Lib.hid (S.out.below (below_new w7 (.cells #[.int .i64 cn, .int .i64 cd] 27)))
        have A := Lib.hid (A.out.below (below_new w7 (.cells #[.int .i64 cn, .int .i64 cd] 27)))
        have B := Lib.hid (B.out.below (below_new w7 (.cells #[.int .i64 cn, .int .i64 cd] 27)))
        have C := Lib.hid (C.out.below (below_new w7 (.cells #[.int .i64 cn, .int .i64 cd] 27)))
        have D := Lib.hid (BoxAt.new w7 cn cd)
        have Lc := Lib.hid (below_step Lc.out (below_new w7 (.cells #[.int .i64 cn, .int .i64 cd] 27)))
        have C0 := C.out.2.1; have C1 := C.out.2.2
        have D0 := D.out.2.1; have D1 := D.out.2.2
        go_wp2_with fail
        clear C0 C1 D0 D1
        go_ret
        exact ⟨rfl, Lc.out⟩

theorem ratioDistributes_any (a b c d e f : Int) (w : World) (ht : ∃ ad, Tab ad w) (f0 : Fits a) (f1 : Fits b) (f2 : Fits c) (f3 : Fits d) (f4 : Fits e) (f5 : Fits f) :
    Calls Tryd.prog 5 #[pairsV a b c d e f] w fun e' w' => e' = .returned (.bool true) ∧ Below w.heap.size w w' := by
  obtain ⟨ad, ht⟩ := ht
  cases h0 : Ra.red a b with
  | none => exact distW_none a b c d e f w ad ht ⟨f0, f1⟩ ⟨f2, f3⟩ ⟨f4, f5⟩ (.inl h0)
  | some x =>
    cases h1 : Ra.red c d with
    | none => exact distW_none a b c d e f w ad ht ⟨f0, f1⟩ ⟨f2, f3⟩ ⟨f4, f5⟩ (.inr (.inl h1))
    | some y =>
      cases h2 : Ra.red e f with
      | none => exact distW_none a b c d e f w ad ht ⟨f0, f1⟩ ⟨f2, f3⟩ ⟨f4, f5⟩ (.inr (.inr h2))
      | some z =>
        obtain ⟨p0, q0⟩ := x; obtain ⟨p1, q1⟩ := y; obtain ⟨p2, q2⟩ := z
        exact distW_some a b c d e f p0 q0 p1 q1 p2 q2 w ad ht ⟨f0, f1⟩ ⟨f2, f3⟩ ⟨f4, f5⟩ h0 h1 h2
end Go.Proofs.YtmpjcicmkdneeaaDoor
