/-
  The walk of RatioOrder, one case (K5): Compare is a total order that agrees with differences.
-/
import Derived.Test.YtmpjcicmkdneeaaDoorPairs
namespace Go.Proofs.YtmpjcicmkdneeaaDoor
open Go.RowKit Go.Shelf


set_option maxRecDepth 100000 in
set_option maxHeartbeats 4000000 in
theorem ordW_K5_n (a b c d e f p0 q0 p1 q1 p2 q2 : Int) (w : World) (ad : Addr) (ht : Tab ad w) (fa : Fits a ∧ Fits b) (fc : Fits c ∧ Fits d) (fe : Fits e ∧ Fits f) (B C : Int) (hc01 : cmpR p0 q0 p1 q1 = -1) (hc10 : cmpR p1 q1 p0 q0 = 1) (hc12 : cmpR p1 q1 p2 q2 = B) (hc02 : cmpR p0 q0 p2 q2 = C) (hB : B ≤ 0) (hC : C < 0) (ne : ¬ (p0 = p1 ∧ q0 = q1)) (h3 : subR p1 q1 p0 q0 = none) (h0 : Ra.red a b = some (p0, q0)) (h1 : Ra.red c d = some (p1, q1)) (h2 : Ra.red e f = some (p2, q2)) :
    Calls Tryd.prog 7 #[pairsV a b c d e f] w fun e' w' => e' = .returned (.bool true) ∧ Below w.heap.size w w' := by
  have o0 := (Ra.red_ok h0).1; have o1 := (Ra.red_ok h1).1; have o2 := (Ra.red_ok h2).1
  have F0 := ok_fits o0; have F1 := ok_fits o1; have F2 := ok_fits o2
  have hs := fun w ht => sane_any w ad ht
  have hm := fun w ht => made_yes a b c d e f p0 q0 p1 q1 p2 q2 w ad ht fa fc fe h0 h1 h2
  have HS := Lib.hid hs; have HM := Lib.hid hm; have T0 := Lib.hid ht
  have C1 := Lib.hid (Compare_at o0 o1 hc01); have C2 := Lib.hid (Compare_at o1 o2 hc12); have C3 := Lib.hid (Compare_at o0 o2 hc02); have C4 := Lib.hid (Compare_at o1 o0 hc10)
  have S1 := Lib.hid (Sub_none (a := ad) h3 F1 F0)
  have f1 : decide (B ≤ 0) = true := decide_eq_true hB
  have f2 : decide (0 < C) = false := decide_eq_false (Int.not_lt.2 (Int.le_of_lt hC))
  have f3 : decide (0 ≤ C) = false := decide_eq_false (Int.not_le.2 hC)
  clear hs hm ht fa fc fe h0 h1 h2 h3 o0 o1 o2 F0 F1 F2 hc01 hc10 hc12 hc02 hB hC
  have R0 := Lib.hid (SixAt.new w 33 a b c d e f)
  go_enter Tryd.func7, Tryd.ntmps7
  go_wp2_with fail
  have Lc := Lib.hid (below_new w (.cells #[.int .i64 a, .int .i64 b, .int .i64 c, .int .i64 d, .int .i64 e, .int .i64 f] 33))
  have X := R0
  refine (HS.out _ (T0.out.below Lc.out)).mono ?_; rintro e w1 ⟨rfl, g1⟩
  have Lc := Lib.hid (below_step Lc.out g1)
  have X := Lib.hid (X.out.below g1)
  have X0 := X.out.c0
  have X1 := X.out.c1
  have X2 := X.out.c2
  have X3 := X.out.c3
  have X4 := X.out.c4
  have X5 := X.out.c5
  go_wp2_with fail
  clear X0 X1 X2 X3 X4 X5
  refine (HM.out _ (T0.out.below Lc.out)).mono ?_; rintro e w2 ⟨rfl, g2⟩
  have Lc := Lib.hid (below_step Lc.out g2)
  have X := Lib.hid (X.out.below g2)
  have X := Lib.hid (X.out.below (below_new w2 (.cells #[.int .i64 p0, .int .i64 q0, .int .i64 p1, .int .i64 q1, .int .i64 p2, .int .i64 q2] 34)))
  have L := Lib.hid (SixAt.new w2 34 p0 q0 p1 q1 p2 q2)
  have Lc := Lib.hid (below_step Lc.out (below_new w2 (.cells #[.int .i64 p0, .int .i64 q0, .int .i64 p1, .int .i64 q1, .int .i64 p2, .int .i64 q2] 34)))
  have L0 := L.out.c0
  have L1 := L.out.c1
  have L2 := L.out.c2
  have L3 := L.out.c3
  have L4 := L.out.c4
  have L5 := L.out.c5
  go_wp2_with fail
  clear L0 L1 L2 L3 L4 L5
  refine (C1.out _).mono ?_; rintro e w3 ⟨rfl, g3⟩
  have Lc := Lib.hid (below_step Lc.out g3)
  have X := Lib.hid (X.out.below g3)
  have L := Lib.hid (L.out.below g3)
  have L0 := L.out.c0
  have L1 := L.out.c1
  have L2 := L.out.c2
  have L3 := L.out.c3
  have L4 := L.out.c4
  have L5 := L.out.c5
  go_wp2_with fail
  clear L0 L1 L2 L3 L4 L5
  refine (C2.out _).mono ?_; rintro e w4 ⟨rfl, g4⟩
  have Lc := Lib.hid (below_step Lc.out g4)
  have X := Lib.hid (X.out.below g4)
  have L := Lib.hid (L.out.below g4)
  have L0 := L.out.c0
  have L1 := L.out.c1
  have L2 := L.out.c2
  have L3 := L.out.c3
  have L4 := L.out.c4
  have L5 := L.out.c5
  go_wp2_with fail
  clear L0 L1 L2 L3 L4 L5
  refine (C3.out _).mono ?_; rintro e w5 ⟨rfl, g5⟩
  have Lc := Lib.hid (below_step Lc.out g5)
  have X := Lib.hid (X.out.below g5)
  have L := Lib.hid (L.out.below g5)
  have L0 := L.out.c0
  have L1 := L.out.c1
  have L2 := L.out.c2
  have L3 := L.out.c3
  have L4 := L.out.c4
  have L5 := L.out.c5
  go_wp2_with fail
  clear L0 L1 L2 L3 L4 L5
  refine (C4.out _).mono ?_; rintro e w6 ⟨rfl, g6⟩
  have Lc := Lib.hid (below_step Lc.out g6)
  have X := Lib.hid (X.out.below g6)
  have L := Lib.hid (L.out.below g6)
  have L0 := L.out.c0
  have L1 := L.out.c1
  have L2 := L.out.c2
  have L3 := L.out.c3
  have L4 := L.out.c4
  have L5 := L.out.c5
  go_wp2_with fail
  all_goals try (rename p0 = p1 => hq; rw [hq] at S1)
  all_goals
    clear L0 L1 L2 L3 L4 L5
    refine (S1.out _ (T0.out.below Lc.out)).mono ?_; rintro e w7 ⟨rfl, g7⟩
    have Lc := Lib.hid (below_step Lc.out g7)
    have X := Lib.hid (X.out.below g7)
    have L := Lib.hid (L.out.below g7)
    have X := Lib.hid (X.out.below (below_new w7 (.cells #[.int .i64 0, .int .i64 0] 27)))
    have L := Lib.hid (L.out.below (below_new w7 (.cells #[.int .i64 0, .int .i64 0] 27)))
    have D := Lib.hid (BoxAt.new w7 0 0)
    have Lc := Lib.hid (below_step Lc.out (below_new w7 (.cells #[.int .i64 0, .int .i64 0] 27)))
    have D0 := D.out.2.1; have D1 := D.out.2.2
    go_wp2_with fail
    clear D0 D1
    go_ret
    exact ⟨rfl, Lc.out⟩

set_option maxRecDepth 100000 in
set_option maxHeartbeats 4000000 in
theorem ordW_K5_s (a b c d e f p0 q0 p1 q1 p2 q2 : Int) (w : World) (ad : Addr) (ht : Tab ad w) (fa : Fits a ∧ Fits b) (fc : Fits c ∧ Fits d) (fe : Fits e ∧ Fits f) (B C : Int) (hc01 : cmpR p0 q0 p1 q1 = -1) (hc10 : cmpR p1 q1 p0 q0 = 1) (hc12 : cmpR p1 q1 p2 q2 = B) (hc02 : cmpR p0 q0 p2 q2 = C) (hB : B ≤ 0) (hC : C < 0) (ne : ¬ (p0 = p1 ∧ q0 = q1)) (sn sd : Int) (h3 : subR p1 q1 p0 q0 = some (sn, sd)) (hS : 0 < sn) (h0 : Ra.red a b = some (p0, q0)) (h1 : Ra.red c d = some (p1, q1)) (h2 : Ra.red e f = some (p2, q2)) :
    Calls Tryd.prog 7 #[pairsV a b c d e f] w fun e' w' => e' = .returned (.bool true) ∧ Below w.heap.size w w' := by
  have o0 := (Ra.red_ok h0).1; have o1 := (Ra.red_ok h1).1; have o2 := (Ra.red_ok h2).1
  have F0 := ok_fits o0; have F1 := ok_fits o1; have F2 := ok_fits o2
  have hs := fun w ht => sane_any w ad ht
  have hm := fun w ht => made_yes a b c d e f p0 q0 p1 q1 p2 q2 w ad ht fa fc fe h0 h1 h2
  have HS := Lib.hid hs; have HM := Lib.hid hm; have T0 := Lib.hid ht
  have C1 := Lib.hid (Compare_at o0 o1 hc01); have C2 := Lib.hid (Compare_at o1 o2 hc12); have C3 := Lib.hid (Compare_at o0 o2 hc02); have C4 := Lib.hid (Compare_at o1 o0 hc10)
  have S1 := Lib.hid (Sub_some (a := ad) h3 F1 F0)
  have s1 : decide (0 < sn) = true := decide_eq_true hS
  have s2 : (sn == 0) = false := by rw [beq_eq_false_iff_ne]; omega
  have f1 : decide (B ≤ 0) = true := decide_eq_true hB
  have f2 : decide (0 < C) = false := decide_eq_false (Int.not_lt.2 (Int.le_of_lt hC))
  have f3 : decide (0 ≤ C) = false := decide_eq_false (Int.not_le.2 hC)
  clear hs hm ht fa fc fe h0 h1 h2 h3 o0 o1 o2 F0 F1 F2 hc01 hc10 hc12 hc02 hB hC hS
  have R0 := Lib.hid (SixAt.new w 33 a b c d e f)
  go_enter Tryd.func7, Tryd.ntmps7
  go_wp2_with fail
  have Lc := Lib.hid (below_new w (.cells #[.int .i64 a, .int .i64 b, .int .i64 c, .int .i64 d, .int .i64 e, .int .i64 f] 33))
  have X := R0
  refine (HS.out _ (T0.out.below Lc.out)).mono ?_; rintro e w1 ⟨rfl, g1⟩
  have Lc := Lib.hid (below_step Lc.out g1)
  have X := Lib.hid (X.out.below g1)
  have X0 := X.out.c0
  have X1 := X.out.c1
  have X2 := X.out.c2
  have X3 := X.out.c3
  have X4 := X.out.c4
  have X5 := X.out.c5
  go_wp2_with fail
  clear X0 X1 X2 X3 X4 X5
  refine (HM.out _ (T0.out.below Lc.out)).mono ?_; rintro e w2 ⟨rfl, g2⟩
  have Lc := Lib.hid (below_step Lc.out g2)
  have X := Lib.hid (X.out.below g2)
  have X := Lib.hid (X.out.below (below_new w2 (.cells #[.int .i64 p0, .int .i64 q0, .int .i64 p1, .int .i64 q1, .int .i64 p2, .int .i64 q2] 34)))
  have L := Lib.hid (SixAt.new w2 34 p0 q0 p1 q1 p2 q2)
  have Lc := Lib.hid (below_step Lc.out (below_new w2 (.cells #[.int .i64 p0, .int .i64 q0, .int .i64 p1, .int .i64 q1, .int .i64 p2, .int .i64 q2] 34)))
  have L0 := L.out.c0
  have L1 := L.out.c1
  have L2 := L.out.c2
  have L3 := L.out.c3
  have L4 := L.out.c4
  have L5 := L.out.c5
  go_wp2_with fail
  clear L0 L1 L2 L3 L4 L5
  refine (C1.out _).mono ?_; rintro e w3 ⟨rfl, g3⟩
  have Lc := Lib.hid (below_step Lc.out g3)
  have X := Lib.hid (X.out.below g3)
  have L := Lib.hid (L.out.below g3)
  have L0 := L.out.c0
  have L1 := L.out.c1
  have L2 := L.out.c2
  have L3 := L.out.c3
  have L4 := L.out.c4
  have L5 := L.out.c5
  go_wp2_with fail
  clear L0 L1 L2 L3 L4 L5
  refine (C2.out _).mono ?_; rintro e w4 ⟨rfl, g4⟩
  have Lc := Lib.hid (below_step Lc.out g4)
  have X := Lib.hid (X.out.below g4)
  have L := Lib.hid (L.out.below g4)
  have L0 := L.out.c0
  have L1 := L.out.c1
  have L2 := L.out.c2
  have L3 := L.out.c3
  have L4 := L.out.c4
  have L5 := L.out.c5
  go_wp2_with fail
  clear L0 L1 L2 L3 L4 L5
  refine (C3.out _).mono ?_; rintro e w5 ⟨rfl, g5⟩
  have Lc := Lib.hid (below_step Lc.out g5)
  have X := Lib.hid (X.out.below g5)
  have L := Lib.hid (L.out.below g5)
  have L0 := L.out.c0
  have L1 := L.out.c1
  have L2 := L.out.c2
  have L3 := L.out.c3
  have L4 := L.out.c4
  have L5 := L.out.c5
  go_wp2_with fail
  clear L0 L1 L2 L3 L4 L5
  refine (C4.out _).mono ?_; rintro e w6 ⟨rfl, g6⟩
  have Lc := Lib.hid (below_step Lc.out g6)
  have X := Lib.hid (X.out.below g6)
  have L := Lib.hid (L.out.below g6)
  have L0 := L.out.c0
  have L1 := L.out.c1
  have L2 := L.out.c2
  have L3 := L.out.c3
  have L4 := L.out.c4
  have L5 := L.out.c5
  go_wp2_with fail
  all_goals try (rename p0 = p1 => hq; rw [hq] at S1)
  all_goals
    clear L0 L1 L2 L3 L4 L5
    refine (S1.out _ (T0.out.below Lc.out)).mono ?_; rintro e w7 ⟨rfl, g7⟩
    have Lc := Lib.hid (below_step Lc.out g7)
    have X := Lib.hid (X.out.below g7)
    have L := Lib.hid (L.out.below g7)
    have X := Lib.hid (X.out.below (below_new w7 (.cells #[.int .i64 sn, .int .i64 sd] 27)))
    have L := Lib.hid (L.out.below (below_new w7 (.cells #[.int .i64 sn, .int .i64 sd] 27)))
    have D := Lib.hid (BoxAt.new w7 sn sd)
    have Lc := Lib.hid (below_step Lc.out (below_new w7 (.cells #[.int .i64 sn, .int .i64 sd] 27)))
    have D0 := D.out.2.1; have D1 := D.out.2.2
    go_wp2_with fail
    clear D0 D1
    go_ret
    exact ⟨rfl, Lc.out⟩
end Go.Proofs.YtmpjcicmkdneeaaDoor
