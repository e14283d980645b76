/-
  The walk of RatioText, the string parsed, Clamp's answer number 0.
-/
import Derived.Test.YtkkhmgcjaehnkaaDoorTxtB
namespace Go.Proofs.YtkkhmgcjaehnkaaDoor
open Go.RowKit Go.Shelf

set_option maxRecDepth 100000 in
set_option maxHeartbeats 4000000 in
theorem txtW_s_0n (a b c d e f : Int) (s S : ByteArray) (hS : s.extract 0 (min (s.size : Int) 60).toNat = S) (hSz : S.size ≤ 60) (w : World) (ad : Addr) (ht : Tab ad w) (fa : Fits a ∧ Fits b) (fc : Fits c ∧ Fits d) (fe : Fits e ∧ Fits f) (p q : Int) (hp : Ra.parse S.data.toList = some (p, q)) (p0 q0 p1 q1 p2 q2 : Int) (h0 : Ra.red a b = some (p0, q0)) (h1 : Ra.red c d = some (p1, q1)) (h2 : Ra.red e f = some (p2, q2))
    (hc : clampR p0 q0 p1 q1 p2 q2 = (p0, q0)) (A B D : Int) (hA : cmpR p1 q1 p2 q2 = A) (hAA : ¬ 0 < A) (hB : cmpR p1 q1 p0 q0 = B) (hBB : B ≤ 0) (hD : cmpR p0 q0 p2 q2 = D) (hDD : D ≤ 0) :
    Calls Tryd.prog 4 #[pairsV a b c d e f, .string s] w fun e' w' => e' = .returned (.bool true) ∧ Below w.heap.size w w' := by
  have o0 := (Ra.red_ok h0).1; have o1 := (Ra.red_ok h1).1; have o2 := (Ra.red_ok h2).1
  have F0 := ok_fits o0; have F1 := ok_fits o1; have F2 := ok_fits o2
  have hs := fun w ht => sane_any w ad ht
  have hm := fun w ht => made_yes a b c d e f p0 q0 p1 q1 p2 q2 w ad ht fa fc fe h0 h1 h2
  have HS := Lib.hid hs; have HM := Lib.hid hm; have T0 := Lib.hid ht
  have PA := Lib.hid (Parse_some (a := ad) hp hSz); have PB := Lib.hid (Print_some (a := ad) (parse_ok hp).1 (parse_ok hp).2)
  obtain ⟨U, hU⟩ : ∃ U, txtB p0 q0 = U := ⟨_, rfl⟩
  have uq := text_again o0 hU
  have PU := Lib.hid (Print_some (a := ad) o0 hU); have PV := Lib.hid (Parse_some (a := ad) uq.1 uq.2); have PW := Lib.hid (Clamp_at hc F0 F1 F2)
  have CA := Lib.hid (Compare_at o1 o2 hA)
  have CB := Lib.hid (Compare_at o1 o0 hB); have CD := Lib.hid (Compare_at o0 o2 hD)
  have l1 : decide (0 < A) = false := decide_eq_false hAA
  have l2 : decide (B ≤ 0) = true := decide_eq_true hBB
  have l3 : decide (D ≤ 0) = true := decide_eq_true hDD
  clear hs hm ht fa fc fe h0 h1 h2 o0 o1 o2 F0 F1 F2 hp hSz hU uq hc hA hAA hB hBB hD hDD
  have R0 := Lib.hid (SixAt.new w 33 a b c d e f)
  go_enter Tryd.func4, Tryd.ntmps4
  go_wp2_with fail
  have Lc := Lib.hid (below_new w (.cells #[.int .i64 a, .int .i64 b, .int .i64 c, .int .i64 d, .int .i64 e, .int .i64 f] 33))
  have X := R0
  refine (HS.out _ (T0.out.below Lc.out)).mono ?_; rintro e w1 ⟨rfl, g1⟩
  have Lc := Lib.hid (below_step Lc.out g1)
  have X := Lib.hid (X.out.below g1)
  go_wp2_with fail
  refine (PA.out _ (T0.out.below Lc.out)).mono ?_; rintro e w2 ⟨rfl, g2⟩
  have Lc := Lib.hid (below_step Lc.out g2)
  have X := Lib.hid (X.out.below g2)
  have X := Lib.hid (X.out.below (below_new w2 (.cells #[.int .i64 p, .int .i64 q] 27)))
  have K := Lib.hid (BoxAt.new w2 p q)
  have Lc := Lib.hid (below_step Lc.out (below_new w2 (.cells #[.int .i64 p, .int .i64 q] 27)))
  have K0 := K.out.2.1; have K1 := K.out.2.2
  go_wp2_with fail
  clear K0 K1
  refine (PB.out _ (T0.out.below Lc.out)).mono ?_; rintro e w3 ⟨rfl, g3⟩
  have Lc := Lib.hid (below_step Lc.out g3)
  have X := Lib.hid (X.out.below g3)
  have K := Lib.hid (K.out.below g3)
  have K0 := K.out.2.1; have K1 := K.out.2.2
  go_wp2_with fail
  clear K0 K1
  have hne : (S.toList == S.toList) = true := beq_self_eq_true _
  have hne2 : (S.toList != S.toList) = false := by rw [bne, hne]; rfl
  go_quiet (fail)
  clear hne hne2
  have X := Lib.hid (X.out.below (below_drewN (Below.refl _ _) nq))
  have K := Lib.hid (K.out.below (below_drewN (Below.refl _ _) nq))
  have Lc := Lib.hid (below_step Lc.out (below_drewN (Below.refl _ _) nq))
  have X0 := X.out.c0
  have X1 := X.out.c1
  have X2 := X.out.c2
  have X3 := X.out.c3
  have X4 := X.out.c4
  have X5 := X.out.c5
  go_wp2_with fail
  clear X0 X1 X2 X3 X4 X5
  refine (HM.out _ (T0.out.below Lc.out)).mono ?_; rintro e w4 ⟨rfl, g4⟩
  have Lc := Lib.hid (below_step Lc.out g4)
  have X := Lib.hid (X.out.below g4)
  have K := Lib.hid (K.out.below g4)
  have X := Lib.hid (X.out.below (below_new w4 (.cells #[.int .i64 p0, .int .i64 q0, .int .i64 p1, .int .i64 q1, .int .i64 p2, .int .i64 q2] 34)))
  have K := Lib.hid (K.out.below (below_new w4 (.cells #[.int .i64 p0, .int .i64 q0, .int .i64 p1, .int .i64 q1, .int .i64 p2, .int .i64 q2] 34)))
  have L := Lib.hid (SixAt.new w4 34 p0 q0 p1 q1 p2 q2)
  have Lc := Lib.hid (below_step Lc.out (below_new w4 (.cells #[.int .i64 p0, .int .i64 q0, .int .i64 p1, .int .i64 q1, .int .i64 p2, .int .i64 q2] 34)))
  have L0 := L.out.c0
  have L1 := L.out.c1
  have L2 := L.out.c2
  have L3 := L.out.c3
  have L4 := L.out.c4
  have L5 := L.out.c5
  go_wp2_with fail
  clear L0 L1 L2 L3 L4 L5
  refine (PU.out _ (T0.out.below Lc.out)).mono ?_; rintro e w5 ⟨rfl, g5⟩
  have Lc := Lib.hid (below_step Lc.out g5)
  have X := Lib.hid (X.out.below g5)
  have K := Lib.hid (K.out.below g5)
  have L := Lib.hid (L.out.below g5)
  have L0 := L.out.c0
  have L1 := L.out.c1
  have L2 := L.out.c2
  have L3 := L.out.c3
  have L4 := L.out.c4
  have L5 := L.out.c5
  go_wp2_with fail
  clear L0 L1 L2 L3 L4 L5
  refine (PV.out _ (T0.out.below Lc.out)).mono ?_; rintro e w6 ⟨rfl, g6⟩
  have Lc := Lib.hid (below_step Lc.out g6)
  have X := Lib.hid (X.out.below g6)
  have K := Lib.hid (K.out.below g6)
  have L := Lib.hid (L.out.below g6)
  have X := Lib.hid (X.out.below (below_new w6 (.cells #[.int .i64 p0, .int .i64 q0] 27)))
  have K := Lib.hid (K.out.below (below_new w6 (.cells #[.int .i64 p0, .int .i64 q0] 27)))
  have L := Lib.hid (L.out.below (below_new w6 (.cells #[.int .i64 p0, .int .i64 q0] 27)))
  have J := Lib.hid (BoxAt.new w6 p0 q0)
  have Lc := Lib.hid (below_step Lc.out (below_new w6 (.cells #[.int .i64 p0, .int .i64 q0] 27)))
  have L0 := L.out.c0
  have L1 := L.out.c1
  have L2 := L.out.c2
  have L3 := L.out.c3
  have L4 := L.out.c4
  have L5 := L.out.c5
  go_wp2_with fail
  clear L0 L1 L2 L3 L4 L5
  refine (PW.out _).mono ?_; rintro e w7 ⟨rfl, g7⟩
  have Lc := Lib.hid (below_step Lc.out g7)
  have X := Lib.hid (X.out.below g7)
  have K := Lib.hid (K.out.below g7)
  have L := Lib.hid (L.out.below g7)
  have J := Lib.hid (J.out.below g7)
  have X := Lib.hid (X.out.below (below_new w7 (.cells #[.int .i64 p0, .int .i64 q0] 27)))
  have K := Lib.hid (K.out.below (below_new w7 (.cells #[.int .i64 p0, .int .i64 q0] 27)))
  have L := Lib.hid (L.out.below (below_new w7 (.cells #[.int .i64 p0, .int .i64 q0] 27)))
  have J := Lib.hid (J.out.below (below_new w7 (.cells #[.int .i64 p0, .int .i64 q0] 27)))
  have V := Lib.hid (BoxAt.new w7 p0 q0)
  have Lc := Lib.hid (below_step Lc.out (below_new w7 (.cells #[.int .i64 p0, .int .i64 q0] 27)))
  have L0 := L.out.c0
  have L1 := L.out.c1
  have L2 := L.out.c2
  have L3 := L.out.c3
  have L4 := L.out.c4
  have L5 := L.out.c5
  have V0 := V.out.2.1; have V1 := V.out.2.2
  go_wp2_with fail
  clear L0 L1 L2 L3 L4 L5 V0 V1
  refine (CA.out _).mono ?_; rintro e w8 ⟨rfl, g8⟩
  have Lc := Lib.hid (below_step Lc.out g8)
  have X := Lib.hid (X.out.below g8)
  have K := Lib.hid (K.out.below g8)
  have L := Lib.hid (L.out.below g8)
  have J := Lib.hid (J.out.below g8)
  have V := Lib.hid (V.out.below g8)
  have L0 := L.out.c0
  have L1 := L.out.c1
  have L2 := L.out.c2
  have L3 := L.out.c3
  have L4 := L.out.c4
  have L5 := L.out.c5
  have J0 := J.out.2.1; have J1 := J.out.2.2
  have V0 := V.out.2.1; have V1 := V.out.2.2
  go_wp2_with fail
  clear L0 L1 L2 L3 L4 L5 J0 J1 V0 V1
  refine (CB.out _).mono ?_; rintro e w9 ⟨rfl, g9⟩
  have Lc := Lib.hid (below_step Lc.out g9)
  have X := Lib.hid (X.out.below g9)
  have K := Lib.hid (K.out.below g9)
  have L := Lib.hid (L.out.below g9)
  have J := Lib.hid (J.out.below g9)
  have V := Lib.hid (V.out.below g9)
  have L0 := L.out.c0
  have L1 := L.out.c1
  have L2 := L.out.c2
  have L3 := L.out.c3
  have L4 := L.out.c4
  have L5 := L.out.c5
  have J0 := J.out.2.1; have J1 := J.out.2.2
  have V0 := V.out.2.1; have V1 := V.out.2.2
  go_wp2_with fail
  clear L0 L1 L2 L3 L4 L5 J0 J1 V0 V1
  refine (CD.out _).mono ?_; rintro e w10 ⟨rfl, g10⟩
  have Lc := Lib.hid (below_step Lc.out g10)
  have X := Lib.hid (X.out.below g10)
  have K := Lib.hid (K.out.below g10)
  have L := Lib.hid (L.out.below g10)
  have J := Lib.hid (J.out.below g10)
  have V := Lib.hid (V.out.below g10)
  have L0 := L.out.c0
  have L1 := L.out.c1
  have L2 := L.out.c2
  have L3 := L.out.c3
  have L4 := L.out.c4
  have L5 := L.out.c5
  have J0 := J.out.2.1; have J1 := J.out.2.2
  have V0 := V.out.2.1; have V1 := V.out.2.2
  go_wp2_with fail
  all_goals
    clear L0 L1 L2 L3 L4 L5 J0 J1 V0 V1
    go_ret
    exact ⟨rfl, Lc.out⟩
end Go.Proofs.YtkkhmgcjaehnkaaDoor
