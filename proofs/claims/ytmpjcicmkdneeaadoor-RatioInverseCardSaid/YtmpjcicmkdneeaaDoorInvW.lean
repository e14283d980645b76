/-
  The walk of RatioInverse: subtracting undoes adding, and dividing undoes multiplying; integers are added and multiplied as usual.
-/
import Derived.Test.YtmpjcicmkdneeaaDoorPairs
namespace Go.Proofs.YtmpjcicmkdneeaaDoor
open Go.RowKit Go.Shelf

set_option maxRecDepth 100000 in
set_option maxHeartbeats 4000000 in
theorem invW_none (a b c d e f m n : Int) (w : World) (ad : Addr) (ht : Tab ad w) (fa : Fits a ∧ Fits b) (fc : Fits c ∧ Fits d) (fe : Fits e ∧ Fits f) (h : Ra.red a b = none ∨ Ra.red c d = none ∨ Ra.red e f = none) :
    Calls Tryd.prog 6 #[pairsV a b c d e f, .int .i64 m, .int .i64 n] w fun e' w' => e' = .returned (.bool true) ∧ Below w.heap.size w w' := by
  have hs := fun w ht => sane_any w ad ht
  have hm := fun w ht => made_none a b c d e f w ad ht fa fc fe h
  have HS := Lib.hid hs; have HM := Lib.hid hm; have T0 := Lib.hid ht
  have hM0 : -1000 ≤ m.tmod 1001 ∧ m.tmod 1001 ≤ 1000 := by have h1 := Int.tmod_lt_of_pos m (by omega : (0 : Int) < 1001); have h2 := Int.lt_tmod_of_pos m (by omega : (0 : Int) < 1001); omega
  have hN0 : -1000 ≤ n.tmod 1001 ∧ n.tmod 1001 ≤ 1000 := by have h1 := Int.tmod_lt_of_pos n (by omega : (0 : Int) < 1001); have h2 := Int.lt_tmod_of_pos n (by omega : (0 : Int) < 1001); omega
  obtain ⟨M, hM⟩ : ∃ M, m.tmod 1001 = M := ⟨_, rfl⟩
  obtain ⟨N, hN⟩ : ∃ N, n.tmod 1001 = N := ⟨_, rfl⟩
  rw [hM] at hM0; rw [hN] at hN0
  obtain ⟨M1', M2'⟩ := hM0; obtain ⟨N1', N2'⟩ := hN0
  have prod : -1000000 ≤ M * N ∧ M * N ≤ 1000000 := by
    have h1 : (M * N).natAbs ≤ 1000 * 1000 := by rw [Int.natAbs_mul]; exact Nat.mul_le_mul (by omega) (by omega)
    omega
  have x1 := Make_some (a := ad) (Ra.red_int M (by omega) (by omega)) ⟨by omega, by omega⟩ ⟨by decide, by decide⟩
  have x2 := Make_some (a := ad) (Ra.red_int N (by omega) (by omega)) ⟨by omega, by omega⟩ ⟨by decide, by decide⟩
  have oM := Ra.ok_int M (by omega) (by omega); have oN := Ra.ok_int N (by omega) (by omega)
  have x3 : addR M 1 N 1 = some (M + N, 1) := by unfold addR; rw [if_pos ⟨oM, oN⟩, Int.mul_one, Int.mul_one, Int.mul_one]; exact Ra.red_int _ (by omega) (by omega)
  have x4 : mulR M 1 N 1 = some (M * N, 1) := by unfold mulR; rw [if_pos ⟨oM, oN⟩, Int.mul_one]; exact Ra.red_int _ (by omega) (by omega)
  have x5 := Add_some (a := ad) x3 (ok_fits oM) (ok_fits oN)
  have x6 := Mul_some (a := ad) x4 (ok_fits oM) (ok_fits oN)
  have P1 := Lib.hid x1; have P2 := Lib.hid x2; have P3 := Lib.hid x5; have P4 := Lib.hid x6
  have e1 : IntKind.i64.wrap (M + N) = M + N := IntWalk.i64_in _ (by omega)
  have e2 : IntKind.i64.wrap (M * N) = M * N := IntWalk.i64_in _ (by omega)
  have E1 := Lib.hid e1; have E2 := Lib.hid e2
  have HI := Lib.hid is_any
  clear prod x1 x2 oM oN x3 x4 x5 x6 e1 e2
  clear hs hm ht fa fc fe h
  have R0 := Lib.hid (SixAt.new w 33 a b c d e f)
  go_enter Tryd.func6, Tryd.ntmps6
  go_wp2_with fail
  have Lc := Lib.hid (below_new w (.cells #[.int .i64 a, .int .i64 b, .int .i64 c, .int .i64 d, .int .i64 e, .int .i64 f] 33))
  have X := R0
  refine (HS.out _ (T0.out.below Lc.out)).mono ?_; rintro e w1 ⟨rfl, g1⟩
  have Lc := Lib.hid (below_step Lc.out g1)
  have X := Lib.hid (X.out.below g1)
  go_wp2_with fail
  refine (P1.out _ (T0.out.below Lc.out)).mono ?_; rintro e w2 ⟨rfl, g2⟩
  have Lc := Lib.hid (below_step Lc.out g2)
  have X := Lib.hid (X.out.below g2)
  have X := Lib.hid (X.out.below (below_new w2 (.cells #[.int .i64 M, .int .i64 1] 27)))
  have P := Lib.hid (BoxAt.new w2 M 1)
  have Lc := Lib.hid (below_step Lc.out (below_new w2 (.cells #[.int .i64 M, .int .i64 1] 27)))
  go_wp2_with fail
  refine (P2.out _ (T0.out.below Lc.out)).mono ?_; rintro e w3 ⟨rfl, g3⟩
  have Lc := Lib.hid (below_step Lc.out g3)
  have X := Lib.hid (X.out.below g3)
  have P := Lib.hid (P.out.below g3)
  have X := Lib.hid (X.out.below (below_new w3 (.cells #[.int .i64 N, .int .i64 1] 27)))
  have P := Lib.hid (P.out.below (below_new w3 (.cells #[.int .i64 N, .int .i64 1] 27)))
  have Q := Lib.hid (BoxAt.new w3 N 1)
  have Lc := Lib.hid (below_step Lc.out (below_new w3 (.cells #[.int .i64 N, .int .i64 1] 27)))
  have P0 := P.out.2.1; have P1 := P.out.2.2
  have Q0 := Q.out.2.1; have Q1 := Q.out.2.2
  go_wp2_with fail
  clear P0 P1 Q0 Q1
  refine (P3.out _ (T0.out.below Lc.out)).mono ?_; rintro e w4 ⟨rfl, g4⟩
  have Lc := Lib.hid (below_step Lc.out g4)
  have X := Lib.hid (X.out.below g4)
  have P := Lib.hid (P.out.below g4)
  have Q := Lib.hid (Q.out.below g4)
  have X := Lib.hid (X.out.below (below_new w4 (.cells #[.int .i64 (M + N), .int .i64 1] 27)))
  have P := Lib.hid (P.out.below (below_new w4 (.cells #[.int .i64 (M + N), .int .i64 1] 27)))
  have Q := Lib.hid (Q.out.below (below_new w4 (.cells #[.int .i64 (M + N), .int .i64 1] 27)))
  have S := Lib.hid (BoxAt.new w4 (M + N) 1)
  have Lc := Lib.hid (below_step Lc.out (below_new w4 (.cells #[.int .i64 (M + N), .int .i64 1] 27)))
  have P0 := P.out.2.1; have P1 := P.out.2.2
  have Q0 := Q.out.2.1; have Q1 := Q.out.2.2
  go_wp2_with fail
  clear P0 P1 Q0 Q1
  refine (P4.out _ (T0.out.below Lc.out)).mono ?_; rintro e w5 ⟨rfl, g5⟩
  have Lc := Lib.hid (below_step Lc.out g5)
  have X := Lib.hid (X.out.below g5)
  have P := Lib.hid (P.out.below g5)
  have Q := Lib.hid (Q.out.below g5)
  have S := Lib.hid (S.out.below g5)
  have X := Lib.hid (X.out.below (below_new w5 (.cells #[.int .i64 (M * N), .int .i64 1] 27)))
  have P := Lib.hid (P.out.below (below_new w5 (.cells #[.int .i64 (M * N), .int .i64 1] 27)))
  have Q := Lib.hid (Q.out.below (below_new w5 (.cells #[.int .i64 (M * N), .int .i64 1] 27)))
  have S := Lib.hid (S.out.below (below_new w5 (.cells #[.int .i64 (M * N), .int .i64 1] 27)))
  have T := Lib.hid (BoxAt.new w5 (M * N) 1)
  have Lc := Lib.hid (below_step Lc.out (below_new w5 (.cells #[.int .i64 (M * N), .int .i64 1] 27)))
  go_wp2_with fail
  have e1 := E1.out; have e2 := E2.out
  have s0 := S.out.2.1; have s1 := S.out.2.2; have t0 := T.out.2.1; have t1 := T.out.2.2
  generalize w5.alloc (.cells #[.int .i64 (M * N), .int .i64 1] 27) = W at *
  have HK : Hid (∀ u1 u2, (u1.cell? ⟨w4.heap.size, 0, none⟩ = some (.int .i64 (M + N)) ∧ u1.cell? ⟨w4.heap.size, 1, none⟩ = some (.int .i64 1) ∧ u1.cell? ⟨w5.heap.size, 0, none⟩ = some (.int .i64 (M * N)) ∧ u1.cell? ⟨w5.heap.size, 1, none⟩ = some (.int .i64 1) ∧ Below W.heap.size W u1) → Below u1.heap.size u1 u2 → (u2.cell? ⟨w4.heap.size, 0, none⟩ = some (.int .i64 (M + N)) ∧ u2.cell? ⟨w4.heap.size, 1, none⟩ = some (.int .i64 1) ∧ u2.cell? ⟨w5.heap.size, 0, none⟩ = some (.int .i64 (M * N)) ∧ u2.cell? ⟨w5.heap.size, 1, none⟩ = some (.int .i64 1) ∧ Below W.heap.size W u2)) := Lib.hid fun u1 u2 ⟨a0, a1, a2, a3, a4⟩ hb => ⟨cell_below hb a0, cell_below hb a1, cell_below hb a2, cell_below hb a3, below_step a4 hb⟩
  have H0 : Hid (W.cell? ⟨w4.heap.size, 0, none⟩ = some (.int .i64 (M + N)) ∧ W.cell? ⟨w4.heap.size, 1, none⟩ = some (.int .i64 1) ∧ W.cell? ⟨w5.heap.size, 0, none⟩ = some (.int .i64 (M * N)) ∧ W.cell? ⟨w5.heap.size, 1, none⟩ = some (.int .i64 1) ∧ Below W.heap.size W W) := Lib.hid ⟨s0, s1, t0, t1, Below.refl _ _⟩
  go_region_held3 (fun w' => w'.cell? ⟨w4.heap.size, 0, none⟩ = some (.int .i64 (M + N)) ∧ w'.cell? ⟨w4.heap.size, 1, none⟩ = some (.int .i64 1) ∧ w'.cell? ⟨w5.heap.size, 0, none⟩ = some (.int .i64 (M * N)) ∧ w'.cell? ⟨w5.heap.size, 1, none⟩ = some (.int .i64 1) ∧ Below W.heap.size W w') (first | with_reducible exact HK.out _ _ H0.out (Below.refl _ _).drew | exact HK.out _ _ (by assumption) hb4)
    ((go_at_call 13; ((with_reducible refine (HI.out _ _ _).mono ?_); rintro e' v ⟨rfl, hb4⟩)))
  all_goals
    rename_i hh
    have hq := Lib.hid hh.2.2.2.2
    clear hh s0 s1 t0 t1 e1 e2
    have Lc := Lib.hid (below_step Lc.out hq.out)
    have X := Lib.hid (X.out.below hq.out)
    have X0 := X.out.c0
    have X1 := X.out.c1
    have X2 := X.out.c2
    have X3 := X.out.c3
    have X4 := X.out.c4
    have X5 := X.out.c5
    go_wp2_with fail
    clear X0 X1 X2 X3 X4 X5
    refine (HM.out _ (T0.out.below Lc.out)).mono ?_; rintro e' w6 ⟨p0, q0, p1, q1, p2, q2, rfl, g6⟩
    have Lc := Lib.hid (below_step Lc.out g6)
    have Lc := Lib.hid (below_step Lc.out (below_new w6 (.cells #[.int .i64 p0, .int .i64 q0, .int .i64 p1, .int .i64 q1, .int .i64 p2, .int .i64 q2] 34)))
    go_wp2_with fail
    go_ret
    exact ⟨rfl, Lc.out⟩

set_option maxRecDepth 100000 in
set_option maxHeartbeats 4000000 in
theorem invW_n_n (a b c d e f m n p0 q0 p1 q1 p2 q2 : Int) (w : World) (ad : Addr) (ht : Tab ad w) (fa : Fits a ∧ Fits b) (fc : Fits c ∧ Fits d) (fe : Fits e ∧ Fits f) (h3 : addR p0 q0 p1 q1 = none) (h5 : mulR p0 q0 p1 q1 = none) (h0 : Ra.red a b = some (p0, q0)) (h1 : Ra.red c d = some (p1, q1)) (h2 : Ra.red e f = some (p2, q2)) :
    Calls Tryd.prog 6 #[pairsV a b c d e f, .int .i64 m, .int .i64 n] w fun e' w' => e' = .returned (.bool true) ∧ Below w.heap.size w w' := by
  have o0 := (Ra.red_ok h0).1; have o1 := (Ra.red_ok h1).1; have o2 := (Ra.red_ok h2).1
  have F0 := ok_fits o0; have F1 := ok_fits o1; have F2 := ok_fits o2
  have hs := fun w ht => sane_any w ad ht
  have hm := fun w ht => made_yes a b c d e f p0 q0 p1 q1 p2 q2 w ad ht fa fc fe h0 h1 h2
  have HS := Lib.hid hs; have HM := Lib.hid hm; have T0 := Lib.hid ht
  have hM0 : -1000 ≤ m.tmod 1001 ∧ m.tmod 1001 ≤ 1000 := by have h1 := Int.tmod_lt_of_pos m (by omega : (0 : Int) < 1001); have h2 := Int.lt_tmod_of_pos m (by omega : (0 : Int) < 1001); omega
  have hN0 : -1000 ≤ n.tmod 1001 ∧ n.tmod 1001 ≤ 1000 := by have h1 := Int.tmod_lt_of_pos n (by omega : (0 : Int) < 1001); have h2 := Int.lt_tmod_of_pos n (by omega : (0 : Int) < 1001); omega
  obtain ⟨M, hM⟩ : ∃ M, m.tmod 1001 = M := ⟨_, rfl⟩
  obtain ⟨N, hN⟩ : ∃ N, n.tmod 1001 = N := ⟨_, rfl⟩
  rw [hM] at hM0; rw [hN] at hN0
  obtain ⟨M1', M2'⟩ := hM0; obtain ⟨N1', N2'⟩ := hN0
  have prod : -1000000 ≤ M * N ∧ M * N ≤ 1000000 := by
    have h1 : (M * N).natAbs ≤ 1000 * 1000 := by rw [Int.natAbs_mul]; exact Nat.mul_le_mul (by omega) (by omega)
    omega
  have x1 := Make_some (a := ad) (Ra.red_int M (by omega) (by omega)) ⟨by omega, by omega⟩ ⟨by decide, by decide⟩
  have x2 := Make_some (a := ad) (Ra.red_int N (by omega) (by omega)) ⟨by omega, by omega⟩ ⟨by decide, by decide⟩
  have oM := Ra.ok_int M (by omega) (by omega); have oN := Ra.ok_int N (by omega) (by omega)
  have x3 : addR M 1 N 1 = some (M + N, 1) := by unfold addR; rw [if_pos ⟨oM, oN⟩, Int.mul_one, Int.mul_one, Int.mul_one]; exact Ra.red_int _ (by omega) (by omega)
  have x4 : mulR M 1 N 1 = some (M * N, 1) := by unfold mulR; rw [if_pos ⟨oM, oN⟩, Int.mul_one]; exact Ra.red_int _ (by omega) (by omega)
  have x5 := Add_some (a := ad) x3 (ok_fits oM) (ok_fits oN)
  have x6 := Mul_some (a := ad) x4 (ok_fits oM) (ok_fits oN)
  have P1 := Lib.hid x1; have P2 := Lib.hid x2; have P3 := Lib.hid x5; have P4 := Lib.hid x6
  have e1 : IntKind.i64.wrap (M + N) = M + N := IntWalk.i64_in _ (by omega)
  have e2 : IntKind.i64.wrap (M * N) = M * N := IntWalk.i64_in _ (by omega)
  have E1 := Lib.hid e1; have E2 := Lib.hid e2
  have HI := Lib.hid is_any
  clear prod x1 x2 oM oN x3 x4 x5 x6 e1 e2
  have A1 := Lib.hid (Add_none (a := ad) h3 F0 F1)
  have M1 := Lib.hid (Mul_none (a := ad) h5 F0 F1)
  clear hs hm ht fa fc fe h0 h1 h2 h3 h5 o0 o1 o2 F0 F1 F2
  have R0 := Lib.hid (SixAt.new w 33 a b c d e f)
  go_enter Tryd.func6, Tryd.ntmps6
  go_wp2_with fail
  have Lc := Lib.hid (below_new w (.cells #[.int .i64 a, .int .i64 b, .int .i64 c, .int .i64 d, .int .i64 e, .int .i64 f] 33))
  have X := R0
  refine (HS.out _ (T0.out.below Lc.out)).mono ?_; rintro e w1 ⟨rfl, g1⟩
  have Lc := Lib.hid (below_step Lc.out g1)
  have X := Lib.hid (X.out.below g1)
  go_wp2_with fail
  refine (P1.out _ (T0.out.below Lc.out)).mono ?_; rintro e w2 ⟨rfl, g2⟩
  have Lc := Lib.hid (below_step Lc.out g2)
  have X := Lib.hid (X.out.below g2)
  have X := Lib.hid (X.out.below (below_new w2 (.cells #[.int .i64 M, .int .i64 1] 27)))
  have P := Lib.hid (BoxAt.new w2 M 1)
  have Lc := Lib.hid (below_step Lc.out (below_new w2 (.cells #[.int .i64 M, .int .i64 1] 27)))
  go_wp2_with fail
  refine (P2.out _ (T0.out.below Lc.out)).mono ?_; rintro e w3 ⟨rfl, g3⟩
  have Lc := Lib.hid (below_step Lc.out g3)
  have X := Lib.hid (X.out.below g3)
  have P := Lib.hid (P.out.below g3)
  have X := Lib.hid (X.out.below (below_new w3 (.cells #[.int .i64 N, .int .i64 1] 27)))
  have P := Lib.hid (P.out.below (below_new w3 (.cells #[.int .i64 N, .int .i64 1] 27)))
  have Q := Lib.hid (BoxAt.new w3 N 1)
  have Lc := Lib.hid (below_step Lc.out (below_new w3 (.cells #[.int .i64 N, .int .i64 1] 27)))
  have P0 := P.out.2.1; have P1 := P.out.2.2
  have Q0 := Q.out.2.1; have Q1 := Q.out.2.2
  go_wp2_with fail
  clear P0 P1 Q0 Q1
  refine (P3.out _ (T0.out.below Lc.out)).mono ?_; rintro e w4 ⟨rfl, g4⟩
  have Lc := Lib.hid (below_step Lc.out g4)
  have X := Lib.hid (X.out.below g4)
  have P := Lib.hid (P.out.below g4)
  have Q := Lib.hid (Q.out.below g4)
  have X := Lib.hid (X.out.below (below_new w4 (.cells #[.int .i64 (M + N), .int .i64 1] 27)))
  have P := Lib.hid (P.out.below (below_new w4 (.cells #[.int .i64 (M + N), .int .i64 1] 27)))
  have Q := Lib.hid (Q.out.below (below_new w4 (.cells #[.int .i64 (M + N), .int .i64 1] 27)))
  have S := Lib.hid (BoxAt.new w4 (M + N) 1)
  have Lc := Lib.hid (below_step Lc.out (below_new w4 (.cells #[.int .i64 (M + N), .int .i64 1] 27)))
  have P0 := P.out.2.1; have P1 := P.out.2.2
  have Q0 := Q.out.2.1; have Q1 := Q.out.2.2
  go_wp2_with fail
  clear P0 P1 Q0 Q1
  refine (P4.out _ (T0.out.below Lc.out)).mono ?_; rintro e w5 ⟨rfl, g5⟩
  have Lc := Lib.hid (below_step Lc.out g5)
  have X := Lib.hid (X.out.below g5)
  have P := Lib.hid (P.out.below g5)
  have Q := Lib.hid (Q.out.below g5)
  have S := Lib.hid (S.out.below g5)
  have X := Lib.hid (X.out.below (below_new w5 (.cells #[.int .i64 (M * N), .int .i64 1] 27)))
  have P := Lib.hid (P.out.below (below_new w5 (.cells #[.int .i64 (M * N), .int .i64 1] 27)))
  have Q := Lib.hid (Q.out.below (below_new w5 (.cells #[.int .i64 (M * N), .int .i64 1] 27)))
  have S := Lib.hid (S.out.below (below_new w5 (.cells #[.int .i64 (M * N), .int .i64 1] 27)))
  have T := Lib.hid (BoxAt.new w5 (M * N) 1)
  have Lc := Lib.hid (below_step Lc.out (below_new w5 (.cells #[.int .i64 (M * N), .int .i64 1] 27)))
  go_wp2_with fail
  have e1 := E1.out; have e2 := E2.out
  have s0 := S.out.2.1; have s1 := S.out.2.2; have t0 := T.out.2.1; have t1 := T.out.2.2
  generalize w5.alloc (.cells #[.int .i64 (M * N), .int .i64 1] 27) = W at *
  have HK : Hid (∀ u1 u2, (u1.cell? ⟨w4.heap.size, 0, none⟩ = some (.int .i64 (M + N)) ∧ u1.cell? ⟨w4.heap.size, 1, none⟩ = some (.int .i64 1) ∧ u1.cell? ⟨w5.heap.size, 0, none⟩ = some (.int .i64 (M * N)) ∧ u1.cell? ⟨w5.heap.size, 1, none⟩ = some (.int .i64 1) ∧ Below W.heap.size W u1) → Below u1.heap.size u1 u2 → (u2.cell? ⟨w4.heap.size, 0, none⟩ = some (.int .i64 (M + N)) ∧ u2.cell? ⟨w4.heap.size, 1, none⟩ = some (.int .i64 1) ∧ u2.cell? ⟨w5.heap.size, 0, none⟩ = some (.int .i64 (M * N)) ∧ u2.cell? ⟨w5.heap.size, 1, none⟩ = some (.int .i64 1) ∧ Below W.heap.size W u2)) := Lib.hid fun u1 u2 ⟨a0, a1, a2, a3, a4⟩ hb => ⟨cell_below hb a0, cell_below hb a1, cell_below hb a2, cell_below hb a3, below_step a4 hb⟩
  have H0 : Hid (W.cell? ⟨w4.heap.size, 0, none⟩ = some (.int .i64 (M + N)) ∧ W.cell? ⟨w4.heap.size, 1, none⟩ = some (.int .i64 1) ∧ W.cell? ⟨w5.heap.size, 0, none⟩ = some (.int .i64 (M * N)) ∧ W.cell? ⟨w5.heap.size, 1, none⟩ = some (.int .i64 1) ∧ Below W.heap.size W W) := Lib.hid ⟨s0, s1, t0, t1, Below.refl _ _⟩
  go_region_held3 (fun w' => w'.cell? ⟨w4.heap.size, 0, none⟩ = some (.int .i64 (M + N)) ∧ w'.cell? ⟨w4.heap.size, 1, none⟩ = some (.int .i64 1) ∧ w'.cell? ⟨w5.heap.size, 0, none⟩ = some (.int .i64 (M * N)) ∧ w'.cell? ⟨w5.heap.size, 1, none⟩ = some (.int .i64 1) ∧ Below W.heap.size W w') (first | with_reducible exact HK.out _ _ H0.out (Below.refl _ _).drew | exact HK.out _ _ (by assumption) hb4)
    ((go_at_call 13; ((with_reducible refine (HI.out _ _ _).mono ?_); rintro e' v ⟨rfl, hb4⟩)))
  all_goals
    rename_i hh
    have hq := Lib.hid hh.2.2.2.2
    clear hh s0 s1 t0 t1 e1 e2
    have Lc := Lib.hid (below_step Lc.out hq.out)
    have X := Lib.hid (X.out.below hq.out)
    have X0 := X.out.c0
    have X1 := X.out.c1
    have X2 := X.out.c2
    have X3 := X.out.c3
    have X4 := X.out.c4
    have X5 := X.out.c5
    go_wp2_with fail
    clear X0 X1 X2 X3 X4 X5
    refine (HM.out _ (T0.out.below Lc.out)).mono ?_; rintro e w6 ⟨rfl, g6⟩
    have Lc := Lib.hid (below_step Lc.out g6)
    have X := Lib.hid (X.out.below g6)
    have X := Lib.hid (X.out.below (below_new w6 (.cells #[.int .i64 p0, .int .i64 q0, .int .i64 p1, .int .i64 q1, .int .i64 p2, .int .i64 q2] 34)))
    have L := Lib.hid (SixAt.new w6 34 p0 q0 p1 q1 p2 q2)
    have Lc := Lib.hid (below_step Lc.out (below_new w6 (.cells #[.int .i64 p0, .int .i64 q0, .int .i64 p1, .int .i64 q1, .int .i64 p2, .int .i64 q2] 34)))
    have L0 := L.out.c0
    have L1 := L.out.c1
    have L2 := L.out.c2
    have L3 := L.out.c3
    have L4 := L.out.c4
    have L5 := L.out.c5
    go_wp2_with fail
    clear L0 L1 L2 L3 L4 L5
    refine (A1.out _ (T0.out.below Lc.out)).mono ?_; rintro e w7 ⟨rfl, g7⟩
    have Lc := Lib.hid (below_step Lc.out g7)
    have X := Lib.hid (X.out.below g7)
    have L := Lib.hid (L.out.below g7)
    have X := Lib.hid (X.out.below (below_new w7 (.cells #[.int .i64 0, .int .i64 0] 27)))
    have L := Lib.hid (L.out.below (below_new w7 (.cells #[.int .i64 0, .int .i64 0] 27)))
    have A := Lib.hid (BoxAt.new w7 0 0)
    have Lc := Lib.hid (below_step Lc.out (below_new w7 (.cells #[.int .i64 0, .int .i64 0] 27)))
    have L0 := L.out.c0
    have L1 := L.out.c1
    have L2 := L.out.c2
    have L3 := L.out.c3
    have L4 := L.out.c4
    have L5 := L.out.c5
    have A0 := A.out.2.1; have A1 := A.out.2.2
    go_wp2_with fail
    clear L0 L1 L2 L3 L4 L5 A0 A1
    refine (M1.out _ (T0.out.below Lc.out)).mono ?_; rintro e w8 ⟨rfl, g8⟩
    have Lc := Lib.hid (below_step Lc.out g8)
    have X := Lib.hid (X.out.below g8)
    have L := Lib.hid (L.out.below g8)
    have A := Lib.hid (A.out.below g8)
    have X := Lib.hid (X.out.below (below_new w8 (.cells #[.int .i64 0, .int .i64 0] 27)))
    have L := Lib.hid (L.out.below (below_new w8 (.cells #[.int .i64 0, .int .i64 0] 27)))
    have A := Lib.hid (A.out.below (below_new w8 (.cells #[.int .i64 0, .int .i64 0] 27)))
    have C := Lib.hid (BoxAt.new w8 0 0)
    have Lc := Lib.hid (below_step Lc.out (below_new w8 (.cells #[.int .i64 0, .int .i64 0] 27)))
    have L0 := L.out.c0
    have L1 := L.out.c1
    have L2 := L.out.c2
    have L3 := L.out.c3
    have L4 := L.out.c4
    have L5 := L.out.c5
    have C0 := C.out.2.1; have C1 := C.out.2.2
    go_wp2_with fail
    clear L0 L1 L2 L3 L4 L5 C0 C1
    go_ret
    exact ⟨rfl, Lc.out⟩

set_option maxRecDepth 100000 in
set_option maxHeartbeats 4000000 in
theorem invW_n_z (a b c d e f m n p0 q0 p1 q1 p2 q2 : Int) (w : World) (ad : Addr) (ht : Tab ad w) (fa : Fits a ∧ Fits b) (fc : Fits c ∧ Fits d) (fe : Fits e ∧ Fits f) (h3 : addR p0 q0 p1 q1 = none) (cn cd : Int) (h5 : mulR p0 q0 p1 q1 = some (cn, cd)) (hz : p1 = 0) (h0 : Ra.red a b = some (p0, q0)) (h1 : Ra.red c d = some (p1, q1)) (h2 : Ra.red e f = some (p2, q2)) :
    Calls Tryd.prog 6 #[pairsV a b c d e f, .int .i64 m, .int .i64 n] w fun e' w' => e' = .returned (.bool true) ∧ Below w.heap.size w w' := by
  have o0 := (Ra.red_ok h0).1; have o1 := (Ra.red_ok h1).1; have o2 := (Ra.red_ok h2).1
  have F0 := ok_fits o0; have F1 := ok_fits o1; have F2 := ok_fits o2
  have hs := fun w ht => sane_any w ad ht
  have hm := fun w ht => made_yes a b c d e f p0 q0 p1 q1 p2 q2 w ad ht fa fc fe h0 h1 h2
  have HS := Lib.hid hs; have HM := Lib.hid hm; have T0 := Lib.hid ht
  have hM0 : -1000 ≤ m.tmod 1001 ∧ m.tmod 1001 ≤ 1000 := by have h1 := Int.tmod_lt_of_pos m (by omega : (0 : Int) < 1001); have h2 := Int.lt_tmod_of_pos m (by omega : (0 : Int) < 1001); omega
  have hN0 : -1000 ≤ n.tmod 1001 ∧ n.tmod 1001 ≤ 1000 := by have h1 := Int.tmod_lt_of_pos n (by omega : (0 : Int) < 1001); have h2 := Int.lt_tmod_of_pos n (by omega : (0 : Int) < 1001); omega
  obtain ⟨M, hM⟩ : ∃ M, m.tmod 1001 = M := ⟨_, rfl⟩
  obtain ⟨N, hN⟩ : ∃ N, n.tmod 1001 = N := ⟨_, rfl⟩
  rw [hM] at hM0; rw [hN] at hN0
  obtain ⟨M1', M2'⟩ := hM0; obtain ⟨N1', N2'⟩ := hN0
  have prod : -1000000 ≤ M * N ∧ M * N ≤ 1000000 := by
    have h1 : (M * N).natAbs ≤ 1000 * 1000 := by rw [Int.natAbs_mul]; exact Nat.mul_le_mul (by omega) (by omega)
    omega
  have x1 := Make_some (a := ad) (Ra.red_int M (by omega) (by omega)) ⟨by omega, by omega⟩ ⟨by decide, by decide⟩
  have x2 := Make_some (a := ad) (Ra.red_int N (by omega) (by omega)) ⟨by omega, by omega⟩ ⟨by decide, by decide⟩
  have oM := Ra.ok_int M (by omega) (by omega); have oN := Ra.ok_int N (by omega) (by omega)
  have x3 : addR M 1 N 1 = some (M + N, 1) := by unfold addR; rw [if_pos ⟨oM, oN⟩, Int.mul_one, Int.mul_one, Int.mul_one]; exact Ra.red_int _ (by omega) (by omega)
  have x4 : mulR M 1 N 1 = some (M * N, 1) := by unfold mulR; rw [if_pos ⟨oM, oN⟩, Int.mul_one]; exact Ra.red_int _ (by omega) (by omega)
  have x5 := Add_some (a := ad) x3 (ok_fits oM) (ok_fits oN)
  have x6 := Mul_some (a := ad) x4 (ok_fits oM) (ok_fits oN)
  have P1 := Lib.hid x1; have P2 := Lib.hid x2; have P3 := Lib.hid x5; have P4 := Lib.hid x6
  have e1 : IntKind.i64.wrap (M + N) = M + N := IntWalk.i64_in _ (by omega)
  have e2 : IntKind.i64.wrap (M * N) = M * N := IntWalk.i64_in _ (by omega)
  have E1 := Lib.hid e1; have E2 := Lib.hid e2
  have HI := Lib.hid is_any
  clear prod x1 x2 oM oN x3 x4 x5 x6 e1 e2
  have A1 := Lib.hid (Add_none (a := ad) h3 F0 F1)
  have M1 := Lib.hid (Mul_some (a := ad) h5 F0 F1)
  have hz1 : ((p1 : Int) != 0) = false := by rw [hz]; rfl
  clear hs hm ht fa fc fe h0 h1 h2 h3 h5 o0 o1 o2 F0 F1 F2 hz
  have R0 := Lib.hid (SixAt.new w 33 a b c d e f)
  go_enter Tryd.func6, Tryd.ntmps6
  go_wp2_with fail
  have Lc := Lib.hid (below_new w (.cells #[.int .i64 a, .int .i64 b, .int .i64 c, .int .i64 d, .int .i64 e, .int .i64 f] 33))
  have X := R0
  refine (HS.out _ (T0.out.below Lc.out)).mono ?_; rintro e w1 ⟨rfl, g1⟩
  have Lc := Lib.hid (below_step Lc.out g1)
  have X := Lib.hid (X.out.below g1)
  go_wp2_with fail
  refine (P1.out _ (T0.out.below Lc.out)).mono ?_; rintro e w2 ⟨rfl, g2⟩
  have Lc := Lib.hid (below_step Lc.out g2)
  have X := Lib.hid (X.out.below g2)
  have X := Lib.hid (X.out.below (below_new w2 (.cells #[.int .i64 M, .int .i64 1] 27)))
  have P := Lib.hid (BoxAt.new w2 M 1)
  have Lc := Lib.hid (below_step Lc.out (below_new w2 (.cells #[.int .i64 M, .int .i64 1] 27)))
  go_wp2_with fail
  refine (P2.out _ (T0.out.below Lc.out)).mono ?_; rintro e w3 ⟨rfl, g3⟩
  have Lc := Lib.hid (below_step Lc.out g3)
  have X := Lib.hid (X.out.below g3)
  have P := Lib.hid (P.out.below g3)
  have X := Lib.hid (X.out.below (below_new w3 (.cells #[.int .i64 N, .int .i64 1] 27)))
  have P := Lib.hid (P.out.below (below_new w3 (.cells #[.int .i64 N, .int .i64 1] 27)))
  have Q := Lib.hid (BoxAt.new w3 N 1)
  have Lc := Lib.hid (below_step Lc.out (below_new w3 (.cells #[.int .i64 N, .int .i64 1] 27)))
  have P0 := P.out.2.1; have P1 := P.out.2.2
  have Q0 := Q.out.2.1; have Q1 := Q.out.2.2
  go_wp2_with fail
  clear P0 P1 Q0 Q1
  refine (P3.out _ (T0.out.below Lc.out)).mono ?_; rintro e w4 ⟨rfl, g4⟩
  have Lc := Lib.hid (below_step Lc.out g4)
  have X := Lib.hid (X.out.below g4)
  have P := Lib.hid (P.out.below g4)
  have Q := Lib.hid (Q.out.below g4)
  have X := Lib.hid (X.out.below (below_new w4 (.cells #[.int .i64 (M + N), .int .i64 1] 27)))
  have P := Lib.hid (P.out.below (below_new w4 (.cells #[.int .i64 (M + N), .int .i64 1] 27)))
  have Q := Lib.hid (Q.out.below (below_new w4 (.cells #[.int .i64 (M + N), .int .i64 1] 27)))
  have S := Lib.hid (BoxAt.new w4 (M + N) 1)
  have Lc := Lib.hid (below_step Lc.out (below_new w4 (.cells #[.int .i64 (M + N), .int .i64 1] 27)))
  have P0 := P.out.2.1; have P1 := P.out.2.2
  have Q0 := Q.out.2.1; have Q1 := Q.out.2.2
  go_wp2_with fail
  clear P0 P1 Q0 Q1
  refine (P4.out _ (T0.out.below Lc.out)).mono ?_; rintro e w5 ⟨rfl, g5⟩
  have Lc := Lib.hid (below_step Lc.out g5)
  have X := Lib.hid (X.out.below g5)
  have P := Lib.hid (P.out.below g5)
  have Q := Lib.hid (Q.out.below g5)
  have S := Lib.hid (S.out.below g5)
  have X := Lib.hid (X.out.below (below_new w5 (.cells #[.int .i64 (M * N), .int .i64 1] 27)))
  have P := Lib.hid (P.out.below (below_new w5 (.cells #[.int .i64 (M * N), .int .i64 1] 27)))
  have Q := Lib.hid (Q.out.below (below_new w5 (.cells #[.int .i64 (M * N), .int .i64 1] 27)))
  have S := Lib.hid (S.out.below (below_new w5 (.cells #[.int .i64 (M * N), .int .i64 1] 27)))
  have T := Lib.hid (BoxAt.new w5 (M * N) 1)
  have Lc := Lib.hid (below_step Lc.out (below_new w5 (.cells #[.int .i64 (M * N), .int .i64 1] 27)))
  go_wp2_with fail
  have e1 := E1.out; have e2 := E2.out
  have s0 := S.out.2.1; have s1 := S.out.2.2; have t0 := T.out.2.1; have t1 := T.out.2.2
  generalize w5.alloc (.cells #[.int .i64 (M * N), .int .i64 1] 27) = W at *
  have HK : Hid (∀ u1 u2, (u1.cell? ⟨w4.heap.size, 0, none⟩ = some (.int .i64 (M + N)) ∧ u1.cell? ⟨w4.heap.size, 1, none⟩ = some (.int .i64 1) ∧ u1.cell? ⟨w5.heap.size, 0, none⟩ = some (.int .i64 (M * N)) ∧ u1.cell? ⟨w5.heap.size, 1, none⟩ = some (.int .i64 1) ∧ Below W.heap.size W u1) → Below u1.heap.size u1 u2 → (u2.cell? ⟨w4.heap.size, 0, none⟩ = some (.int .i64 (M + N)) ∧ u2.cell? ⟨w4.heap.size, 1, none⟩ = some (.int .i64 1) ∧ u2.cell? ⟨w5.heap.size, 0, none⟩ = some (.int .i64 (M * N)) ∧ u2.cell? ⟨w5.heap.size, 1, none⟩ = some (.int .i64 1) ∧ Below W.heap.size W u2)) := Lib.hid fun u1 u2 ⟨a0, a1, a2, a3, a4⟩ hb => ⟨cell_below hb a0, cell_below hb a1, cell_below hb a2, cell_below hb a3, below_step a4 hb⟩
  have H0 : Hid (W.cell? ⟨w4.heap.size, 0, none⟩ = some (.int .i64 (M + N)) ∧ W.cell? ⟨w4.heap.size, 1, none⟩ = some (.int .i64 1) ∧ W.cell? ⟨w5.heap.size, 0, none⟩ = some (.int .i64 (M * N)) ∧ W.cell? ⟨w5.heap.size, 1, none⟩ = some (.int .i64 1) ∧ Below W.heap.size W W) := Lib.hid ⟨s0, s1, t0, t1, Below.refl _ _⟩
  go_region_held3 (fun w' => w'.cell? ⟨w4.heap.size, 0, none⟩ = some (.int .i64 (M + N)) ∧ w'.cell? ⟨w4.heap.size, 1, none⟩ = some (.int .i64 1) ∧ w'.cell? ⟨w5.heap.size, 0, none⟩ = some (.int .i64 (M * N)) ∧ w'.cell? ⟨w5.heap.size, 1, none⟩ = some (.int .i64 1) ∧ Below W.heap.size W w') (first | with_reducible exact HK.out _ _ H0.out (Below.refl _ _).drew | exact HK.out _ _ (by assumption) hb4)
    ((go_at_call 13; ((with_reducible refine (HI.out _ _ _).mono ?_); rintro e' v ⟨rfl, hb4⟩)))
  all_goals
    rename_i hh
    have hq := Lib.hid hh.2.2.2.2
    clear hh s0 s1 t0 t1 e1 e2
    have Lc := Lib.hid (below_step Lc.out hq.out)
    have X := Lib.hid (X.out.below hq.out)
    have X0 := X.out.c0
    have X1 := X.out.c1
    have X2 := X.out.c2
    have X3 := X.out.c3
    have X4 := X.out.c4
    have X5 := X.out.c5
    go_wp2_with fail
    clear X0 X1 X2 X3 X4 X5
    refine (HM.out _ (T0.out.below Lc.out)).mono ?_; rintro e w6 ⟨rfl, g6⟩
    have Lc := Lib.hid (below_step Lc.out g6)
    have X := Lib.hid (X.out.below g6)
    have X := Lib.hid (X.out.below (below_new w6 (.cells #[.int .i64 p0, .int .i64 q0, .int .i64 p1, .int .i64 q1, .int .i64 p2, .int .i64 q2] 34)))
    have L := Lib.hid (SixAt.new w6 34 p0 q0 p1 q1 p2 q2)
    have Lc := Lib.hid (below_step Lc.out (below_new w6 (.cells #[.int .i64 p0, .int .i64 q0, .int .i64 p1, .int .i64 q1, .int .i64 p2, .int .i64 q2] 34)))
    have L0 := L.out.c0
    have L1 := L.out.c1
    have L2 := L.out.c2
    have L3 := L.out.c3
    have L4 := L.out.c4
    have L5 := L.out.c5
    go_wp2_with fail
    clear L0 L1 L2 L3 L4 L5
    refine (A1.out _ (T0.out.below Lc.out)).mono ?_; rintro e w7 ⟨rfl, g7⟩
    have Lc := Lib.hid (below_step Lc.out g7)
    have X := Lib.hid (X.out.below g7)
    have L := Lib.hid (L.out.below g7)
    have X := Lib.hid (X.out.below (below_new w7 (.cells #[.int .i64 0, .int .i64 0] 27)))
    have L := Lib.hid (L.out.below (below_new w7 (.cells #[.int .i64 0, .int .i64 0] 27)))
    have A := Lib.hid (BoxAt.new w7 0 0)
    have Lc := Lib.hid (below_step Lc.out (below_new w7 (.cells #[.int .i64 0, .int .i64 0] 27)))
    have L0 := L.out.c0
    have L1 := L.out.c1
    have L2 := L.out.c2
    have L3 := L.out.c3
    have L4 := L.out.c4
    have L5 := L.out.c5
    have A0 := A.out.2.1; have A1 := A.out.2.2
    go_wp2_with fail
    clear L0 L1 L2 L3 L4 L5 A0 A1
    refine (M1.out _ (T0.out.below Lc.out)).mono ?_; rintro e w8 ⟨rfl, g8⟩
    have Lc := Lib.hid (below_step Lc.out g8)
    have X := Lib.hid (X.out.below g8)
    have L := Lib.hid (L.out.below g8)
    have A := Lib.hid (A.out.below g8)
    have X := Lib.hid (X.out.below (below_new w8 (.cells #[.int .i64 cn, .int .i64 cd] 27)))
    have L := Lib.hid (L.out.below (below_new w8 (.cells #[.int .i64 cn, .int .i64 cd] 27)))
    have A := Lib.hid (A.out.below (below_new w8 (.cells #[.int .i64 cn, .int .i64 cd] 27)))
    have C := Lib.hid (BoxAt.new w8 cn cd)
    have Lc := Lib.hid (below_step Lc.out (below_new w8 (.cells #[.int .i64 cn, .int .i64 cd] 27)))
    have L0 := L.out.c0
    have L1 := L.out.c1
    have L2 := L.out.c2
    have L3 := L.out.c3
    have L4 := L.out.c4
    have L5 := L.out.c5
    have C0 := C.out.2.1; have C1 := C.out.2.2
    go_wp2_with fail
    clear L0 L1 L2 L3 L4 L5 C0 C1
    go_ret
    exact ⟨rfl, Lc.out⟩

set_option maxRecDepth 100000 in
set_option maxHeartbeats 4000000 in
theorem invW_n_s (a b c d e f m n p0 q0 p1 q1 p2 q2 : Int) (w : World) (ad : Addr) (ht : Tab ad w) (fa : Fits a ∧ Fits b) (fc : Fits c ∧ Fits d) (fe : Fits e ∧ Fits f) (h3 : addR p0 q0 p1 q1 = none) (cn cd : Int) (h5 : mulR p0 q0 p1 q1 = some (cn, cd)) (hz : ¬ p1 = 0) (h0 : Ra.red a b = some (p0, q0)) (h1 : Ra.red c d = some (p1, q1)) (h2 : Ra.red e f = some (p2, q2)) :
    Calls Tryd.prog 6 #[pairsV a b c d e f, .int .i64 m, .int .i64 n] w fun e' w' => e' = .returned (.bool true) ∧ Below w.heap.size w w' := by
  have o0 := (Ra.red_ok h0).1; have o1 := (Ra.red_ok h1).1; have o2 := (Ra.red_ok h2).1
  have F0 := ok_fits o0; have F1 := ok_fits o1; have F2 := ok_fits o2
  have hs := fun w ht => sane_any w ad ht
  have hm := fun w ht => made_yes a b c d e f p0 q0 p1 q1 p2 q2 w ad ht fa fc fe h0 h1 h2
  have HS := Lib.hid hs; have HM := Lib.hid hm; have T0 := Lib.hid ht
  have hM0 : -1000 ≤ m.tmod 1001 ∧ m.tmod 1001 ≤ 1000 := by have h1 := Int.tmod_lt_of_pos m (by omega : (0 : Int) < 1001); have h2 := Int.lt_tmod_of_pos m (by omega : (0 : Int) < 1001); omega
  have hN0 : -1000 ≤ n.tmod 1001 ∧ n.tmod 1001 ≤ 1000 := by have h1 := Int.tmod_lt_of_pos n (by omega : (0 : Int) < 1001); have h2 := Int.lt_tmod_of_pos n (by omega : (0 : Int) < 1001); omega
  obtain ⟨M, hM⟩ : ∃ M, m.tmod 1001 = M := ⟨_, rfl⟩
  obtain ⟨N, hN⟩ : ∃ N, n.tmod 1001 = N := ⟨_, rfl⟩
  rw [hM] at hM0; rw [hN] at hN0
  obtain ⟨M1', M2'⟩ := hM0; obtain ⟨N1', N2'⟩ := hN0
  have prod : -1000000 ≤ M * N ∧ M * N ≤ 1000000 := by
    have h1 : (M * N).natAbs ≤ 1000 * 1000 := by rw [Int.natAbs_mul]; exact Nat.mul_le_mul (by omega) (by omega)
    omega
  have x1 := Make_some (a := ad) (Ra.red_int M (by omega) (by omega)) ⟨by omega, by omega⟩ ⟨by decide, by decide⟩
  have x2 := Make_some (a := ad) (Ra.red_int N (by omega) (by omega)) ⟨by omega, by omega⟩ ⟨by decide, by decide⟩
  have oM := Ra.ok_int M (by omega) (by omega); have oN := Ra.ok_int N (by omega) (by omega)
  have x3 : addR M 1 N 1 = some (M + N, 1) := by unfold addR; rw [if_pos ⟨oM, oN⟩, Int.mul_one, Int.mul_one, Int.mul_one]; exact Ra.red_int _ (by omega) (by omega)
  have x4 : mulR M 1 N 1 = some (M * N, 1) := by unfold mulR; rw [if_pos ⟨oM, oN⟩, Int.mul_one]; exact Ra.red_int _ (by omega) (by omega)
  have x5 := Add_some (a := ad) x3 (ok_fits oM) (ok_fits oN)
  have x6 := Mul_some (a := ad) x4 (ok_fits oM) (ok_fits oN)
  have P1 := Lib.hid x1; have P2 := Lib.hid x2; have P3 := Lib.hid x5; have P4 := Lib.hid x6
  have e1 : IntKind.i64.wrap (M + N) = M + N := IntWalk.i64_in _ (by omega)
  have e2 : IntKind.i64.wrap (M * N) = M * N := IntWalk.i64_in _ (by omega)
  have E1 := Lib.hid e1; have E2 := Lib.hid e2
  have HI := Lib.hid is_any
  clear prod x1 x2 oM oN x3 x4 x5 x6 e1 e2
  have A1 := Lib.hid (Add_none (a := ad) h3 F0 F1)
  have M1 := Lib.hid (Mul_some (a := ad) h5 F0 F1)
  have r5 : Ra.red (p0 * p1) (q0 * q1) = some (cn, cd) := by unfold mulR at h5; rwa [if_pos ⟨o0, o1⟩] at h5
  have k5 : divR cn cd p1 q1 = some (p0, q0) := by unfold divR; rw [if_pos ⟨(Ra.red_ok r5).1, o1⟩]; exact Ra.div_mul o0 o1 hz r5
  have D1 := Lib.hid (Div_some (a := ad) k5 (ok_fits (Ra.red_ok r5).1) F1)
  have hz1 : ((p1 : Int) != 0) = true := by rw [bne_iff_ne]; exact hz
  clear hs hm ht fa fc fe h0 h1 h2 h3 h5 o0 o1 o2 F0 F1 F2 r5 k5 hz
  have R0 := Lib.hid (SixAt.new w 33 a b c d e f)
  go_enter Tryd.func6, Tryd.ntmps6
  go_wp2_with fail
  have Lc := Lib.hid (below_new w (.cells #[.int .i64 a, .int .i64 b, .int .i64 c, .int .i64 d, .int .i64 e, .int .i64 f] 33))
  have X := R0
  refine (HS.out _ (T0.out.below Lc.out)).mono ?_; rintro e w1 ⟨rfl, g1⟩
  have Lc := Lib.hid (below_step Lc.out g1)
  have X := Lib.hid (X.out.below g1)
  go_wp2_with fail
  refine (P1.out _ (T0.out.below Lc.out)).mono ?_; rintro e w2 ⟨rfl, g2⟩
  have Lc := Lib.hid (below_step Lc.out g2)
  have X := Lib.hid (X.out.below g2)
  have X := Lib.hid (X.out.below (below_new w2 (.cells #[.int .i64 M, .int .i64 1] 27)))
  have P := Lib.hid (BoxAt.new w2 M 1)
  have Lc := Lib.hid (below_step Lc.out (below_new w2 (.cells #[.int .i64 M, .int .i64 1] 27)))
  go_wp2_with fail
  refine (P2.out _ (T0.out.below Lc.out)).mono ?_; rintro e w3 ⟨rfl, g3⟩
  have Lc := Lib.hid (below_step Lc.out g3)
  have X := Lib.hid (X.out.below g3)
  have P := Lib.hid (P.out.below g3)
  have X := Lib.hid (X.out.below (below_new w3 (.cells #[.int .i64 N, .int .i64 1] 27)))
  have P := Lib.hid (P.out.below (below_new w3 (.cells #[.int .i64 N, .int .i64 1] 27)))
  have Q := Lib.hid (BoxAt.new w3 N 1)
  have Lc := Lib.hid (below_step Lc.out (below_new w3 (.cells #[.int .i64 N, .int .i64 1] 27)))
  have P0 := P.out.2.1; have P1 := P.out.2.2
  have Q0 := Q.out.2.1; have Q1 := Q.out.2.2
  go_wp2_with fail
  clear P0 P1 Q0 Q1
  refine (P3.out _ (T0.out.below Lc.out)).mono ?_; rintro e w4 ⟨rfl, g4⟩
  have Lc := Lib.hid (below_step Lc.out g4)
  have X := Lib.hid (X.out.below g4)
  have P := Lib.hid (P.out.below g4)
  have Q := Lib.hid (Q.out.below g4)
  have X := Lib.hid (X.out.below (below_new w4 (.cells #[.int .i64 (M + N), .int .i64 1] 27)))
  have P := Lib.hid (P.out.below (below_new w4 (.cells #[.int .i64 (M + N), .int .i64 1] 27)))
  have Q := Lib.hid (Q.out.below (below_new w4 (.cells #[.int .i64 (M + N), .int .i64 1] 27)))
  have S := Lib.hid (BoxAt.new w4 (M + N) 1)
  have Lc := Lib.hid (below_step Lc.out (below_new w4 (.cells #[.int .i64 (M + N), .int .i64 1] 27)))
  have P0 := P.out.2.1; have P1 := P.out.2.2
  have Q0 := Q.out.2.1; have Q1 := Q.out.2.2
  go_wp2_with fail
  clear P0 P1 Q0 Q1
  refine (P4.out _ (T0.out.below Lc.out)).mono ?_; rintro e w5 ⟨rfl, g5⟩
  have Lc := Lib.hid (below_step Lc.out g5)
  have X := Lib.hid (X.out.below g5)
  have P := Lib.hid (P.out.below g5)
  have Q := Lib.hid (Q.out.below g5)
  have S := Lib.hid (S.out.below g5)
  have X := Lib.hid (X.out.below (below_new w5 (.cells #[.int .i64 (M * N), .int .i64 1] 27)))
  have P := Lib.hid (P.out.below (below_new w5 (.cells #[.int .i64 (M * N), .int .i64 1] 27)))
  have Q := Lib.hid (Q.out.below (below_new w5 (.cells #[.int .i64 (M * N), .int .i64 1] 27)))
  have S := Lib.hid (S.out.below (below_new w5 (.cells #[.int .i64 (M * N), .int .i64 1] 27)))
  have T := Lib.hid (BoxAt.new w5 (M * N) 1)
  have Lc := Lib.hid (below_step Lc.out (below_new w5 (.cells #[.int .i64 (M * N), .int .i64 1] 27)))
  go_wp2_with fail
  have e1 := E1.out; have e2 := E2.out
  have s0 := S.out.2.1; have s1 := S.out.2.2; have t0 := T.out.2.1; have t1 := T.out.2.2
  generalize w5.alloc (.cells #[.int .i64 (M * N), .int .i64 1] 27) = W at *
  have HK : Hid (∀ u1 u2, (u1.cell? ⟨w4.heap.size, 0, none⟩ = some (.int .i64 (M + N)) ∧ u1.cell? ⟨w4.heap.size, 1, none⟩ = some (.int .i64 1) ∧ u1.cell? ⟨w5.heap.size, 0, none⟩ = some (.int .i64 (M * N)) ∧ u1.cell? ⟨w5.heap.size, 1, none⟩ = some (.int .i64 1) ∧ Below W.heap.size W u1) → Below u1.heap.size u1 u2 → (u2.cell? ⟨w4.heap.size, 0, none⟩ = some (.int .i64 (M + N)) ∧ u2.cell? ⟨w4.heap.size, 1, none⟩ = some (.int .i64 1) ∧ u2.cell? ⟨w5.heap.size, 0, none⟩ = some (.int .i64 (M * N)) ∧ u2.cell? ⟨w5.heap.size, 1, none⟩ = some (.int .i64 1) ∧ Below W.heap.size W u2)) := Lib.hid fun u1 u2 ⟨a0, a1, a2, a3, a4⟩ hb => ⟨cell_below hb a0, cell_below hb a1, cell_below hb a2, cell_below hb a3, below_step a4 hb⟩
  have H0 : Hid (W.cell? ⟨w4.heap.size, 0, none⟩ = some (.int .i64 (M + N)) ∧ W.cell? ⟨w4.heap.size, 1, none⟩ = some (.int .i64 1) ∧ W.cell? ⟨w5.heap.size, 0, none⟩ = some (.int .i64 (M * N)) ∧ W.cell? ⟨w5.heap.size, 1, none⟩ = some (.int .i64 1) ∧ Below W.heap.size W W) := Lib.hid ⟨s0, s1, t0, t1, Below.refl _ _⟩
  go_region_held3 (fun w' => w'.cell? ⟨w4.heap.size, 0, none⟩ = some (.int .i64 (M + N)) ∧ w'.cell? ⟨w4.heap.size, 1, none⟩ = some (.int .i64 1) ∧ w'.cell? ⟨w5.heap.size, 0, none⟩ = some (.int .i64 (M * N)) ∧ w'.cell? ⟨w5.heap.size, 1, none⟩ = some (.int .i64 1) ∧ Below W.heap.size W w') (first | with_reducible exact HK.out _ _ H0.out (Below.refl _ _).drew | exact HK.out _ _ (by assumption) hb4)
    ((go_at_call 13; ((with_reducible refine (HI.out _ _ _).mono ?_); rintro e' v ⟨rfl, hb4⟩)))
  all_goals
    rename_i hh
    have hq := Lib.hid hh.2.2.2.2
    clear hh s0 s1 t0 t1 e1 e2
    have Lc := Lib.hid (below_step Lc.out hq.out)
    have X := Lib.hid (X.out.below hq.out)
    have X0 := X.out.c0
    have X1 := X.out.c1
    have X2 := X.out.c2
    have X3 := X.out.c3
    have X4 := X.out.c4
    have X5 := X.out.c5
    go_wp2_with fail
    clear X0 X1 X2 X3 X4 X5
    refine (HM.out _ (T0.out.below Lc.out)).mono ?_; rintro e w6 ⟨rfl, g6⟩
    have Lc := Lib.hid (below_step Lc.out g6)
    have X := Lib.hid (X.out.below g6)
    have X := Lib.hid (X.out.below (below_new w6 (.cells #[.int .i64 p0, .int .i64 q0, .int .i64 p1, .int .i64 q1, .int .i64 p2, .int .i64 q2] 34)))
    have L := Lib.hid (SixAt.new w6 34 p0 q0 p1 q1 p2 q2)
    have Lc := Lib.hid (below_step Lc.out (below_new w6 (.cells #[.int .i64 p0, .int .i64 q0, .int .i64 p1, .int .i64 q1, .int .i64 p2, .int .i64 q2] 34)))
    have L0 := L.out.c0
    have L1 := L.out.c1
    have L2 := L.out.c2
    have L3 := L.out.c3
    have L4 := L.out.c4
    have L5 := L.out.c5
    go_wp2_with fail
    clear L0 L1 L2 L3 L4 L5
    refine (A1.out _ (T0.out.below Lc.out)).mono ?_; rintro e w7 ⟨rfl, g7⟩
    have Lc := Lib.hid (below_step Lc.out g7)
    have X := Lib.hid (X.out.below g7)
    have L := Lib.hid (L.out.below g7)
    have X := Lib.hid (X.out.below (below_new w7 (.cells #[.int .i64 0, .int .i64 0] 27)))
    have L := Lib.hid (L.out.below (below_new w7 (.cells #[.int .i64 0, .int .i64 0] 27)))
    have A := Lib.hid (BoxAt.new w7 0 0)
    have Lc := Lib.hid (below_step Lc.out (below_new w7 (.cells #[.int .i64 0, .int .i64 0] 27)))
    have L0 := L.out.c0
    have L1 := L.out.c1
    have L2 := L.out.c2
    have L3 := L.out.c3
    have L4 := L.out.c4
    have L5 := L.out.c5
    have A0 := A.out.2.1; have A1 := A.out.2.2
    go_wp2_with fail
    clear L0 L1 L2 L3 L4 L5 A0 A1
    refine (M1.out _ (T0.out.below Lc.out)).mono ?_; rintro e w8 ⟨rfl, g8⟩
    have Lc := Lib.hid (below_step Lc.out g8)
    have X := Lib.hid (X.out.below g8)
    have L := Lib.hid (L.out.below g8)
    have A := Lib.hid (A.out.below g8)
    have X := Lib.hid (X.out.below (below_new w8 (.cells #[.int .i64 cn, .int .i64 cd] 27)))
    have L := Lib.hid (L.out.below (below_new w8 (.cells #[.int .i64 cn, .int .i64 cd] 27)))
    have A := Lib.hid (A.out.below (below_new w8 (.cells #[.int .i64 cn, .int .i64 cd] 27)))
    have C := Lib.hid (BoxAt.new w8 cn cd)
    have Lc := Lib.hid (below_step Lc.out (below_new w8 (.cells #[.int .i64 cn, .int .i64 cd] 27)))
    have L0 := L.out.c0
    have L1 := L.out.c1
    have L2 := L.out.c2
    have L3 := L.out.c3
    have L4 := L.out.c4
    have L5 := L.out.c5
    have C0 := C.out.2.1; have C1 := C.out.2.2
    go_wp2_with fail
    clear L0 L1 L2 L3 L4 L5 C0 C1
    refine (D1.out _ (T0.out.below Lc.out)).mono ?_; rintro e w9 ⟨rfl, g9⟩
    have Lc := Lib.hid (below_step Lc.out g9)
    have X := Lib.hid (X.out.below g9)
    have L := Lib.hid (L.out.below g9)
    have A := Lib.hid (A.out.below g9)
    have C := Lib.hid (C.out.below g9)
    have X := Lib.hid (X.out.below (below_new w9 (.cells #[.int .i64 p0, .int .i64 q0] 27)))
    have L := Lib.hid (L.out.below (below_new w9 (.cells #[.int .i64 p0, .int .i64 q0] 27)))
    have A := Lib.hid (A.out.below (below_new w9 (.cells #[.int .i64 p0, .int .i64 q0] 27)))
    have C := Lib.hid (C.out.below (below_new w9 (.cells #[.int .i64 p0, .int .i64 q0] 27)))
    have V := Lib.hid (BoxAt.new w9 p0 q0)
    have Lc := Lib.hid (below_step Lc.out (below_new w9 (.cells #[.int .i64 p0, .int .i64 q0] 27)))
    have L0 := L.out.c0
    have L1 := L.out.c1
    have L2 := L.out.c2
    have L3 := L.out.c3
    have L4 := L.out.c4
    have L5 := L.out.c5
    have V0 := V.out.2.1; have V1 := V.out.2.2
    go_wp2_with fail
    clear L0 L1 L2 L3 L4 L5 V0 V1
    go_ret
    exact ⟨rfl, Lc.out⟩

set_option maxRecDepth 100000 in
set_option maxHeartbeats 4000000 in
theorem invW_s_n (a b c d e f m n p0 q0 p1 q1 p2 q2 : Int) (w : World) (ad : Addr) (ht : Tab ad w) (fa : Fits a ∧ Fits b) (fc : Fits c ∧ Fits d) (fe : Fits e ∧ Fits f) (an ad1 : Int) (h3 : addR p0 q0 p1 q1 = some (an, ad1)) (h5 : mulR p0 q0 p1 q1 = none) (h0 : Ra.red a b = some (p0, q0)) (h1 : Ra.red c d = some (p1, q1)) (h2 : Ra.red e f = some (p2, q2)) :
    Calls Tryd.prog 6 #[pairsV a b c d e f, .int .i64 m, .int .i64 n] w fun e' w' => e' = .returned (.bool true) ∧ Below w.heap.size w w' := by
  have o0 := (Ra.red_ok h0).1; have o1 := (Ra.red_ok h1).1; have o2 := (Ra.red_ok h2).1
  have F0 := ok_fits o0; have F1 := ok_fits o1; have F2 := ok_fits o2
  have hs := fun w ht => sane_any w ad ht
  have hm := fun w ht => made_yes a b c d e f p0 q0 p1 q1 p2 q2 w ad ht fa fc fe h0 h1 h2
  have HS := Lib.hid hs; have HM := Lib.hid hm; have T0 := Lib.hid ht
  have hM0 : -1000 ≤ m.tmod 1001 ∧ m.tmod 1001 ≤ 1000 := by have h1 := Int.tmod_lt_of_pos m (by omega : (0 : Int) < 1001); have h2 := Int.lt_tmod_of_pos m (by omega : (0 : Int) < 1001); omega
  have hN0 : -1000 ≤ n.tmod 1001 ∧ n.tmod 1001 ≤ 1000 := by have h1 := Int.tmod_lt_of_pos n (by omega : (0 : Int) < 1001); have h2 := Int.lt_tmod_of_pos n (by omega : (0 : Int) < 1001); omega
  obtain ⟨M, hM⟩ : ∃ M, m.tmod 1001 = M := ⟨_, rfl⟩
  obtain ⟨N, hN⟩ : ∃ N, n.tmod 1001 = N := ⟨_, rfl⟩
  rw [hM] at hM0; rw [hN] at hN0
  obtain ⟨M1', M2'⟩ := hM0; obtain ⟨N1', N2'⟩ := hN0
  have prod : -1000000 ≤ M * N ∧ M * N ≤ 1000000 := by
    have h1 : (M * N).natAbs ≤ 1000 * 1000 := by rw [Int.natAbs_mul]; exact Nat.mul_le_mul (by omega) (by omega)
    omega
  have x1 := Make_some (a := ad) (Ra.red_int M (by omega) (by omega)) ⟨by omega, by omega⟩ ⟨by decide, by decide⟩
  have x2 := Make_some (a := ad) (Ra.red_int N (by omega) (by omega)) ⟨by omega, by omega⟩ ⟨by decide, by decide⟩
  have oM := Ra.ok_int M (by omega) (by omega); have oN := Ra.ok_int N (by omega) (by omega)
  have x3 : addR M 1 N 1 = some (M + N, 1) := by unfold addR; rw [if_pos ⟨oM, oN⟩, Int.mul_one, Int.mul_one, Int.mul_one]; exact Ra.red_int _ (by omega) (by omega)
  have x4 : mulR M 1 N 1 = some (M * N, 1) := by unfold mulR; rw [if_pos ⟨oM, oN⟩, Int.mul_one]; exact Ra.red_int _ (by omega) (by omega)
  have x5 := Add_some (a := ad) x3 (ok_fits oM) (ok_fits oN)
  have x6 := Mul_some (a := ad) x4 (ok_fits oM) (ok_fits oN)
  have P1 := Lib.hid x1; have P2 := Lib.hid x2; have P3 := Lib.hid x5; have P4 := Lib.hid x6
  have e1 : IntKind.i64.wrap (M + N) = M + N := IntWalk.i64_in _ (by omega)
  have e2 : IntKind.i64.wrap (M * N) = M * N := IntWalk.i64_in _ (by omega)
  have E1 := Lib.hid e1; have E2 := Lib.hid e2
  have HI := Lib.hid is_any
  clear prod x1 x2 oM oN x3 x4 x5 x6 e1 e2
  have A1 := Lib.hid (Add_some (a := ad) h3 F0 F1)
  have r3 : Ra.red (p0 * q1 + p1 * q0) (q0 * q1) = some (an, ad1) := by unfold addR at h3; rwa [if_pos ⟨o0, o1⟩] at h3
  have k3 : subR an ad1 p1 q1 = some (p0, q0) := by unfold subR; rw [if_pos ⟨(Ra.red_ok r3).1, o1⟩]; exact Ra.sub_add o0 o1 r3
  have S1 := Lib.hid (Sub_some (a := ad) k3 (ok_fits (Ra.red_ok r3).1) F1)
  have M1 := Lib.hid (Mul_none (a := ad) h5 F0 F1)
  clear hs hm ht fa fc fe h0 h1 h2 h3 h5 o0 o1 o2 F0 F1 F2 r3 k3
  have R0 := Lib.hid (SixAt.new w 33 a b c d e f)
  go_enter Tryd.func6, Tryd.ntmps6
  go_wp2_with fail
  have Lc := Lib.hid (below_new w (.cells #[.int .i64 a, .int .i64 b, .int .i64 c, .int .i64 d, .int .i64 e, .int .i64 f] 33))
  have X := R0
  refine (HS.out _ (T0.out.below Lc.out)).mono ?_; rintro e w1 ⟨rfl, g1⟩
  have Lc := Lib.hid (below_step Lc.out g1)
  have X := Lib.hid (X.out.below g1)
  go_wp2_with fail
  refine (P1.out _ (T0.out.below Lc.out)).mono ?_; rintro e w2 ⟨rfl, g2⟩
  have Lc := Lib.hid (below_step Lc.out g2)
  have X := Lib.hid (X.out.below g2)
  have X := Lib.hid (X.out.below (below_new w2 (.cells #[.int .i64 M, .int .i64 1] 27)))
  have P := Lib.hid (BoxAt.new w2 M 1)
  have Lc := Lib.hid (below_step Lc.out (below_new w2 (.cells #[.int .i64 M, .int .i64 1] 27)))
  go_wp2_with fail
  refine (P2.out _ (T0.out.below Lc.out)).mono ?_; rintro e w3 ⟨rfl, g3⟩
  have Lc := Lib.hid (below_step Lc.out g3)
  have X := Lib.hid (X.out.below g3)
  have P := Lib.hid (P.out.below g3)
  have X := Lib.hid (X.out.below (below_new w3 (.cells #[.int .i64 N, .int .i64 1] 27)))
  have P := Lib.hid (P.out.below (below_new w3 (.cells #[.int .i64 N, .int .i64 1] 27)))
  have Q := Lib.hid (BoxAt.new w3 N 1)
  have Lc := Lib.hid (below_step Lc.out (below_new w3 (.cells #[.int .i64 N, .int .i64 1] 27)))
  have P0 := P.out.2.1; have P1 := P.out.2.2
  have Q0 := Q.out.2.1; have Q1 := Q.out.2.2
  go_wp2_with fail
  clear P0 P1 Q0 Q1
  refine (P3.out _ (T0.out.below Lc.out)).mono ?_; rintro e w4 ⟨rfl, g4⟩
  have Lc := Lib.hid (below_step Lc.out g4)
  have X := Lib.hid (X.out.below g4)
  have P := Lib.hid (P.out.below g4)
  have Q := Lib.hid (Q.out.below g4)
  have X := Lib.hid (X.out.below (below_new w4 (.cells #[.int .i64 (M + N), .int .i64 1] 27)))
  have P := Lib.hid (P.out.below (below_new w4 (.cells #[.int .i64 (M + N), .int .i64 1] 27)))
  have Q := Lib.hid (Q.out.below (below_new w4 (.cells #[.int .i64 (M + N), .int .i64 1] 27)))
  have S := Lib.hid (BoxAt.new w4 (M + N) 1)
  have Lc := Lib.hid (below_step Lc.out (below_new w4 (.cells #[.int .i64 (M + N), .int .i64 1] 27)))
  have P0 := P.out.2.1; have P1 := P.out.2.2
  have Q0 := Q.out.2.1; have Q1 := Q.out.2.2
  go_wp2_with fail
  clear P0 P1 Q0 Q1
  refine (P4.out _ (T0.out.below Lc.out)).mono ?_; rintro e w5 ⟨rfl, g5⟩
  have Lc := Lib.hid (below_step Lc.out g5)
  have X := Lib.hid (X.out.below g5)
  have P := Lib.hid (P.out.below g5)
  have Q := Lib.hid (Q.out.below g5)
  have S := Lib.hid (S.out.below g5)
  have X := Lib.hid (X.out.below (below_new w5 (.cells #[.int .i64 (M * N), .int .i64 1] 27)))
  have P := Lib.hid (P.out.below (below_new w5 (.cells #[.int .i64 (M * N), .int .i64 1] 27)))
  have Q := Lib.hid (Q.out.below (below_new w5 (.cells #[.int .i64 (M * N), .int .i64 1] 27)))
  have S := Lib.hid (S.out.below (below_new w5 (.cells #[.int .i64 (M * N), .int .i64 1] 27)))
  have T := Lib.hid (BoxAt.new w5 (M * N) 1)
  have Lc := Lib.hid (below_step Lc.out (below_new w5 (.cells #[.int .i64 (M * N), .int .i64 1] 27)))
  go_wp2_with fail
  have e1 := E1.out; have e2 := E2.out
  have s0 := S.out.2.1; have s1 := S.out.2.2; have t0 := T.out.2.1; have t1 := T.out.2.2
  generalize w5.alloc (.cells #[.int .i64 (M * N), .int .i64 1] 27) = W at *
  have HK : Hid (∀ u1 u2, (u1.cell? ⟨w4.heap.size, 0, none⟩ = some (.int .i64 (M + N)) ∧ u1.cell? ⟨w4.heap.size, 1, none⟩ = some (.int .i64 1) ∧ u1.cell? ⟨w5.heap.size, 0, none⟩ = some (.int .i64 (M * N)) ∧ u1.cell? ⟨w5.heap.size, 1, none⟩ = some (.int .i64 1) ∧ Below W.heap.size W u1) → Below u1.heap.size u1 u2 → (u2.cell? ⟨w4.heap.size, 0, none⟩ = some (.int .i64 (M + N)) ∧ u2.cell? ⟨w4.heap.size, 1, none⟩ = some (.int .i64 1) ∧ u2.cell? ⟨w5.heap.size, 0, none⟩ = some (.int .i64 (M * N)) ∧ u2.cell? ⟨w5.heap.size, 1, none⟩ = some (.int .i64 1) ∧ Below W.heap.size W u2)) := Lib.hid fun u1 u2 ⟨a0, a1, a2, a3, a4⟩ hb => ⟨cell_below hb a0, cell_below hb a1, cell_below hb a2, cell_below hb a3, below_step a4 hb⟩
  have H0 : Hid (W.cell? ⟨w4.heap.size, 0, none⟩ = some (.int .i64 (M + N)) ∧ W.cell? ⟨w4.heap.size, 1, none⟩ = some (.int .i64 1) ∧ W.cell? ⟨w5.heap.size, 0, none⟩ = some (.int .i64 (M * N)) ∧ W.cell? ⟨w5.heap.size, 1, none⟩ = some (.int .i64 1) ∧ Below W.heap.size W W) := Lib.hid ⟨s0, s1, t0, t1, Below.refl _ _⟩
  go_region_held3 (fun w' => w'.cell? ⟨w4.heap.size, 0, none⟩ = some (.int .i64 (M + N)) ∧ w'.cell? ⟨w4.heap.size, 1, none⟩ = some (.int .i64 1) ∧ w'.cell? ⟨w5.heap.size, 0, none⟩ = some (.int .i64 (M * N)) ∧ w'.cell? ⟨w5.heap.size, 1, none⟩ = some (.int .i64 1) ∧ Below W.heap.size W w') (first | with_reducible exact HK.out _ _ H0.out (Below.refl _ _).drew | exact HK.out _ _ (by assumption) hb4)
    ((go_at_call 13; ((with_reducible refine (HI.out _ _ _).mono ?_); rintro e' v ⟨rfl, hb4⟩)))
  all_goals
    rename_i hh
    have hq := Lib.hid hh.2.2.2.2
    clear hh s0 s1 t0 t1 e1 e2
    have Lc := Lib.hid (below_step Lc.out hq.out)
    have X := Lib.hid (X.out.below hq.out)
    have X0 := X.out.c0
    have X1 := X.out.c1
    have X2 := X.out.c2
    have X3 := X.out.c3
    have X4 := X.out.c4
    have X5 := X.out.c5
    go_wp2_with fail
    clear X0 X1 X2 X3 X4 X5
    refine (HM.out _ (T0.out.below Lc.out)).mono ?_; rintro e w6 ⟨rfl, g6⟩
    have Lc := Lib.hid (below_step Lc.out g6)
    have X := Lib.hid (X.out.below g6)
    have X := Lib.hid (X.out.below (below_new w6 (.cells #[.int .i64 p0, .int .i64 q0, .int .i64 p1, .int .i64 q1, .int .i64 p2, .int .i64 q2] 34)))
    have L := Lib.hid (SixAt.new w6 34 p0 q0 p1 q1 p2 q2)
    have Lc := Lib.hid (below_step Lc.out (below_new w6 (.cells #[.int .i64 p0, .int .i64 q0, .int .i64 p1, .int .i64 q1, .int .i64 p2, .int .i64 q2] 34)))
    have L0 := L.out.c0
    have L1 := L.out.c1
    have L2 := L.out.c2
    have L3 := L.out.c3
    have L4 := L.out.c4
    have L5 := L.out.c5
    go_wp2_with fail
    clear L0 L1 L2 L3 L4 L5
    refine (A1.out _ (T0.out.below Lc.out)).mono ?_; rintro e w7 ⟨rfl, g7⟩
    have Lc := Lib.hid (below_step Lc.out g7)
    have X := Lib.hid (X.out.below g7)
    have L := Lib.hid (L.out.below g7)
    have X := Lib.hid (X.out.below (below_new w7 (.cells #[.int .i64 an, .int .i64 ad1] 27)))
    have L := Lib.hid (L.out.below (below_new w7 (.cells #[.int .i64 an, .int .i64 ad1] 27)))
    have A := Lib.hid (BoxAt.new w7 an ad1)
    have Lc := Lib.hid (below_step Lc.out (below_new w7 (.cells #[.int .i64 an, .int .i64 ad1] 27)))
    have L0 := L.out.c0
    have L1 := L.out.c1
    have L2 := L.out.c2
    have L3 := L.out.c3
    have L4 := L.out.c4
    have L5 := L.out.c5
    have A0 := A.out.2.1; have A1 := A.out.2.2
    go_wp2_with fail
    clear L0 L1 L2 L3 L4 L5 A0 A1
    refine (S1.out _ (T0.out.below Lc.out)).mono ?_; rintro e w8 ⟨rfl, g8⟩
    have Lc := Lib.hid (below_step Lc.out g8)
    have X := Lib.hid (X.out.below g8)
    have L := Lib.hid (L.out.below g8)
    have A := Lib.hid (A.out.below g8)
    have X := Lib.hid (X.out.below (below_new w8 (.cells #[.int .i64 p0, .int .i64 q0] 27)))
    have L := Lib.hid (L.out.below (below_new w8 (.cells #[.int .i64 p0, .int .i64 q0] 27)))
    have A := Lib.hid (A.out.below (below_new w8 (.cells #[.int .i64 p0, .int .i64 q0] 27)))
    have U := Lib.hid (BoxAt.new w8 p0 q0)
    have Lc := Lib.hid (below_step Lc.out (below_new w8 (.cells #[.int .i64 p0, .int .i64 q0] 27)))
    have L0 := L.out.c0
    have L1 := L.out.c1
    have L2 := L.out.c2
    have L3 := L.out.c3
    have L4 := L.out.c4
    have L5 := L.out.c5
    have U0 := U.out.2.1; have U1 := U.out.2.2
    go_wp2_with fail
    clear L0 L1 L2 L3 L4 L5 U0 U1
    refine (M1.out _ (T0.out.below Lc.out)).mono ?_; rintro e w9 ⟨rfl, g9⟩
    have Lc := Lib.hid (below_step Lc.out g9)
    have X := Lib.hid (X.out.below g9)
    have L := Lib.hid (L.out.below g9)
    have A := Lib.hid (A.out.below g9)
    have U := Lib.hid (U.out.below g9)
    have X := Lib.hid (X.out.below (below_new w9 (.cells #[.int .i64 0, .int .i64 0] 27)))
    have L := Lib.hid (L.out.below (below_new w9 (.cells #[.int .i64 0, .int .i64 0] 27)))
    have A := Lib.hid (A.out.below (below_new w9 (.cells #[.int .i64 0, .int .i64 0] 27)))
    have U := Lib.hid (U.out.below (below_new w9 (.cells #[.int .i64 0, .int .i64 0] 27)))
    have C := Lib.hid (BoxAt.new w9 0 0)
    have Lc := Lib.hid (below_step Lc.out (below_new w9 (.cells #[.int .i64 0, .int .i64 0] 27)))
    have L0 := L.out.c0
    have L1 := L.out.c1
    have L2 := L.out.c2
    have L3 := L.out.c3
    have L4 := L.out.c4
    have L5 := L.out.c5
    have C0 := C.out.2.1; have C1 := C.out.2.2
    go_wp2_with fail
    clear L0 L1 L2 L3 L4 L5 C0 C1
    go_ret
    exact ⟨rfl, Lc.out⟩

set_option maxRecDepth 100000 in
set_option maxHeartbeats 4000000 in
theorem invW_s_z (a b c d e f m n p0 q0 p1 q1 p2 q2 : Int) (w : World) (ad : Addr) (ht : Tab ad w) (fa : Fits a ∧ Fits b) (fc : Fits c ∧ Fits d) (fe : Fits e ∧ Fits f) (an ad1 : Int) (h3 : addR p0 q0 p1 q1 = some (an, ad1)) (cn cd : Int) (h5 : mulR p0 q0 p1 q1 = some (cn, cd)) (hz : p1 = 0) (h0 : Ra.red a b = some (p0, q0)) (h1 : Ra.red c d = some (p1, q1)) (h2 : Ra.red e f = some (p2, q2)) :
    Calls Tryd.prog 6 #[pairsV a b c d e f, .int .i64 m, .int .i64 n] w fun e' w' => e' = .returned (.bool true) ∧ Below w.heap.size w w' := by
  have o0 := (Ra.red_ok h0).1; have o1 := (Ra.red_ok h1).1; have o2 := (Ra.red_ok h2).1
  have F0 := ok_fits o0; have F1 := ok_fits o1; have F2 := ok_fits o2
  have hs := fun w ht => sane_any w ad ht
  have hm := fun w ht => made_yes a b c d e f p0 q0 p1 q1 p2 q2 w ad ht fa fc fe h0 h1 h2
  have HS := Lib.hid hs; have HM := Lib.hid hm; have T0 := Lib.hid ht
  have hM0 : -1000 ≤ m.tmod 1001 ∧ m.tmod 1001 ≤ 1000 := by have h1 := Int.tmod_lt_of_pos m (by omega : (0 : Int) < 1001); have h2 := Int.lt_tmod_of_pos m (by omega : (0 : Int) < 1001); omega
  have hN0 : -1000 ≤ n.tmod 1001 ∧ n.tmod 1001 ≤ 1000 := by have h1 := Int.tmod_lt_of_pos n (by omega : (0 : Int) < 1001); have h2 := Int.lt_tmod_of_pos n (by omega : (0 : Int) < 1001); omega
  obtain ⟨M, hM⟩ : ∃ M, m.tmod 1001 = M := ⟨_, rfl⟩
  obtain ⟨N, hN⟩ : ∃ N, n.tmod 1001 = N := ⟨_, rfl⟩
  rw [hM] at hM0; rw [hN] at hN0
  obtain ⟨M1', M2'⟩ := hM0; obtain ⟨N1', N2'⟩ := hN0
  have prod : -1000000 ≤ M * N ∧ M * N ≤ 1000000 := by
    have h1 : (M * N).natAbs ≤ 1000 * 1000 := by rw [Int.natAbs_mul]; exact Nat.mul_le_mul (by omega) (by omega)
    omega
  have x1 := Make_some (a := ad) (Ra.red_int M (by omega) (by omega)) ⟨by omega, by omega⟩ ⟨by decide, by decide⟩
  have x2 := Make_some (a := ad) (Ra.red_int N (by omega) (by omega)) ⟨by omega, by omega⟩ ⟨by decide, by decide⟩
  have oM := Ra.ok_int M (by omega) (by omega); have oN := Ra.ok_int N (by omega) (by omega)
  have x3 : addR M 1 N 1 = some (M + N, 1) := by unfold addR; rw [if_pos ⟨oM, oN⟩, Int.mul_one, Int.mul_one, Int.mul_one]; exact Ra.red_int _ (by omega) (by omega)
  have x4 : mulR M 1 N 1 = some (M * N, 1) := by unfold mulR; rw [if_pos ⟨oM, oN⟩, Int.mul_one]; exact Ra.red_int _ (by omega) (by omega)
  have x5 := Add_some (a := ad) x3 (ok_fits oM) (ok_fits oN)
  have x6 := Mul_some (a := ad) x4 (ok_fits oM) (ok_fits oN)
  have P1 := Lib.hid x1; have P2 := Lib.hid x2; have P3 := Lib.hid x5; have P4 := Lib.hid x6
  have e1 : IntKind.i64.wrap (M + N) = M + N := IntWalk.i64_in _ (by omega)
  have e2 : IntKind.i64.wrap (M * N) = M * N := IntWalk.i64_in _ (by omega)
  have E1 := Lib.hid e1; have E2 := Lib.hid e2
  have HI := Lib.hid is_any
  clear prod x1 x2 oM oN x3 x4 x5 x6 e1 e2
  have A1 := Lib.hid (Add_some (a := ad) h3 F0 F1)
  have r3 : Ra.red (p0 * q1 + p1 * q0) (q0 * q1) = some (an, ad1) := by unfold addR at h3; rwa [if_pos ⟨o0, o1⟩] at h3
  have k3 : subR an ad1 p1 q1 = some (p0, q0) := by unfold subR; rw [if_pos ⟨(Ra.red_ok r3).1, o1⟩]; exact Ra.sub_add o0 o1 r3
  have S1 := Lib.hid (Sub_some (a := ad) k3 (ok_fits (Ra.red_ok r3).1) F1)
  have M1 := Lib.hid (Mul_some (a := ad) h5 F0 F1)
  have hz1 : ((p1 : Int) != 0) = false := by rw [hz]; rfl
  clear hs hm ht fa fc fe h0 h1 h2 h3 h5 o0 o1 o2 F0 F1 F2 r3 k3 hz
  have R0 := Lib.hid (SixAt.new w 33 a b c d e f)
  go_enter Tryd.func6, Tryd.ntmps6
  go_wp2_with fail
  have Lc := Lib.hid (below_new w (.cells #[.int .i64 a, .int .i64 b, .int .i64 c, .int .i64 d, .int .i64 e, .int .i64 f] 33))
  have X := R0
  refine (HS.out _ (T0.out.below Lc.out)).mono ?_; rintro e w1 ⟨rfl, g1⟩
  have Lc := Lib.hid (below_step Lc.out g1)
  have X := Lib.hid (X.out.below g1)
  go_wp2_with fail
  refine (P1.out _ (T0.out.below Lc.out)).mono ?_; rintro e w2 ⟨rfl, g2⟩
  have Lc := Lib.hid (below_step Lc.out g2)
  have X := Lib.hid (X.out.below g2)
  have X := Lib.hid (X.out.below (below_new w2 (.cells #[.int .i64 M, .int .i64 1] 27)))
  have P := Lib.hid (BoxAt.new w2 M 1)
  have Lc := Lib.hid (below_step Lc.out (below_new w2 (.cells #[.int .i64 M, .int .i64 1] 27)))
  go_wp2_with fail
  refine (P2.out _ (T0.out.below Lc.out)).mono ?_; rintro e w3 ⟨rfl, g3⟩
  have Lc := Lib.hid (below_step Lc.out g3)
  have X := Lib.hid (X.out.below g3)
  have P := Lib.hid (P.out.below g3)
  have X := Lib.hid (X.out.below (below_new w3 (.cells #[.int .i64 N, .int .i64 1] 27)))
  have P := Lib.hid (P.out.below (below_new w3 (.cells #[.int .i64 N, .int .i64 1] 27)))
  have Q := Lib.hid (BoxAt.new w3 N 1)
  have Lc := Lib.hid (below_step Lc.out (below_new w3 (.cells #[.int .i64 N, .int .i64 1] 27)))
  have P0 := P.out.2.1; have P1 := P.out.2.2
  have Q0 := Q.out.2.1; have Q1 := Q.out.2.2
  go_wp2_with fail
  clear P0 P1 Q0 Q1
  refine (P3.out _ (T0.out.below Lc.out)).mono ?_; rintro e w4 ⟨rfl, g4⟩
  have Lc := Lib.hid (below_step Lc.out g4)
  have X := Lib.hid (X.out.below g4)
  have P := Lib.hid (P.out.below g4)
  have Q := Lib.hid (Q.out.below g4)
  have X := Lib.hid (X.out.below (below_new w4 (.cells #[.int .i64 (M + N), .int .i64 1] 27)))
  have P := Lib.hid (P.out.below (below_new w4 (.cells #[.int .i64 (M + N), .int .i64 1] 27)))
  have Q := Lib.hid (Q.out.below (below_new w4 (.cells #[.int .i64 (M + N), .int .i64 1] 27)))
  have S := Lib.hid (BoxAt.new w4 (M + N) 1)
  have Lc := Lib.hid (below_step Lc.out (below_new w4 (.cells #[.int .i64 (M + N), .int .i64 1] 27)))
  have P0 := P.out.2.1; have P1 := P.out.2.2
  have Q0 := Q.out.2.1; have Q1 := Q.out.2.2
  go_wp2_with fail
  clear P0 P1 Q0 Q1
  refine (P4.out _ (T0.out.below Lc.out)).mono ?_; rintro e w5 ⟨rfl, g5⟩
  have Lc := Lib.hid (below_step Lc.out g5)
  have X := Lib.hid (X.out.below g5)
  have P := Lib.hid (P.out.below g5)
  have Q := Lib.hid (Q.out.below g5)
  have S := Lib.hid (S.out.below g5)
  have X := Lib.hid (X.out.below (below_new w5 (.cells #[.int .i64 (M * N), .int .i64 1] 27)))
  have P := Lib.hid (P.out.below (below_new w5 (.cells #[.int .i64 (M * N), .int .i64 1] 27)))
  have Q := Lib.hid (Q.out.below (below_new w5 (.cells #[.int .i64 (M * N), .int .i64 1] 27)))
  have S := Lib.hid (S.out.below (below_new w5 (.cells #[.int .i64 (M * N), .int .i64 1] 27)))
  have T := Lib.hid (BoxAt.new w5 (M * N) 1)
  have Lc := Lib.hid (below_step Lc.out (below_new w5 (.cells #[.int .i64 (M * N), .int .i64 1] 27)))
  go_wp2_with fail
  have e1 := E1.out; have e2 := E2.out
  have s0 := S.out.2.1; have s1 := S.out.2.2; have t0 := T.out.2.1; have t1 := T.out.2.2
  generalize w5.alloc (.cells #[.int .i64 (M * N), .int .i64 1] 27) = W at *
  have HK : Hid (∀ u1 u2, (u1.cell? ⟨w4.heap.size, 0, none⟩ = some (.int .i64 (M + N)) ∧ u1.cell? ⟨w4.heap.size, 1, none⟩ = some (.int .i64 1) ∧ u1.cell? ⟨w5.heap.size, 0, none⟩ = some (.int .i64 (M * N)) ∧ u1.cell? ⟨w5.heap.size, 1, none⟩ = some (.int .i64 1) ∧ Below W.heap.size W u1) → Below u1.heap.size u1 u2 → (u2.cell? ⟨w4.heap.size, 0, none⟩ = some (.int .i64 (M + N)) ∧ u2.cell? ⟨w4.heap.size, 1, none⟩ = some (.int .i64 1) ∧ u2.cell? ⟨w5.heap.size, 0, none⟩ = some (.int .i64 (M * N)) ∧ u2.cell? ⟨w5.heap.size, 1, none⟩ = some (.int .i64 1) ∧ Below W.heap.size W u2)) := Lib.hid fun u1 u2 ⟨a0, a1, a2, a3, a4⟩ hb => ⟨cell_below hb a0, cell_below hb a1, cell_below hb a2, cell_below hb a3, below_step a4 hb⟩
  have H0 : Hid (W.cell? ⟨w4.heap.size, 0, none⟩ = some (.int .i64 (M + N)) ∧ W.cell? ⟨w4.heap.size, 1, none⟩ = some (.int .i64 1) ∧ W.cell? ⟨w5.heap.size, 0, none⟩ = some (.int .i64 (M * N)) ∧ W.cell? ⟨w5.heap.size, 1, none⟩ = some (.int .i64 1) ∧ Below W.heap.size W W) := Lib.hid ⟨s0, s1, t0, t1, Below.refl _ _⟩
  go_region_held3 (fun w' => w'.cell? ⟨w4.heap.size, 0, none⟩ = some (.int .i64 (M + N)) ∧ w'.cell? ⟨w4.heap.size, 1, none⟩ = some (.int .i64 1) ∧ w'.cell? ⟨w5.heap.size, 0, none⟩ = some (.int .i64 (M * N)) ∧ w'.cell? ⟨w5.heap.size, 1, none⟩ = some (.int .i64 1) ∧ Below W.heap.size W w') (first | with_reducible exact HK.out _ _ H0.out (Below.refl _ _).drew | exact HK.out _ _ (by assumption) hb4)
    ((go_at_call 13; ((with_reducible refine (HI.out _ _ _).mono ?_); rintro e' v ⟨rfl, hb4⟩)))
  all_goals
    rename_i hh
    have hq := Lib.hid hh.2.2.2.2
    clear hh s0 s1 t0 t1 e1 e2
    have Lc := Lib.hid (below_step Lc.out hq.out)
    have X := Lib.hid (X.out.below hq.out)
    have X0 := X.out.c0
    have X1 := X.out.c1
    have X2 := X.out.c2
    have X3 := X.out.c3
    have X4 := X.out.c4
    have X5 := X.out.c5
    go_wp2_with fail
    clear X0 X1 X2 X3 X4 X5
    refine (HM.out _ (T0.out.below Lc.out)).mono ?_; rintro e w6 ⟨rfl, g6⟩
    have Lc := Lib.hid (below_step Lc.out g6)
    have X := Lib.hid (X.out.below g6)
    have X := Lib.hid (X.out.below (below_new w6 (.cells #[.int .i64 p0, .int .i64 q0, .int .i64 p1, .int .i64 q1, .int .i64 p2, .int .i64 q2] 34)))
    have L := Lib.hid (SixAt.new w6 34 p0 q0 p1 q1 p2 q2)
    have Lc := Lib.hid (below_step Lc.out (below_new w6 (.cells #[.int .i64 p0, .int .i64 q0, .int .i64 p1, .int .i64 q1, .int .i64 p2, .int .i64 q2] 34)))
    have L0 := L.out.c0
    have L1 := L.out.c1
    have L2 := L.out.c2
    have L3 := L.out.c3
    have L4 := L.out.c4
    have L5 := L.out.c5
    go_wp2_with fail
    clear L0 L1 L2 L3 L4 L5
    refine (A1.out _ (T0.out.below Lc.out)).mono ?_; rintro e w7 ⟨rfl, g7⟩
    have Lc := Lib.hid (below_step Lc.out g7)
    have X := Lib.hid (X.out.below g7)
    have L := Lib.hid (L.out.below g7)
    have X := Lib.hid (X.out.below (below_new w7 (.cells #[.int .i64 an, .int .i64 ad1] 27)))
    have L := Lib.hid (L.out.below (below_new w7 (.cells #[.int .i64 an, .int .i64 ad1] 27)))
    have A := Lib.hid (BoxAt.new w7 an ad1)
    have Lc := Lib.hid (below_step Lc.out (below_new w7 (.cells #[.int .i64 an, .int .i64 ad1] 27)))
    have L0 := L.out.c0
    have L1 := L.out.c1
    have L2 := L.out.c2
    have L3 := L.out.c3
    have L4 := L.out.c4
    have L5 := L.out.c5
    have A0 := A.out.2.1; have A1 := A.out.2.2
    go_wp2_with fail
    clear L0 L1 L2 L3 L4 L5 A0 A1
    refine (S1.out _ (T0.out.below Lc.out)).mono ?_; rintro e w8 ⟨rfl, g8⟩
    have Lc := Lib.hid (below_step Lc.out g8)
    have X := Lib.hid (X.out.below g8)
    have L := Lib.hid (L.out.below g8)
    have A := Lib.hid (A.out.below g8)
    have X := Lib.hid (X.out.below (below_new w8 (.cells #[.int .i64 p0, .int .i64 q0] 27)))
    have L := Lib.hid (L.out.below (below_new w8 (.cells #[.int .i64 p0, .int .i64 q0] 27)))
    have A := Lib.hid (A.out.below (below_new w8 (.cells #[.int .i64 p0, .int .i64 q0] 27)))
    have U := Lib.hid (BoxAt.new w8 p0 q0)
    have Lc := Lib.hid (below_step Lc.out (below_new w8 (.cells #[.int .i64 p0, .int .i64 q0] 27)))
    have L0 := L.out.c0
    have L1 := L.out.c1
    have L2 := L.out.c2
    have L3 := L.out.c3
    have L4 := L.out.c4
    have L5 := L.out.c5
    have U0 := U.out.2.1; have U1 := U.out.2.2
    go_wp2_with fail
    clear L0 L1 L2 L3 L4 L5 U0 U1
    refine (M1.out _ (T0.out.below Lc.out)).mono ?_; rintro e w9 ⟨rfl, g9⟩
    have Lc := Lib.hid (below_step Lc.out g9)
    have X := Lib.hid (X.out.below g9)
    have L := Lib.hid (L.out.below g9)
    have A := Lib.hid (A.out.below g9)
    have U := Lib.hid (U.out.below g9)
    have X := Lib.hid (X.out.below (below_new w9 (.cells #[.int .i64 cn, .int .i64 cd] 27)))
    have L := Lib.hid (L.out.below (below_new w9 (.cells #[.int .i64 cn, .int .i64 cd] 27)))
    have A := Lib.hid (A.out.below (below_new w9 (.cells #[.int .i64 cn, .int .i64 cd] 27)))
    have U := Lib.hid (U.out.below (below_new w9 (.cells #[.int .i64 cn, .int .i64 cd] 27)))
    have C := Lib.hid (BoxAt.new w9 cn cd)
    have Lc := Lib.hid (below_step Lc.out (below_new w9 (.cells #[.int .i64 cn, .int .i64 cd] 27)))
    have L0 := L.out.c0
    have L1 := L.out.c1
    have L2 := L.out.c2
    have L3 := L.out.c3
    have L4 := L.out.c4
    have L5 := L.out.c5
    have C0 := C.out.2.1; have C1 := C.out.2.2
    go_wp2_with fail
    clear L0 L1 L2 L3 L4 L5 C0 C1
    go_ret
    exact ⟨rfl, Lc.out⟩

set_option maxRecDepth 100000 in
set_option maxHeartbeats 4000000 in
theorem invW_s_s (a b c d e f m n p0 q0 p1 q1 p2 q2 : Int) (w : World) (ad : Addr) (ht : Tab ad w) (fa : Fits a ∧ Fits b) (fc : Fits c ∧ Fits d) (fe : Fits e ∧ Fits f) (an ad1 : Int) (h3 : addR p0 q0 p1 q1 = some (an, ad1)) (cn cd : Int) (h5 : mulR p0 q0 p1 q1 = some (cn, cd)) (hz : ¬ p1 = 0) (h0 : Ra.red a b = some (p0, q0)) (h1 : Ra.red c d = some (p1, q1)) (h2 : Ra.red e f = some (p2, q2)) :
    Calls Tryd.prog 6 #[pairsV a b c d e f, .int .i64 m, .int .i64 n] w fun e' w' => e' = .returned (.bool true) ∧ Below w.heap.size w w' := by
  have o0 := (Ra.red_ok h0).1; have o1 := (Ra.red_ok h1).1; have o2 := (Ra.red_ok h2).1
  have F0 := ok_fits o0; have F1 := ok_fits o1; have F2 := ok_fits o2
  have hs := fun w ht => sane_any w ad ht
  have hm := fun w ht => made_yes a b c d e f p0 q0 p1 q1 p2 q2 w ad ht fa fc fe h0 h1 h2
  have HS := Lib.hid hs; have HM := Lib.hid hm; have T0 := Lib.hid ht
  have hM0 : -1000 ≤ m.tmod 1001 ∧ m.tmod 1001 ≤ 1000 := by have h1 := Int.tmod_lt_of_pos m (by omega : (0 : Int) < 1001); have h2 := Int.lt_tmod_of_pos m (by omega : (0 : Int) < 1001); omega
  have hN0 : -1000 ≤ n.tmod 1001 ∧ n.tmod 1001 ≤ 1000 := by have h1 := Int.tmod_lt_of_pos n (by omega : (0 : Int) < 1001); have h2 := Int.lt_tmod_of_pos n (by omega : (0 : Int) < 1001); omega
  obtain ⟨M, hM⟩ : ∃ M, m.tmod 1001 = M := ⟨_, rfl⟩
  obtain ⟨N, hN⟩ : ∃ N, n.tmod 1001 = N := ⟨_, rfl⟩
  rw [hM] at hM0; rw [hN] at hN0
  obtain ⟨M1', M2'⟩ := hM0; obtain ⟨N1', N2'⟩ := hN0
  have prod : -1000000 ≤ M * N ∧ M * N ≤ 1000000 := by
    have h1 : (M * N).natAbs ≤ 1000 * 1000 := by rw [Int.natAbs_mul]; exact Nat.mul_le_mul (by omega) (by omega)
    omega
  have x1 := Make_some (a := ad) (Ra.red_int M (by omega) (by omega)) ⟨by omega, by omega⟩ ⟨by decide, by decide⟩
  have x2 := Make_some (a := ad) (Ra.red_int N (by omega) (by omega)) ⟨by omega, by omega⟩ ⟨by decide, by decide⟩
  have oM := Ra.ok_int M (by omega) (by omega); have oN := Ra.ok_int N (by omega) (by omega)
  have x3 : addR M 1 N 1 = some (M + N, 1) := by unfold addR; rw [if_pos ⟨oM, oN⟩, Int.mul_one, Int.mul_one, Int.mul_one]; exact Ra.red_int _ (by omega) (by omega)
  have x4 : mulR M 1 N 1 = some (M * N, 1) := by unfold mulR; rw [if_pos ⟨oM, oN⟩, Int.mul_one]; exact Ra.red_int _ (by omega) (by omega)
  have x5 := Add_some (a := ad) x3 (ok_fits oM) (ok_fits oN)
  have x6 := Mul_some (a := ad) x4 (ok_fits oM) (ok_fits oN)
  have P1 := Lib.hid x1; have P2 := Lib.hid x2; have P3 := Lib.hid x5; have P4 := Lib.hid x6
  have e1 : IntKind.i64.wrap (M + N) = M + N := IntWalk.i64_in _ (by omega)
  have e2 : IntKind.i64.wrap (M * N) = M * N := IntWalk.i64_in _ (by omega)
  have E1 := Lib.hid e1; have E2 := Lib.hid e2
  have HI := Lib.hid is_any
  clear prod x1 x2 oM oN x3 x4 x5 x6 e1 e2
  have A1 := Lib.hid (Add_some (a := ad) h3 F0 F1)
  have r3 : Ra.red (p0 * q1 + p1 * q0) (q0 * q1) = some (an, ad1) := by unfold addR at h3; rwa [if_pos ⟨o0, o1⟩] at h3
  have k3 : subR an ad1 p1 q1 = some (p0, q0) := by unfold subR; rw [if_pos ⟨(Ra.red_ok r3).1, o1⟩]; exact Ra.sub_add o0 o1 r3
  have S1 := Lib.hid (Sub_some (a := ad) k3 (ok_fits (Ra.red_ok r3).1) F1)
  have M1 := Lib.hid (Mul_some (a := ad) h5 F0 F1)
  have r5 : Ra.red (p0 * p1) (q0 * q1) = some (cn, cd) := by unfold mulR at h5; rwa [if_pos ⟨o0, o1⟩] at h5
  have k5 : divR cn cd p1 q1 = some (p0, q0) := by unfold divR; rw [if_pos ⟨(Ra.red_ok r5).1, o1⟩]; exact Ra.div_mul o0 o1 hz r5
  have D1 := Lib.hid (Div_some (a := ad) k5 (ok_fits (Ra.red_ok r5).1) F1)
  have hz1 : ((p1 : Int) != 0) = true := by rw [bne_iff_ne]; exact hz
  clear hs hm ht fa fc fe h0 h1 h2 h3 h5 o0 o1 o2 F0 F1 F2 r3 k3 r5 k5 hz
  have R0 := Lib.hid (SixAt.new w 33 a b c d e f)
  go_enter Tryd.func6, Tryd.ntmps6
  go_wp2_with fail
  have Lc := Lib.hid (below_new w (.cells #[.int .i64 a, .int .i64 b, .int .i64 c, .int .i64 d, .int .i64 e, .int .i64 f] 33))
  have X := R0
  refine (HS.out _ (T0.out.below Lc.out)).mono ?_; rintro e w1 ⟨rfl, g1⟩
  have Lc := Lib.hid (below_step Lc.out g1)
  have X := Lib.hid (X.out.below g1)
  go_wp2_with fail
  refine (P1.out _ (T0.out.below Lc.out)).mono ?_; rintro e w2 ⟨rfl, g2⟩
  have Lc := Lib.hid (below_step Lc.out g2)
  have X := Lib.hid (X.out.below g2)
  have X := Lib.hid (X.out.below (below_new w2 (.cells #[.int .i64 M, .int .i64 1] 27)))
  have P := Lib.hid (BoxAt.new w2 M 1)
  have Lc := Lib.hid (below_step Lc.out (below_new w2 (.cells #[.int .i64 M, .int .i64 1] 27)))
  go_wp2_with fail
  refine (P2.out _ (T0.out.below Lc.out)).mono ?_; rintro e w3 ⟨rfl, g3⟩
  have Lc := Lib.hid (below_step Lc.out g3)
  have X := Lib.hid (X.out.below g3)
  have P := Lib.hid (P.out.below g3)
  have X := Lib.hid (X.out.below (below_new w3 (.cells #[.int .i64 N, .int .i64 1] 27)))
  have P := Lib.hid (P.out.below (below_new w3 (.cells #[.int .i64 N, .int .i64 1] 27)))
  have Q := Lib.hid (BoxAt.new w3 N 1)
  have Lc := Lib.hid (below_step Lc.out (below_new w3 (.cells #[.int .i64 N, .int .i64 1] 27)))
  have P0 := P.out.2.1; have P1 := P.out.2.2
  have Q0 := Q.out.2.1; have Q1 := Q.out.2.2
  go_wp2_with fail
  clear P0 P1 Q0 Q1
  refine (P3.out _ (T0.out.below Lc.out)).mono ?_; rintro e w4 ⟨rfl, g4⟩
  have Lc := Lib.hid (below_step Lc.out g4)
  have X := Lib.hid (X.out.below g4)
  have P := Lib.hid (P.out.below g4)
  have Q := Lib.hid (Q.out.below g4)
  have X := Lib.hid (X.out.below (below_new w4 (.cells #[.int .i64 (M + N), .int .i64 1] 27)))
  have P := Lib.hid (P.out.below (below_new w4 (.cells #[.int .i64 (M + N), .int .i64 1] 27)))
  have Q := Lib.hid (Q.out.below (below_new w4 (.cells #[.int .i64 (M + N), .int .i64 1] 27)))
  have S := Lib.hid (BoxAt.new w4 (M + N) 1)
  have Lc := Lib.hid (below_step Lc.out (below_new w4 (.cells #[.int .i64 (M + N), .int .i64 1] 27)))
  have P0 := P.out.2.1; have P1 := P.out.2.2
  have Q0 := Q.out.2.1; have Q1 := Q.out.2.2
  go_wp2_with fail
  clear P0 P1 Q0 Q1
  refine (P4.out _ (T0.out.below Lc.out)).mono ?_; rintro e w5 ⟨rfl, g5⟩
  have Lc := Lib.hid (below_step Lc.out g5)
  have X := Lib.hid (X.out.below g5)
  have P := Lib.hid (P.out.below g5)
  have Q := Lib.hid (Q.out.below g5)
  have S := Lib.hid (S.out.below g5)
  have X := Lib.hid (X.out.below (below_new w5 (.cells #[.int .i64 (M * N), .int .i64 1] 27)))
  have P := Lib.hid (P.out.below (below_new w5 (.cells #[.int .i64 (M * N), .int .i64 1] 27)))
  have Q := Lib.hid (Q.out.below (below_new w5 (.cells #[.int .i64 (M * N), .int .i64 1] 27)))
  have S := Lib.hid (S.out.below (below_new w5 (.cells #[.int .i64 (M * N), .int .i64 1] 27)))
  have T := Lib.hid (BoxAt.new w5 (M * N) 1)
  have Lc := Lib.hid (below_step Lc.out (below_new w5 (.cells #[.int .i64 (M * N), .int .i64 1] 27)))
  go_wp2_with fail
  have e1 := E1.out; have e2 := E2.out
  have s0 := S.out.2.1; have s1 := S.out.2.2; have t0 := T.out.2.1; have t1 := T.out.2.2
  generalize w5.alloc (.cells #[.int .i64 (M * N), .int .i64 1] 27) = W at *
  have HK : Hid (∀ u1 u2, (u1.cell? ⟨w4.heap.size, 0, none⟩ = some (.int .i64 (M + N)) ∧ u1.cell? ⟨w4.heap.size, 1, none⟩ = some (.int .i64 1) ∧ u1.cell? ⟨w5.heap.size, 0, none⟩ = some (.int .i64 (M * N)) ∧ u1.cell? ⟨w5.heap.size, 1, none⟩ = some (.int .i64 1) ∧ Below W.heap.size W u1) → Below u1.heap.size u1 u2 → (u2.cell? ⟨w4.heap.size, 0, none⟩ = some (.int .i64 (M + N)) ∧ u2.cell? ⟨w4.heap.size, 1, none⟩ = some (.int .i64 1) ∧ u2.cell? ⟨w5.heap.size, 0, none⟩ = some (.int .i64 (M * N)) ∧ u2.cell? ⟨w5.heap.size, 1, none⟩ = some (.int .i64 1) ∧ Below W.heap.size W u2)) := Lib.hid fun u1 u2 ⟨a0, a1, a2, a3, a4⟩ hb => ⟨cell_below hb a0, cell_below hb a1, cell_below hb a2, cell_below hb a3, below_step a4 hb⟩
  have H0 : Hid (W.cell? ⟨w4.heap.size, 0, none⟩ = some (.int .i64 (M + N)) ∧ W.cell? ⟨w4.heap.size, 1, none⟩ = some (.int .i64 1) ∧ W.cell? ⟨w5.heap.size, 0, none⟩ = some (.int .i64 (M * N)) ∧ W.cell? ⟨w5.heap.size, 1, none⟩ = some (.int .i64 1) ∧ Below W.heap.size W W) := Lib.hid ⟨s0, s1, t0, t1, Below.refl _ _⟩
  go_region_held3 (fun w' => w'.cell? ⟨w4.heap.size, 0, none⟩ = some (.int .i64 (M + N)) ∧ w'.cell? ⟨w4.heap.size, 1, none⟩ = some (.int .i64 1) ∧ w'.cell? ⟨w5.heap.size, 0, none⟩ = some (.int .i64 (M * N)) ∧ w'.cell? ⟨w5.heap.size, 1, none⟩ = some (.int .i64 1) ∧ Below W.heap.size W w') (first | with_reducible exact HK.out _ _ H0.out (Below.refl _ _).drew | exact HK.out _ _ (by assumption) hb4)
    ((go_at_call 13; ((with_reducible refine (HI.out _ _ _).mono ?_); rintro e' v ⟨rfl, hb4⟩)))
  all_goals
    rename_i hh
    have hq := Lib.hid hh.2.2.2.2
    clear hh s0 s1 t0 t1 e1 e2
    have Lc := Lib.hid (below_step Lc.out hq.out)
    have X := Lib.hid (X.out.below hq.out)
    have X0 := X.out.c0
    have X1 := X.out.c1
    have X2 := X.out.c2
    have X3 := X.out.c3
    have X4 := X.out.c4
    have X5 := X.out.c5
    go_wp2_with fail
    clear X0 X1 X2 X3 X4 X5
    refine (HM.out _ (T0.out.below Lc.out)).mono ?_; rintro e w6 ⟨rfl, g6⟩
    have Lc := Lib.hid (below_step Lc.out g6)
    have X := Lib.hid (X.out.below g6)
    have X := Lib.hid (X.out.below (below_new w6 (.cells #[.int .i64 p0, .int .i64 q0, .int .i64 p1, .int .i64 q1, .int .i64 p2, .int .i64 q2] 34)))
    have L := Lib.hid (SixAt.new w6 34 p0 q0 p1 q1 p2 q2)
    have Lc := Lib.hid (below_step Lc.out (below_new w6 (.cells #[.int .i64 p0, .int .i64 q0, .int .i64 p1, .int .i64 q1, .int .i64 p2, .int .i64 q2] 34)))
    have L0 := L.out.c0
    have L1 := L.out.c1
    have L2 := L.out.c2
    have L3 := L.out.c3
    have L4 := L.out.c4
    have L5 := L.out.c5
    go_wp2_with fail
    clear L0 L1 L2 L3 L4 L5
    refine (A1.out _ (T0.out.below Lc.out)).mono ?_; rintro e w7 ⟨rfl, g7⟩
    have Lc := Lib.hid (below_step Lc.out g7)
    have X := Lib.hid (X.out.below g7)
    have L := Lib.hid (L.out.below g7)
    have X := Lib.hid (X.out.below (below_new w7 (.cells #[.int .i64 an, .int .i64 ad1] 27)))
    have L := Lib.hid (L.out.below (below_new w7 (.cells #[.int .i64 an, .int .i64 ad1] 27)))
    have A := Lib.hid (BoxAt.new w7 an ad1)
    have Lc := Lib.hid (below_step Lc.out (below_new w7 (.cells #[.int .i64 an, .int .i64 ad1] 27)))
    have L0 := L.out.c0
    have L1 := L.out.c1
    have L2 := L.out.c2
    have L3 := L.out.c3
    have L4 := L.out.c4
    have L5 := L.out.c5
    have A0 := A.out.2.1; have A1 := A.out.2.2
    go_wp2_with fail
    clear L0 L1 L2 L3 L4 L5 A0 A1
    refine (S1.out _ (T0.out.below Lc.out)).mono ?_; rintro e w8 ⟨rfl, g8⟩
    have Lc := Lib.hid (below_step Lc.out g8)
    have X := Lib.hid (X.out.below g8)
    have L := Lib.hid (L.out.below g8)
    have A := Lib.hid (A.out.below g8)
    have X := Lib.hid (X.out.below (below_new w8 (.cells #[.int .i64 p0, .int .i64 q0] 27)))
    have L := Lib.hid (L.out.below (below_new w8 (.cells #[.int .i64 p0, .int .i64 q0] 27)))
    have A := Lib.hid (A.out.below (below_new w8 (.cells #[.int .i64 p0, .int .i64 q0] 27)))
    have U := Lib.hid (BoxAt.new w8 p0 q0)
    have Lc := Lib.hid (below_step Lc.out (below_new w8 (.cells #[.int .i64 p0, .int .i64 q0] 27)))
    have L0 := L.out.c0
    have L1 := L.out.c1
    have L2 := L.out.c2
    have L3 := L.out.c3
    have L4 := L.out.c4
    have L5 := L.out.c5
    have U0 := U.out.2.1; have U1 := U.out.2.2
    go_wp2_with fail
    clear L0 L1 L2 L3 L4 L5 U0 U1
    refine (M1.out _ (T0.out.below Lc.out)).mono ?_; rintro e w9 ⟨rfl, g9⟩
    have Lc := Lib.hid (below_step Lc.out g9)
    have X := Lib.hid (X.out.below g9)
    have L := Lib.hid (L.out.below g9)
    have A := Lib.hid (A.out.below g9)
    have U := Lib.hid (U.out.below g9)
    have X := Lib.hid (X.out.below (below_new w9 (.cells #[.int .i64 cn, .int .i64 cd] 27)))
    have L := Lib.hid (L.out.below (below_new w9 (.cells #[.int .i64 cn, .int .i64 cd] 27)))
    have A := Lib.hid (A.out.below (below_new w9 (.cells #[.int .i64 cn, .int .i64 cd] 27)))
    have U := Lib.hid (U.out.below (below_new w9 (.cells #[.int .i64 cn, .int .i64 cd] 27)))
    have C := Lib.hid (BoxAt.new w9 cn cd)
    have Lc := Lib.hid (below_step Lc.out (below_new w9 (.cells #[.int .i64 cn, .int .i64 cd] 27)))
    have L0 := L.out.c0
    have L1 := L.out.c1
    have L2 := L.out.c2
    have L3 := L.out.c3
    have L4 := L.out.c4
    have L5 := L.out.c5
    have C0 := C.out.2.1; have C1 := C.out.2.2
    go_wp2_with fail
    clear L0 L1 L2 L3 L4 L5 C0 C1
    refine (D1.out _ (T0.out.below Lc.out)).mono ?_; rintro e w10 ⟨rfl, g10⟩
    have Lc := Lib.hid (below_step Lc.out g10)
    have X := Lib.hid (X.out.below g10)
    have L := Lib.hid (L.out.below g10)
    have A := Lib.hid (A.out.below g10)
    have U := Lib.hid (U.out.below g10)
    have C := Lib.hid (C.out.below g10)
    have X := Lib.hid (X.out.below (below_new w10 (.cells #[.int .i64 p0, .int .i64 q0] 27)))
    have L := Lib.hid (L.out.below (below_new w10 (.cells #[.int .i64 p0, .int .i64 q0] 27)))
    have A := Lib.hid (A.out.below (below_new w10 (.cells #[.int .i64 p0, .int .i64 q0] 27)))
    have U := Lib.hid (U.out.below (below_new w10 (.cells #[.int .i64 p0, .int .i64 q0] 27)))
    have C := Lib.hid (C.out.below (below_new w10 (.cells #[.int .i64 p0, .int .i64 q0] 27)))
    have V := Lib.hid (BoxAt.new w10 p0 q0)
    have Lc := Lib.hid (below_step Lc.out (below_new w10 (.cells #[.int .i64 p0, .int .i64 q0] 27)))
    have L0 := L.out.c0
    have L1 := L.out.c1
    have L2 := L.out.c2
    have L3 := L.out.c3
    have L4 := L.out.c4
    have L5 := L.out.c5
    have V0 := V.out.2.1; have V1 := V.out.2.2
    go_wp2_with fail
    clear L0 L1 L2 L3 L4 L5 V0 V1
    go_ret
    exact ⟨rfl, Lc.out⟩

theorem invW_some (a b c d e f m n p0 q0 p1 q1 p2 q2 : Int) (w : World) (ad : Addr) (ht : Tab ad w) (fa : Fits a ∧ Fits b) (fc : Fits c ∧ Fits d) (fe : Fits e ∧ Fits f) (h0 : Ra.red a b = some (p0, q0)) (h1 : Ra.red c d = some (p1, q1)) (h2 : Ra.red e f = some (p2, q2)) :
    Calls Tryd.prog 6 #[pairsV a b c d e f, .int .i64 m, .int .i64 n] w fun e' w' => e' = .returned (.bool true) ∧ Below w.heap.size w w' := by
  cases h3 : addR p0 q0 p1 q1 with
  | none =>
    cases h5 : mulR p0 q0 p1 q1 with
    | none => exact invW_n_n a b c d e f m n p0 q0 p1 q1 p2 q2 w ad ht fa fc fe h3 h5 h0 h1 h2
    | some y =>
      obtain ⟨cn, cd⟩ := y
      by_cases hz : p1 = 0
      · exact invW_n_z a b c d e f m n p0 q0 p1 q1 p2 q2 w ad ht fa fc fe h3 cn cd h5 hz h0 h1 h2
      · exact invW_n_s a b c d e f m n p0 q0 p1 q1 p2 q2 w ad ht fa fc fe h3 cn cd h5 hz h0 h1 h2
  | some x =>
    obtain ⟨an, ad1⟩ := x
    cases h5 : mulR p0 q0 p1 q1 with
    | none => exact invW_s_n a b c d e f m n p0 q0 p1 q1 p2 q2 w ad ht fa fc fe an ad1 h3 h5 h0 h1 h2
    | some y =>
      obtain ⟨cn, cd⟩ := y
      by_cases hz : p1 = 0
      · exact invW_s_z a b c d e f m n p0 q0 p1 q1 p2 q2 w ad ht fa fc fe an ad1 h3 cn cd h5 hz h0 h1 h2
      · exact invW_s_s a b c d e f m n p0 q0 p1 q1 p2 q2 w ad ht fa fc fe an ad1 h3 cn cd h5 hz h0 h1 h2

theorem ratioInverse_any (a b c d e f m n : Int) (w : World) (ht : ∃ ad, Tab ad w) (f0 : Fits a) (f1 : Fits b) (f2 : Fits c) (f3 : Fits d) (f4 : Fits e) (f5 : Fits f) (_ : -9223372036854775808 ≤ m) (_ : m ≤ 9223372036854775807) (_ : -9223372036854775808 ≤ n) (_ : n ≤ 9223372036854775807) :
    Calls Tryd.prog 6 #[pairsV a b c d e f, .int .i64 m, .int .i64 n] w fun e' w' => e' = .returned (.bool true) ∧ Below w.heap.size w w' := by
  obtain ⟨ad, ht⟩ := ht
  cases h0 : Ra.red a b with
  | none => exact invW_none a b c d e f m n w ad ht ⟨f0, f1⟩ ⟨f2, f3⟩ ⟨f4, f5⟩ (.inl h0)
  | some x =>
    cases h1 : Ra.red c d with
    | none => exact invW_none a b c d e f m n w ad ht ⟨f0, f1⟩ ⟨f2, f3⟩ ⟨f4, f5⟩ (.inr (.inl h1))
    | some y =>
      cases h2 : Ra.red e f with
      | none => exact invW_none a b c d e f m n w ad ht ⟨f0, f1⟩ ⟨f2, f3⟩ ⟨f4, f5⟩ (.inr (.inr h2))
      | some z =>
        obtain ⟨p0, q0⟩ := x; obtain ⟨p1, q1⟩ := y; obtain ⟨p2, q2⟩ := z
        exact invW_some a b c d e f m n p0 q0 p1 q1 p2 q2 w ad ht ⟨f0, f1⟩ ⟨f2, f3⟩ ⟨f4, f5⟩ h0 h1 h2
end Go.Proofs.YtmpjcicmkdneeaaDoor
