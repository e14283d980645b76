/-
  The walk of RatioRound: the rounded number is the nearest multiple, rounding again changes nothing, and a greater number is not rounded to a smaller one.
-/
import Derived.Test.YtmpjcicmkdneeaaDoorSane
namespace Go.Proofs.YtmpjcicmkdneeaaDoor
open Go.RowKit Go.Shelf

theorem small_and (x : Int) : ∃ y : Int, bits .and .i64 x 1023 = y ∧ 0 ≤ y ∧ y ≤ 1023 := by
  refine ⟨_, rfl, ?_⟩
  have h : (BitVec.ofInt 64 x &&& BitVec.ofInt 64 1023).toNat ≤ 1023 := by rw [BitVec.toNat_and]; exact Nat.and_le_right
  show 0 ≤ IntKind.i64.wrap ((BitVec.ofInt 64 x &&& BitVec.ofInt 64 1023).toNat : Int) ∧ IntKind.i64.wrap ((BitVec.ofInt 64 x &&& BitVec.ofInt 64 1023).toNat : Int) ≤ 1023
  rw [IntKind.wrap_i64]; omega
theorem tmod_small (n : Int) : -999999 ≤ n.tmod 1000000 ∧ n.tmod 1000000 ≤ 999999 := by
  have h1 := Int.tmod_lt_of_pos n (by omega : (0 : Int) < 1000000); have h2 := Int.lt_tmod_of_pos n (by omega : (0 : Int) < 1000000); omega
theorem Round_some {n q d x y : Int} {a : Addr} (h : roundR n q d = some (x, y)) (fa : Fits n ∧ Fits q) : ∀ w, Tab a w →
    Calls Tryd.prog 26 #[ratV n q, .int .i64 d] w fun e w' => e = .returned (.tuple #[ratV x y, .int .i64 0]) ∧ Below w.heap.size w w' := fun w ht => Round_at n q d x y a h fa w ht
theorem roundR_some {n q d : Int} (ho : Ra.Ok n q) (hn : n.natAbs ≤ 999999) (h1 : 1 ≤ d) (h2 : d ≤ 1000) : ∃ x y, roundR n q d = some (x, y) ∧ Ra.red (Ra.rnd n q d) d = some (x, y) := by
  obtain ⟨x, y, hr, _, _⟩ := Ra.red_fits (n := Ra.rnd n q d) (d := d) (by omega) (Ra.rnd_small (Ra.pos_of ho) hn h1 h2) (by omega)
  exact ⟨x, y, by unfold roundR; rw [if_pos ⟨ho, h1, by omega⟩]; exact hr, hr⟩

set_option maxRecDepth 100000 in
set_option maxHeartbeats 4000000 in
theorem ratioRound_any (n m den d : Int) (w : World) (ht : ∃ ad, Tab ad w) (_ : -9223372036854775808 ≤ n) (_ : n ≤ 9223372036854775807) (_ : -9223372036854775808 ≤ m) (_ : m ≤ 9223372036854775807) (_ : -9223372036854775808 ≤ den) (_ : den ≤ 9223372036854775807) (_ : -9223372036854775808 ≤ d) (_ : d ≤ 9223372036854775807) :
    Calls Tryd.prog 9 #[.int .i64 n, .int .i64 m, .int .i64 den, .int .i64 d] w fun e w' => e = .returned (.bool true) ∧ Below w.heap.size w w' := by
  obtain ⟨a, ht⟩ := ht
  obtain ⟨u, hu, u1, u2⟩ := small_and den
  obtain ⟨v, hv, v1, v2⟩ := small_and d
  obtain ⟨N, hN⟩ : ∃ N, n.tmod 1000000 = N := ⟨_, rfl⟩
  obtain ⟨M, hM⟩ : ∃ M, m.tmod 1000000 = M := ⟨_, rfl⟩
  obtain ⟨N1, N2⟩ := tmod_small n; obtain ⟨M1, M2⟩ := tmod_small m
  rw [hN] at N1 N2; rw [hM] at M1 M2
  obtain ⟨E, hE⟩ : ∃ E, 1 + u % 1000 = E := ⟨_, rfl⟩
  obtain ⟨D, hD⟩ : ∃ D, 1 + v % 1000 = D := ⟨_, rfl⟩
  have E1 : 1 ≤ E := by omega
  have E2 : E ≤ 1000 := by omega
  have D1 : 1 ≤ D := by omega
  have D2 : D ≤ 1000 := by omega
  obtain ⟨an, ad, ha, ha1, ha2⟩ := Ra.red_fits (n := N) (d := E) (by omega) (by omega) (by omega)
  obtain ⟨bn, bd, hb, hb1, hb2⟩ := Ra.red_fits (n := M) (d := E) (by omega) (by omega) (by omega)
  have oa := (Ra.red_ok ha).1; have ob := (Ra.red_ok hb).1
  obtain ⟨xn, xd, hx, rx⟩ := roundR_some (d := D) oa (by omega) D1 D2
  obtain ⟨yn, yd, hy, ry⟩ := roundR_some (d := D) ob (by omega) D1 D2
  have ox := (Ra.red_ok rx).1; have oy := (Ra.red_ok ry).1
  have hz : roundR xn xd D = some (xn, xd) := by
    unfold roundR; rw [if_pos ⟨ox, D1, by omega⟩, Ra.rnd_again rx]; exact rx
  obtain ⟨t1, t2⟩ := Ra.rnd_parts rx
  obtain ⟨s1, s2⟩ := Ra.rnd_bd (n := an) D (Ra.pos_of oa)
  have kb := Ra.rnd_small (n := an) (q := ad) (d := D) (Ra.pos_of oa) (by omega) D1 D2
  have mono := fun h => Ra.rnd_le (d := D) (by omega) rx ry (Ra.rnd_mono (an := an) (ad := ad) (bn := bn) (bd := bd) D (by omega) (Ra.pos_of oa) (Ra.pos_of ob) h)
  obtain ⟨c1, hc1⟩ : ∃ c, cmpR an ad bn bd = c := ⟨_, rfl⟩
  obtain ⟨c2, hc2⟩ : ∃ c, cmpR xn xd yn yd = c := ⟨_, rfl⟩
  have hc : 0 < c1 ∨ c2 ≤ 0 := by
    have e1 : cmpR an ad bn bd = (if an * bd < bn * ad then -1 else if bn * ad < an * bd then 1 else 0) := if_pos ⟨oa, ob⟩
    have e2 : cmpR xn xd yn yd = (if xn * yd < yn * xd then -1 else if yn * xd < xn * yd then 1 else 0) := if_pos ⟨ox, oy⟩
    rw [← hc1, ← hc2, e1, e2]
    by_cases h : an * bd ≤ bn * ad
    · right; have := mono h; split
      · omega
      · rw [if_neg (by omega)]; omega
    · left; have h1 : ¬ an * bd < bn * ad := by omega
      have h2 : bn * ad < an * bd := by omega
      rw [if_neg h1, if_pos h2]; omega
  have p1 := Make_some (a := a) ha ⟨by omega, by omega⟩ ⟨by omega, by omega⟩
  have p2 := Make_some (a := a) hb ⟨by omega, by omega⟩ ⟨by omega, by omega⟩
  have p3 := Round_some (a := a) hx (ok_fits oa)
  have p4 := Round_some (a := a) hy (ok_fits ob)
  have p5 := Round_some (a := a) hz (ok_fits ox)
  have p6 := Compare_at oa ob hc1
  have p7 := Compare_at ox oy hc2
  have hs := fun w ht => sane_any w a ht
  have HS := Lib.hid hs
  have P1 := Lib.hid p1; have P2 := Lib.hid p2; have P3 := Lib.hid p3; have P4 := Lib.hid p4; have P5 := Lib.hid p5; have P6 := Lib.hid p6; have P7 := Lib.hid p7
  have T0 := Lib.hid ht
  generalize Ra.rnd an ad D = K at t2 s1 s2 kb
  have ad1 : 1 ≤ ad := oa.1
  have ad2 : ad ≤ 1000 := by omega
  have xd1 : 1 ≤ xd := ox.1
  have xd2 : xd ≤ 1000000000 := ox.2.1
  have xq : ¬ xd = 0 := by omega
  have xl : decide (xd < 1) = false := decide_eq_false (by omega)
  have prod1 : -1000000000000 ≤ K * ad ∧ K * ad ≤ 1000000000000 := by
    have h1 : (K * ad).natAbs ≤ 1000000000 * 1000 := by rw [Int.natAbs_mul]; exact Nat.mul_le_mul kb (by omega)
    omega
  have prod2 : -1000000000 ≤ an * D ∧ an * D ≤ 1000000000 := by
    have h1 : (an * D).natAbs ≤ 999999 * 1000 := by rw [Int.natAbs_mul]; exact Nat.mul_le_mul (by omega) (by omega)
    omega
  have q1 : wrap64 (K * ad) = K * ad := IntWalk.wrap64_in _ ⟨by omega, by omega⟩
  have q2 : wrap64 (an * D) = an * D := IntWalk.wrap64_in _ ⟨by omega, by omega⟩
  have q3 : wrap64 (K * ad - an * D) = K * ad - an * D := IntWalk.wrap64_in _ ⟨by omega, by omega⟩
  have q4 : wrap64 (2 * (K * ad - an * D)) = 2 * (K * ad - an * D) := IntWalk.wrap64_in _ ⟨by omega, by omega⟩
  have g1 : 2 * ad * K = 2 * (K * ad) := by rw [Int.mul_assoc, Int.mul_comm ad K]
  have g2 : 2 * an * D = 2 * (an * D) := Int.mul_assoc _ _ _
  rw [g1, g2] at s1 s2
  have z1 : -ad < 2 * (K * ad - an * D) := by omega
  have z2 : 2 * (K * ad - an * D) ≤ ad := by omega
  have y1 : decide (-ad < 2 * (K * ad - an * D)) = true := decide_eq_true z1
  have y2 : decide (2 * (K * ad - an * D) ≤ ad) = true := decide_eq_true z2
  have td : D.tmod xd = 0 := t1
  have td2 : D % xd = 0 := by rw [← Int.tmod_eq_emod_of_nonneg (by omega)]; exact t1
  have kd : xn * (D / xd) = K := by rw [← Int.tdiv_eq_ediv_of_nonneg (by omega)]; exact t2
  have kdb : wrap64 K = K := IntWalk.wrap64_in _ ⟨by omega, by omega⟩
  have kd' : IntKind.i64.wrap (xn * (D / xd)) = K := by rw [kd]; exact IntWalk.i64_in _ (by omega)
  have HU := Lib.hid hu; have HV := Lib.hid hv; have HN := Lib.hid hN; have HM := Lib.hid hM; have HE := Lib.hid hE; have HD := Lib.hid hD
  have HKD := Lib.hid kd; have HKD2 := Lib.hid kd'
  have Q1 := Lib.hid q1; have Q2 := Lib.hid q2; have Q3 := Lib.hid q3; have Q4 := Lib.hid q4
  clear p1 p2 p3 p4 p5 p6 p7 hs ht ha hb ha1 ha2 hb1 hb2 oa ob hx rx hy ry ox oy hz t1 t2 s1 s2 kb mono hc1 hc2 prod1 prod2 g1 g2 z1 z2 kd kd'
  clear q1 q2 q3 q4 hu hv hN hM hE hD
  have hu := HU.out; have hv := HV.out; have hN := HN.out; have hM := HM.out; have hE := HE.out; have hD := HD.out
  go_enter Tryd.func9, Tryd.ntmps9
  go_wp2_with fail
  have Lc := Lib.hid (Below.refl w.heap.size w)
  refine (HS.out _ (T0.out.below Lc.out)).mono ?_; rintro e w1 ⟨rfl, g1⟩
  have Lc := Lib.hid (below_step Lc.out g1)
  go_wp2_with fail
  refine (P1.out _ (T0.out.below Lc.out)).mono ?_; rintro e w2 ⟨rfl, g2⟩
  have Lc := Lib.hid (below_step Lc.out g2)
  have A := Lib.hid (BoxAt.new w2 an ad)
  have Lc := Lib.hid (below_step Lc.out (below_new w2 (.cells #[.int .i64 an, .int .i64 ad] 27)))
  go_wp2_with fail
  clear hu hv hN hM hE hD
  refine (P2.out _ (T0.out.below Lc.out)).mono ?_; rintro e w3 ⟨rfl, g3⟩
  have Lc := Lib.hid (below_step Lc.out g3)
  have A := Lib.hid (A.out.below g3)
  have A := Lib.hid (A.out.below (below_new w3 (.cells #[.int .i64 bn, .int .i64 bd] 27)))
  have B := Lib.hid (BoxAt.new w3 bn bd)
  have Lc := Lib.hid (below_step Lc.out (below_new w3 (.cells #[.int .i64 bn, .int .i64 bd] 27)))
  have A0 := A.out.2.1; have A1 := A.out.2.2
  go_wp2_with fail
  clear A0 A1
  refine (P3.out _ (T0.out.below Lc.out)).mono ?_; rintro e w4 ⟨rfl, g4⟩
  have Lc := Lib.hid (below_step Lc.out g4)
  have A := Lib.hid (A.out.below g4)
  have B := Lib.hid (B.out.below g4)
  have A := Lib.hid (A.out.below (below_new w4 (.cells #[.int .i64 xn, .int .i64 xd] 27)))
  have B := Lib.hid (B.out.below (below_new w4 (.cells #[.int .i64 xn, .int .i64 xd] 27)))
  have X := Lib.hid (BoxAt.new w4 xn xd)
  have Lc := Lib.hid (below_step Lc.out (below_new w4 (.cells #[.int .i64 xn, .int .i64 xd] 27)))
  have B0 := B.out.2.1; have B1 := B.out.2.2
  go_wp2_with fail
  clear B0 B1
  refine (P4.out _ (T0.out.below Lc.out)).mono ?_; rintro e w5 ⟨rfl, g5⟩
  have Lc := Lib.hid (below_step Lc.out g5)
  have A := Lib.hid (A.out.below g5)
  have B := Lib.hid (B.out.below g5)
  have X := Lib.hid (X.out.below g5)
  have A := Lib.hid (A.out.below (below_new w5 (.cells #[.int .i64 yn, .int .i64 yd] 27)))
  have B := Lib.hid (B.out.below (below_new w5 (.cells #[.int .i64 yn, .int .i64 yd] 27)))
  have X := Lib.hid (X.out.below (below_new w5 (.cells #[.int .i64 yn, .int .i64 yd] 27)))
  have Y := Lib.hid (BoxAt.new w5 yn yd)
  have Lc := Lib.hid (below_step Lc.out (below_new w5 (.cells #[.int .i64 yn, .int .i64 yd] 27)))
  have X0 := X.out.2.1; have X1 := X.out.2.2
  go_wp2_with fail
  clear X0 X1
  refine (P5.out _ (T0.out.below Lc.out)).mono ?_; rintro e w6 ⟨rfl, g6⟩
  have Lc := Lib.hid (below_step Lc.out g6)
  have A := Lib.hid (A.out.below g6)
  have B := Lib.hid (B.out.below g6)
  have X := Lib.hid (X.out.below g6)
  have Y := Lib.hid (Y.out.below g6)
  have A := Lib.hid (A.out.below (below_new w6 (.cells #[.int .i64 xn, .int .i64 xd] 27)))
  have B := Lib.hid (B.out.below (below_new w6 (.cells #[.int .i64 xn, .int .i64 xd] 27)))
  have X := Lib.hid (X.out.below (below_new w6 (.cells #[.int .i64 xn, .int .i64 xd] 27)))
  have Y := Lib.hid (Y.out.below (below_new w6 (.cells #[.int .i64 xn, .int .i64 xd] 27)))
  have Z := Lib.hid (BoxAt.new w6 xn xd)
  have Lc := Lib.hid (below_step Lc.out (below_new w6 (.cells #[.int .i64 xn, .int .i64 xd] 27)))
  have X0 := X.out.2.1; have X1 := X.out.2.2
  have Z0 := Z.out.2.1; have Z1 := Z.out.2.2
  go_wp2_with fail
  clear X0 X1 Z0 Z1
  have kd := HKD.out; have kd' := HKD2.out
  have X0 := X.out.2.1; have X1 := X.out.2.2
  go_quiet (fail)
  clear kd kd' X0 X1
  have A := Lib.hid (A.out.below (below_drewN (Below.refl _ _) nq))
  have B := Lib.hid (B.out.below (below_drewN (Below.refl _ _) nq))
  have X := Lib.hid (X.out.below (below_drewN (Below.refl _ _) nq))
  have Y := Lib.hid (Y.out.below (below_drewN (Below.refl _ _) nq))
  have Z := Lib.hid (Z.out.below (below_drewN (Below.refl _ _) nq))
  have Lc := Lib.hid (below_step Lc.out (below_drewN (Below.refl _ _) nq))
  have q1 := Q1.out; have q2 := Q2.out; have q3 := Q3.out; have q4 := Q4.out
  have A0 := A.out.2.1; have A1 := A.out.2.2
  have B0 := B.out.2.1; have B1 := B.out.2.2
  go_wp2_with fail
  clear A0 A1 B0 B1
  have HC := Lib.hid hc; clear hc q1 q2 q3 q4
  by_cases hcc : 0 < c1
  · have l1 : decide (0 < c1) = true := decide_eq_true hcc
    refine (P6.out _).mono ?_; rintro e w7 ⟨rfl, g7⟩
    have Lc := Lib.hid (below_step Lc.out g7)
    have A := Lib.hid (A.out.below g7)
    have B := Lib.hid (B.out.below g7)
    have X := Lib.hid (X.out.below g7)
    have Y := Lib.hid (Y.out.below g7)
    have Z := Lib.hid (Z.out.below g7)
    go_wp2_with fail
    go_ret
    exact ⟨rfl, Lc.out⟩
  · have l1 : decide (0 < c1) = false := decide_eq_false hcc
    have l2 : decide (c2 ≤ 0) = true := decide_eq_true (by rcases HC.out with h | h; exact absurd h hcc; exact h)
    refine (P6.out _).mono ?_; rintro e w7 ⟨rfl, g7⟩
    have Lc := Lib.hid (below_step Lc.out g7)
    have A := Lib.hid (A.out.below g7)
    have B := Lib.hid (B.out.below g7)
    have X := Lib.hid (X.out.below g7)
    have Y := Lib.hid (Y.out.below g7)
    have Z := Lib.hid (Z.out.below g7)
    have X0 := X.out.2.1; have X1 := X.out.2.2
    have Y0 := Y.out.2.1; have Y1 := Y.out.2.2
    go_wp2_with fail
    clear X0 X1 Y0 Y1
    refine (P7.out _).mono ?_; rintro e w8 ⟨rfl, g8⟩
    have Lc := Lib.hid (below_step Lc.out g8)
    have A := Lib.hid (A.out.below g8)
    have B := Lib.hid (B.out.below g8)
    have X := Lib.hid (X.out.below g8)
    have Y := Lib.hid (Y.out.below g8)
    have Z := Lib.hid (Z.out.below g8)
    go_wp2_with fail
    go_ret
    exact ⟨rfl, Lc.out⟩
end Go.Proofs.YtmpjcicmkdneeaaDoor
