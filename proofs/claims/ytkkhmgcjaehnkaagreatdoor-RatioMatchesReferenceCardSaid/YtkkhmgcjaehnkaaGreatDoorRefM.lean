/-
  The reference's Make, both, Add, Sub, Mul, Div, Compare, Floor, Round and Clamp: what the package's own answer. Condition: an int's bounds.
-/
import Derived.Test.YtkkhmgcjaehnkaaGreatDoorRefA
import Derived.Test.YtkkhmgcjaehnkaaGreatDoorClamp
import Derived.Test.YtkkhmgcjaehnkaaGreatDoorRnd
namespace Go.Proofs.YtkkhmgcjaehnkaaGreatDoor
open Go.RowKit Go.Shelf

set_option maxHeartbeats 2000000 in
theorem refMake_yes (n d p q : Int) (w : World) (fn : Fits n) (fd : Fits d) (h : Ra.red n d = some (p, q)) :
    Calls Tryz.prog 6 #[.int .i64 n, .int .i64 d] w fun e w' => e = .returned (.tuple #[ratV p q, .int .i64 0]) ∧ Below w.heap.size w w' := by
  obtain ⟨n1, n2⟩ := fn; obtain ⟨d1, d2⟩ := fd
  have hd : d ≠ 0 := (Ra.red_ok h).2.2
  unfold Ra.red at h
  rw [if_neg hd] at h
  split at h
  case isFalse => cases h
  rename_i hf
  injection h with h
  obtain ⟨f1, f2⟩ := hf
  have hg := Ra.gcd_pos (n := n) hd
  have u1 := Ra.under_pos (n := n) hd
  have eO : ((n.natAbs : Nat) : Int) / ((Nat.gcd n.natAbs d.natAbs : Nat) : Int) = ((Ra.over n d : Nat) : Int) := Int.natCast_ediv _ _
  have eU : ((d.natAbs : Nat) : Int) / ((Nat.gcd n.natAbs d.natAbs : Nat) : Int) = ((Ra.under n d : Nat) : Int) := Int.natCast_ediv _ _
  have hp : ((Ra.num n d, ((Ra.under n d : Nat) : Int)) : Int × Int) = (p, q) := h
  injection hp with hp hq
  unfold Ra.num at hp
  have hs : ∀ w, Calls Tryz.prog 31 #[.int .u64 ((n.natAbs : Nat) : Int), .int .u64 ((d.natAbs : Nat) : Int)] w fun e w' => e = .returned (.int .u64 ((Nat.gcd n.natAbs d.natAbs : Nat) : Int)) ∧ ∃ n, w' = w.drewN n :=
    fun w => refDivisor_any _ _ w (by omega) (by omega)
  have hgb : Nat.gcd n.natAbs d.natAbs ≤ d.natAbs := Nat.gcd_le_right _ (by omega)
  have hA : n.natAbs ≤ 9223372036854775808 := by omega
  have hB : d.natAbs ≤ 9223372036854775808 := by omega
  generalize Ra.over n d = O at *
  generalize Ra.under n d = U at *
  have z1 : ∀ w, Calls Tryz.prog 32 #[.int .i64 n] w fun e w' => e = .returned (.int .u64 ((n.natAbs : Nat) : Int)) ∧ w = w' := fun w => refSize_any n w n1 n2
  have z2 : ∀ w, Calls Tryz.prog 32 #[.int .i64 d] w fun e w' => e = .returned (.int .u64 ((d.natAbs : Nat) : Int)) ∧ w = w' := fun w => refSize_any d w d1 d2
  generalize Nat.gcd n.natAbs d.natAbs = G at *
  generalize n.natAbs = A at *
  generalize d.natAbs = B at *
  have g0 : ¬ (G : Int) = 0 := by omega
  have g1 : 0 < (G : Int) := by omega
  have g2 : (G : Int) ≤ 9223372036854775808 := by omega
  have a1 : (0 : Int) ≤ A := by omega
  have a2 : (A : Int) ≤ 9223372036854775808 := by omega
  have b1 : (0 : Int) ≤ B := by omega
  have b2 : (B : Int) ≤ 9223372036854775808 := by omega
  have o1 : decide ((1000000000 : Int) < (O : Int)) = false := by simp; omega
  have o2 : decide ((1000000000 : Int) < (U : Int)) = false := by simp; omega
  have o3 : ¬ (1000000000 : Int) < (O : Int) := by omega
  have o4 : ¬ (1000000000 : Int) < (U : Int) := by omega
  have o5 : (0 : Int) ≤ (O : Int) := by omega
  have o6 : (0 : Int) ≤ (U : Int) := by omega
  have dz : ((d : Int) == 0) = false := by rw [beq_eq_false_iff_ne]; exact hd
  subst hq
  have HS := Lib.hid hs
  have Z1 := Lib.hid z1
  have Z2 := Lib.hid z2
  clear hs z1 z2 h hg hgb hA hB f1 f2 u1 hd
  have key : (decide (n < 0) = true ∧ decide (d < 0) = true ∧ p = (O : Int)) ∨ (decide (n < 0) = true ∧ decide (d < 0) = false ∧ p = -(O : Int)) ∨ (decide (n < 0) = false ∧ decide (d < 0) = true ∧ p = -(O : Int)) ∨ (decide (n < 0) = false ∧ decide (d < 0) = false ∧ p = (O : Int)) := by
    cases e1 : decide (n < 0) <;> cases e2 : decide (d < 0) <;> rw [e1, e2] at hp <;> simp at hp <;> simp [hp]
  clear hp
  rcases key with ⟨m1, m2, rfl⟩ | ⟨m1, m2, rfl⟩ | ⟨m1, m2, rfl⟩ | ⟨m1, m2, rfl⟩
  all_goals
    go_enter Tryz.func6, Tryz.ntmps6
    go_wp2_with fail
    refine (Z1.out _).mono ?_; rintro e w1 ⟨rfl, rfl⟩
    go_wp2_with fail
    refine (Z2.out _).mono ?_; rintro e w1 ⟨rfl, rfl⟩
    go_wp2_with fail
    refine (HS.out _).mono ?_; rintro e w1 ⟨rfl, k, rfl⟩
    go_wp2_with fail
    refine (Z1.out _).mono ?_; rintro e w1 ⟨rfl, rfl⟩
    go_wp2_with fail
    refine (Z2.out _).mono ?_; rintro e w1 ⟨rfl, rfl⟩
    go_wp2_with fail
    refine bodyPost_ret (v := .tuple #[ratV _ _, .int .i64 0]) (by simp [results, Tryz.results6, go_sem]) rfl ⟨rfl, ?_⟩
    repeat (first | exact below_drewN (below_new _ _) _ | refine Below.setCell ?_ (by simp) _ | refine Below.alloc ?_ (by simp) _)

set_option maxHeartbeats 2000000 in
theorem refMake_no (n d : Int) (w : World) (fn : Fits n) (fd : Fits d) (h : Ra.red n d = none) :
    Calls Tryz.prog 6 #[.int .i64 n, .int .i64 d] w fun e w' => e = .returned (.tuple #[ratV 0 0, .int .i64 30]) ∧ Below w.heap.size w w' := by
  obtain ⟨n1, n2⟩ := fn; obtain ⟨d1, d2⟩ := fd
  by_cases hd : d = 0
  · subst hd
    clear h
    go_enter Tryz.func6, Tryz.ntmps6
    go_wp2_with fail
    refine bodyPost_ret (v := .tuple #[ratV 0 0, .int .i64 30]) (by simp [results, Tryz.results6, go_sem]) rfl ⟨rfl, ?_⟩
    repeat (first | exact below_new _ _ | refine Below.setCell ?_ (by simp) _)
  unfold Ra.red at h
  rw [if_neg hd] at h
  have hf : ¬ (Ra.over n d ≤ 1000000000 ∧ Ra.under n d ≤ 1000000000) := by
    intro hh; rw [if_pos hh] at h; cases h
  have hg := Ra.gcd_pos (n := n) hd
  have eO : ((n.natAbs : Nat) : Int) / ((Nat.gcd n.natAbs d.natAbs : Nat) : Int) = ((Ra.over n d : Nat) : Int) := Int.natCast_ediv _ _
  have eU : ((d.natAbs : Nat) : Int) / ((Nat.gcd n.natAbs d.natAbs : Nat) : Int) = ((Ra.under n d : Nat) : Int) := Int.natCast_ediv _ _
  have hs : ∀ w, Calls Tryz.prog 31 #[.int .u64 ((n.natAbs : Nat) : Int), .int .u64 ((d.natAbs : Nat) : Int)] w fun e w' => e = .returned (.int .u64 ((Nat.gcd n.natAbs d.natAbs : Nat) : Int)) ∧ ∃ n, w' = w.drewN n :=
    fun w => refDivisor_any _ _ w (by omega) (by omega)
  have hgb : Nat.gcd n.natAbs d.natAbs ≤ d.natAbs := Nat.gcd_le_right _ (by omega)
  have hA : n.natAbs ≤ 9223372036854775808 := by omega
  have hB : d.natAbs ≤ 9223372036854775808 := by omega
  have ob : Ra.over n d ≤ n.natAbs := Nat.div_le_self _ _
  have ub : Ra.under n d ≤ d.natAbs := Nat.div_le_self _ _
  generalize Ra.over n d = O at *
  generalize Ra.under n d = U at *
  have z1 : ∀ w, Calls Tryz.prog 32 #[.int .i64 n] w fun e w' => e = .returned (.int .u64 ((n.natAbs : Nat) : Int)) ∧ w = w' := fun w => refSize_any n w n1 n2
  have z2 : ∀ w, Calls Tryz.prog 32 #[.int .i64 d] w fun e w' => e = .returned (.int .u64 ((d.natAbs : Nat) : Int)) ∧ w = w' := fun w => refSize_any d w d1 d2
  generalize Nat.gcd n.natAbs d.natAbs = G at *
  generalize n.natAbs = A at *
  generalize d.natAbs = B at *
  have g0 : ¬ (G : Int) = 0 := by omega
  have g1 : 0 < (G : Int) := by omega
  have g2 : (G : Int) ≤ 9223372036854775808 := by omega
  have a1 : (0 : Int) ≤ A := by omega
  have a2 : (A : Int) ≤ 9223372036854775808 := by omega
  have b1 : (0 : Int) ≤ B := by omega
  have b2 : (B : Int) ≤ 9223372036854775808 := by omega
  have o5 : (0 : Int) ≤ (O : Int) := by omega
  have o6 : (0 : Int) ≤ (U : Int) := by omega
  have o7 : (O : Int) ≤ 9223372036854775808 := by omega
  have o8 : (U : Int) ≤ 9223372036854775808 := by omega
  have dz : ((d : Int) == 0) = false := by rw [beq_eq_false_iff_ne]; exact hd
  have HS := Lib.hid hs
  have Z1 := Lib.hid z1
  have Z2 := Lib.hid z2
  clear hs z1 z2 h hg hgb hA hB hd ob ub
  by_cases c1 : 1000000000 < O
  · have m1 : decide ((1000000000 : Int) < (O : Int)) = true := by simp; omega
    clear hf
    go_enter Tryz.func6, Tryz.ntmps6
    go_wp2_with fail
    refine (Z1.out _).mono ?_; rintro e w1 ⟨rfl, rfl⟩
    go_wp2_with fail
    refine (Z2.out _).mono ?_; rintro e w1 ⟨rfl, rfl⟩
    go_wp2_with fail
    refine (HS.out _).mono ?_; rintro e w1 ⟨rfl, k, rfl⟩
    go_wp2_with fail
    refine (Z1.out _).mono ?_; rintro e w1 ⟨rfl, rfl⟩
    go_wp2_with fail
    refine (Z2.out _).mono ?_; rintro e w1 ⟨rfl, rfl⟩
    go_wp2_with fail
    refine bodyPost_ret (v := .tuple #[ratV 0 0, .int .i64 30]) (by simp [results, Tryz.results6, go_sem]) rfl ⟨rfl, ?_⟩
    repeat (first | exact below_drewN (below_new _ _) _ | refine Below.setCell ?_ (by simp) _ | refine Below.alloc ?_ (by simp) _)
  · have m1 : decide ((1000000000 : Int) < (O : Int)) = false := by simp; omega
    have m2 : decide ((1000000000 : Int) < (U : Int)) = true := by simp; omega
    clear hf
    go_enter Tryz.func6, Tryz.ntmps6
    go_wp2_with fail
    refine (Z1.out _).mono ?_; rintro e w1 ⟨rfl, rfl⟩
    go_wp2_with fail
    refine (Z2.out _).mono ?_; rintro e w1 ⟨rfl, rfl⟩
    go_wp2_with fail
    refine (HS.out _).mono ?_; rintro e w1 ⟨rfl, k, rfl⟩
    go_wp2_with fail
    refine (Z1.out _).mono ?_; rintro e w1 ⟨rfl, rfl⟩
    go_wp2_with fail
    refine (Z2.out _).mono ?_; rintro e w1 ⟨rfl, rfl⟩
    go_wp2_with fail
    refine bodyPost_ret (v := .tuple #[ratV 0 0, .int .i64 30]) (by simp [results, Tryz.results6, go_sem]) rfl ⟨rfl, ?_⟩
    repeat (first | exact below_drewN (below_new _ _) _ | refine Below.setCell ?_ (by simp) _ | refine Below.alloc ?_ (by simp) _)

theorem refMake_any (n d : Int) (w : World) (fn : Fits n) (fd : Fits d) :
    Calls Tryz.prog 6 #[.int .i64 n, .int .i64 d] w fun e w' => e = .returned (ratRes (Ra.red n d)) ∧ Below w.heap.size w w' := by
  cases h : Ra.red n d with
  | none => exact refMake_no n d w fn fd h
  | some x => exact refMake_yes n d x.1 x.2 w fn fd h

theorem refBoth_any (an ad bn bd : Int) (w : World) (fa : Fits an ∧ Fits ad) (fb : Fits bn ∧ Fits bd) :
    Calls Tryz.prog 35 #[ratV an ad, ratV bn bd] w fun e w' => e = .returned (.bool (okB an ad && okB bn bd)) ∧ Below w.heap.size w w' := by
  have va := fun w => refValid_any an ad w fa.1.1 fa.1.2 fa.2.1 fa.2.2
  have vb := fun w => refValid_any bn bd w fb.1.1 fb.1.2 fb.2.1 fb.2.2
  have ba := (BoxAt.new w an ad).below (below_new _ (.cells #[.int .i64 bn, .int .i64 bd] 25))
  have bb := BoxAt.new (w.alloc (.cells #[.int .i64 an, .int .i64 ad] 25)) bn bd
  have l0 : Below w.heap.size w ((w.alloc (.cells #[.int .i64 an, .int .i64 ad] 25)).alloc (.cells #[.int .i64 bn, .int .i64 bd] 25)) := (below_new w _).alloc (by simp) _
  rw [World.size_alloc] at bb
  generalize okB an ad = x at *
  generalize okB bn bd = y at *
  have VA := Lib.hid va; have VB := Lib.hid vb; have HL := Lib.hid l0; have BB := Lib.hid bb
  clear va vb ba bb l0 fa fb
  go_enter Tryz.func35, Tryz.ntmps35
  go_wp2_with fail
  refine (VA.out _).mono ?_; rintro e w1 ⟨rfl, g1⟩
  have l1 := below_step HL.out g1
  obtain ⟨z0, z1, z2⟩ := BB.out.below g1
  go_wp2_with fail
  refine (VB.out _).mono ?_; rintro e w2 ⟨rfl, g2⟩
  have l2 := below_step l1 g2
  clear z0 z1 z2
  cases x
  all_goals
    go_wp2_with fail
    go_ret
    exact ⟨rfl, l2⟩

theorem refMake_gen (n d : Int) (fn : Fits n) (fd : Fits d) : ∃ p q x : Int, ratRes (Ra.red n d) = .tuple #[ratV p q, .int .i64 x] ∧ ∀ w,
    Calls Tryz.prog 6 #[.int .i64 n, .int .i64 d] w fun e w' => e = .returned (.tuple #[ratV p q, .int .i64 x]) ∧ Below w.heap.size w w' := by
  cases h : Ra.red n d with
  | none => exact ⟨0, 0, 30, rfl, fun w => refMake_no n d w fn fd h⟩
  | some y => exact ⟨y.1, y.2, 0, rfl, fun w => refMake_yes n d y.1 y.2 w fn fd h⟩
/-- The boxes of two arguments and of the result. -/
structure TwoBox (w : World) (an ad bn bd : Int) (w' : World) : Prop where
  a : BoxAt w' w.heap.size an ad
  b : BoxAt w' (w.heap.size + 1) bn bd
  r : BoxAt w' (w.heap.size + 1 + 1) 0 0
  fr : ∀ o, w'.frozen? ⟨w.heap.size + 1 + 1, o, none⟩ = false
  bel : Below w.heap.size w w'
theorem TwoBox.step {w : World} {an ad bn bd : Int} {w1 w2 : World} (h : TwoBox w an ad bn bd w1) (hb : Below w1.heap.size w1 w2) : TwoBox w an ad bn bd w2 :=
  ⟨h.a.below hb, h.b.below hb, h.r.below hb, fun o => (hb.frozen (p := ⟨w.heap.size + 1 + 1, o, none⟩) h.r.1).trans (h.fr o), below_step h.bel hb⟩
theorem TwoBox.new (w : World) (an ad bn bd : Int) : TwoBox w an ad bn bd (((w.alloc (.cells #[.int .i64 an, .int .i64 ad] 25)).alloc (.cells #[.int .i64 bn, .int .i64 bd] 25)).alloc (.cells #[.int .i64 0, .int .i64 0] 25)) := by
  have b1 := BoxAt.new (w.alloc (.cells #[.int .i64 an, .int .i64 ad] 25)) bn bd
  have b2 := BoxAt.new ((w.alloc (.cells #[.int .i64 an, .int .i64 ad] 25)).alloc (.cells #[.int .i64 bn, .int .i64 bd] 25)) 0 0
  simp only [World.size_alloc] at b1 b2
  exact ⟨((BoxAt.new w an ad).below (below_new _ _)).below (below_new _ _), b1.below (below_new _ _), b2, fun o => by simp [go_sem], below_step (below_step (below_new _ _) (below_new _ _)) (below_new _ _)⟩

set_option maxRecDepth 100000 in
set_option maxHeartbeats 1000000 in
theorem refAdd_any (an ad bn bd : Int) (w : World) (fa : Fits an ∧ Fits ad) (fb : Fits bn ∧ Fits bd) :
    Calls Tryz.prog 9 #[ratV an ad, ratV bn bd] w fun e w' => e = .returned (ratRes (addR an ad bn bd)) ∧ Below w.heap.size w w' := by
  have vb := fun w => refBoth_any an ad bn bd w fa fb
  have T0 := Lib.hid (TwoBox.new w an ad bn bd)
  by_cases ho : Ra.Ok an ad ∧ Ra.Ok bn bd
  case neg =>
    have hv : ratRes (addR an ad bn bd) = .tuple #[ratV 0 0, .int .i64 30] := by unfold addR; rw [if_neg ho]; rfl
    have hb : (okB an ad && okB bn bd) = false := by
      unfold okB; rw [Bool.and_eq_false_iff]
      by_cases oa : Ra.Ok an ad
      · exact .inr (decide_eq_false fun h => ho ⟨oa, h⟩)
      · exact .inl (decide_eq_false oa)
    rw [hb] at vb
    rw [hv]
    have VB := Lib.hid vb
    have a0 := T0.out.a.2.1; have a1 := T0.out.a.2.2; have b0 := T0.out.b.2.1; have b1 := T0.out.b.2.2
    clear vb hb hv ho fa fb
    go_enter Tryz.func9, Tryz.ntmps9
    go_wp2_with fail
    clear a0 a1 b0 b1
    refine (VB.out _).mono ?_; rintro e w1 ⟨rfl, g1⟩
    have R1 := T0.out.step g1
    have r2 := R1.r.2.1; have r3 := R1.r.2.2; have f0 := R1.fr 0; have f1 := R1.fr 1
    go_wp2_with fail
    refine bodyPost_ret (v := .tuple #[ratV 0 0, .int .i64 30]) (by simp [results, Tryz.results9, go_sem, r2, r3]) rfl ⟨rfl, ?_⟩
    exact (R1.bel.setCell (by simp; omega) _).setCell (by simp; omega) _
  obtain ⟨oa, ob⟩ := ho
  rw [okB_true oa, okB_true ob] at vb
  have hr : addR an ad bn bd = Ra.red (an * bd + bn * ad) (ad * bd) := if_pos ⟨oa, ob⟩
  obtain ⟨a1, a2, a3, a4, -⟩ := oa
  obtain ⟨b1, b2, b3, b4, -⟩ := ob
  obtain ⟨p0, q0⟩ := Ra.prod_bd (a := an) (b := bd) (by omega) (by omega) (by omega) (by omega)
  have e0 : wrap64 (an * bd) = an * bd := IntWalk.wrap64_in _ ⟨by omega, by omega⟩
  obtain ⟨p1, q1⟩ := Ra.prod_bd (a := bn) (b := ad) (by omega) (by omega) (by omega) (by omega)
  have e1 : wrap64 (bn * ad) = bn * ad := IntWalk.wrap64_in _ ⟨by omega, by omega⟩
  obtain ⟨p2, q2⟩ := Ra.prod_bd (a := ad) (b := bd) (by omega) (by omega) (by omega) (by omega)
  have e2 : wrap64 (ad * bd) = ad * bd := IntWalk.wrap64_in _ ⟨by omega, by omega⟩
  have e4 : wrap64 (an * bd + bn * ad) = an * bd + bn * ad := IntWalk.wrap64_in _ ⟨by omega, by omega⟩
  obtain ⟨P, Q, X, hq, hm⟩ := refMake_gen (an * bd + bn * ad) (ad * bd) ⟨by omega, by omega⟩ ⟨by omega, by omega⟩
  rw [hr, hq]
  have VB := Lib.hid vb; have HM := Lib.hid hm
  clear vb hm hq hr fa fb
  have x0 := T0.out.a.2.1; have x1 := T0.out.a.2.2; have y0 := T0.out.b.2.1; have y1 := T0.out.b.2.2
  go_enter Tryz.func9, Tryz.ntmps9
  go_wp2_with fail
  clear x0 x1 y0 y1
  refine (VB.out _).mono ?_; rintro e w1 ⟨rfl, g1⟩
  have R1 := Lib.hid (T0.out.step g1)
  have x0 := R1.out.a.2.1; have x1 := R1.out.a.2.2; have y0 := R1.out.b.2.1; have y1 := R1.out.b.2.2
  go_wp2_with fail
  clear x0 x1 y0 y1
  refine (HM.out _).mono ?_; rintro e w2 ⟨rfl, g2⟩
  have R2 := R1.out.step g2
  have r2 := R2.r.2.1; have r3 := R2.r.2.2; have f0 := R2.fr 0; have f1 := R2.fr 1
  go_wp2_with fail
  refine bodyPost_ret (v := .tuple #[ratV P Q, .int .i64 X]) (by simp [results, Tryz.results9, go_sem, r2, r3]) rfl ⟨rfl, ?_⟩
  exact (R2.bel.setCell (by simp; omega) _).setCell (by simp; omega) _

set_option maxRecDepth 100000 in
set_option maxHeartbeats 1000000 in
theorem refSub_any (an ad bn bd : Int) (w : World) (fa : Fits an ∧ Fits ad) (fb : Fits bn ∧ Fits bd) :
    Calls Tryz.prog 11 #[ratV an ad, ratV bn bd] w fun e w' => e = .returned (ratRes (subR an ad bn bd)) ∧ Below w.heap.size w w' := by
  have vb := fun w => refBoth_any an ad bn bd w fa fb
  have T0 := Lib.hid (TwoBox.new w an ad bn bd)
  by_cases ho : Ra.Ok an ad ∧ Ra.Ok bn bd
  case neg =>
    have hv : ratRes (subR an ad bn bd) = .tuple #[ratV 0 0, .int .i64 30] := by unfold subR; rw [if_neg ho]; rfl
    have hb : (okB an ad && okB bn bd) = false := by
      unfold okB; rw [Bool.and_eq_false_iff]
      by_cases oa : Ra.Ok an ad
      · exact .inr (decide_eq_false fun h => ho ⟨oa, h⟩)
      · exact .inl (decide_eq_false oa)
    rw [hb] at vb
    rw [hv]
    have VB := Lib.hid vb
    have a0 := T0.out.a.2.1; have a1 := T0.out.a.2.2; have b0 := T0.out.b.2.1; have b1 := T0.out.b.2.2
    clear vb hb hv ho fa fb
    go_enter Tryz.func11, Tryz.ntmps11
    go_wp2_with fail
    clear a0 a1 b0 b1
    refine (VB.out _).mono ?_; rintro e w1 ⟨rfl, g1⟩
    have R1 := T0.out.step g1
    have r2 := R1.r.2.1; have r3 := R1.r.2.2; have f0 := R1.fr 0; have f1 := R1.fr 1
    go_wp2_with fail
    refine bodyPost_ret (v := .tuple #[ratV 0 0, .int .i64 30]) (by simp [results, Tryz.results11, go_sem, r2, r3]) rfl ⟨rfl, ?_⟩
    exact (R1.bel.setCell (by simp; omega) _).setCell (by simp; omega) _
  obtain ⟨oa, ob⟩ := ho
  rw [okB_true oa, okB_true ob] at vb
  have hr : subR an ad bn bd = Ra.red (an * bd - bn * ad) (ad * bd) := if_pos ⟨oa, ob⟩
  obtain ⟨a1, a2, a3, a4, -⟩ := oa
  obtain ⟨b1, b2, b3, b4, -⟩ := ob
  obtain ⟨p0, q0⟩ := Ra.prod_bd (a := an) (b := bd) (by omega) (by omega) (by omega) (by omega)
  have e0 : wrap64 (an * bd) = an * bd := IntWalk.wrap64_in _ ⟨by omega, by omega⟩
  obtain ⟨p1, q1⟩ := Ra.prod_bd (a := bn) (b := ad) (by omega) (by omega) (by omega) (by omega)
  have e1 : wrap64 (bn * ad) = bn * ad := IntWalk.wrap64_in _ ⟨by omega, by omega⟩
  obtain ⟨p2, q2⟩ := Ra.prod_bd (a := ad) (b := bd) (by omega) (by omega) (by omega) (by omega)
  have e2 : wrap64 (ad * bd) = ad * bd := IntWalk.wrap64_in _ ⟨by omega, by omega⟩
  have e4 : wrap64 (an * bd - bn * ad) = an * bd - bn * ad := IntWalk.wrap64_in _ ⟨by omega, by omega⟩
  obtain ⟨P, Q, X, hq, hm⟩ := refMake_gen (an * bd - bn * ad) (ad * bd) ⟨by omega, by omega⟩ ⟨by omega, by omega⟩
  rw [hr, hq]
  have VB := Lib.hid vb; have HM := Lib.hid hm
  clear vb hm hq hr fa fb
  have x0 := T0.out.a.2.1; have x1 := T0.out.a.2.2; have y0 := T0.out.b.2.1; have y1 := T0.out.b.2.2
  go_enter Tryz.func11, Tryz.ntmps11
  go_wp2_with fail
  clear x0 x1 y0 y1
  refine (VB.out _).mono ?_; rintro e w1 ⟨rfl, g1⟩
  have R1 := Lib.hid (T0.out.step g1)
  have x0 := R1.out.a.2.1; have x1 := R1.out.a.2.2; have y0 := R1.out.b.2.1; have y1 := R1.out.b.2.2
  go_wp2_with fail
  clear x0 x1 y0 y1
  refine (HM.out _).mono ?_; rintro e w2 ⟨rfl, g2⟩
  have R2 := R1.out.step g2
  have r2 := R2.r.2.1; have r3 := R2.r.2.2; have f0 := R2.fr 0; have f1 := R2.fr 1
  go_wp2_with fail
  refine bodyPost_ret (v := .tuple #[ratV P Q, .int .i64 X]) (by simp [results, Tryz.results11, go_sem, r2, r3]) rfl ⟨rfl, ?_⟩
  exact (R2.bel.setCell (by simp; omega) _).setCell (by simp; omega) _

set_option maxRecDepth 100000 in
set_option maxHeartbeats 1000000 in
theorem refMul_any (an ad bn bd : Int) (w : World) (fa : Fits an ∧ Fits ad) (fb : Fits bn ∧ Fits bd) :
    Calls Tryz.prog 13 #[ratV an ad, ratV bn bd] w fun e w' => e = .returned (ratRes (mulR an ad bn bd)) ∧ Below w.heap.size w w' := by
  have vb := fun w => refBoth_any an ad bn bd w fa fb
  have T0 := Lib.hid (TwoBox.new w an ad bn bd)
  by_cases ho : Ra.Ok an ad ∧ Ra.Ok bn bd
  case neg =>
    have hv : ratRes (mulR an ad bn bd) = .tuple #[ratV 0 0, .int .i64 30] := by unfold mulR; rw [if_neg ho]; rfl
    have hb : (okB an ad && okB bn bd) = false := by
      unfold okB; rw [Bool.and_eq_false_iff]
      by_cases oa : Ra.Ok an ad
      · exact .inr (decide_eq_false fun h => ho ⟨oa, h⟩)
      · exact .inl (decide_eq_false oa)
    rw [hb] at vb
    rw [hv]
    have VB := Lib.hid vb
    have a0 := T0.out.a.2.1; have a1 := T0.out.a.2.2; have b0 := T0.out.b.2.1; have b1 := T0.out.b.2.2
    clear vb hb hv ho fa fb
    go_enter Tryz.func13, Tryz.ntmps13
    go_wp2_with fail
    clear a0 a1 b0 b1
    refine (VB.out _).mono ?_; rintro e w1 ⟨rfl, g1⟩
    have R1 := T0.out.step g1
    have r2 := R1.r.2.1; have r3 := R1.r.2.2; have f0 := R1.fr 0; have f1 := R1.fr 1
    go_wp2_with fail
    refine bodyPost_ret (v := .tuple #[ratV 0 0, .int .i64 30]) (by simp [results, Tryz.results13, go_sem, r2, r3]) rfl ⟨rfl, ?_⟩
    exact (R1.bel.setCell (by simp; omega) _).setCell (by simp; omega) _
  obtain ⟨oa, ob⟩ := ho
  rw [okB_true oa, okB_true ob] at vb
  have hr : mulR an ad bn bd = Ra.red (an * bn) (ad * bd) := if_pos ⟨oa, ob⟩
  obtain ⟨a1, a2, a3, a4, -⟩ := oa
  obtain ⟨b1, b2, b3, b4, -⟩ := ob
  obtain ⟨p0, q0⟩ := Ra.prod_bd (a := an) (b := bn) (by omega) (by omega) (by omega) (by omega)
  have e0 : wrap64 (an * bn) = an * bn := IntWalk.wrap64_in _ ⟨by omega, by omega⟩
  obtain ⟨p1, q1⟩ := Ra.prod_bd (a := ad) (b := bd) (by omega) (by omega) (by omega) (by omega)
  have e1 : wrap64 (ad * bd) = ad * bd := IntWalk.wrap64_in _ ⟨by omega, by omega⟩
  obtain ⟨P, Q, X, hq, hm⟩ := refMake_gen (an * bn) (ad * bd) ⟨by omega, by omega⟩ ⟨by omega, by omega⟩
  rw [hr, hq]
  have VB := Lib.hid vb; have HM := Lib.hid hm
  clear vb hm hq hr fa fb
  have x0 := T0.out.a.2.1; have x1 := T0.out.a.2.2; have y0 := T0.out.b.2.1; have y1 := T0.out.b.2.2
  go_enter Tryz.func13, Tryz.ntmps13
  go_wp2_with fail
  clear x0 x1 y0 y1
  refine (VB.out _).mono ?_; rintro e w1 ⟨rfl, g1⟩
  have R1 := Lib.hid (T0.out.step g1)
  have x0 := R1.out.a.2.1; have x1 := R1.out.a.2.2; have y0 := R1.out.b.2.1; have y1 := R1.out.b.2.2
  go_wp2_with fail
  clear x0 x1 y0 y1
  refine (HM.out _).mono ?_; rintro e w2 ⟨rfl, g2⟩
  have R2 := R1.out.step g2
  have r2 := R2.r.2.1; have r3 := R2.r.2.2; have f0 := R2.fr 0; have f1 := R2.fr 1
  go_wp2_with fail
  refine bodyPost_ret (v := .tuple #[ratV P Q, .int .i64 X]) (by simp [results, Tryz.results13, go_sem, r2, r3]) rfl ⟨rfl, ?_⟩
  exact (R2.bel.setCell (by simp; omega) _).setCell (by simp; omega) _

set_option maxRecDepth 100000 in
set_option maxHeartbeats 1000000 in
theorem refDiv_any (an ad bn bd : Int) (w : World) (fa : Fits an ∧ Fits ad) (fb : Fits bn ∧ Fits bd) :
    Calls Tryz.prog 15 #[ratV an ad, ratV bn bd] w fun e w' => e = .returned (ratRes (divR an ad bn bd)) ∧ Below w.heap.size w w' := by
  have vb := fun w => refBoth_any an ad bn bd w fa fb
  have T0 := Lib.hid (TwoBox.new w an ad bn bd)
  by_cases ho : Ra.Ok an ad ∧ Ra.Ok bn bd
  case neg =>
    have hv : ratRes (divR an ad bn bd) = .tuple #[ratV 0 0, .int .i64 30] := by unfold divR; rw [if_neg ho]; rfl
    have hb : (okB an ad && okB bn bd) = false := by
      unfold okB; rw [Bool.and_eq_false_iff]
      by_cases oa : Ra.Ok an ad
      · exact .inr (decide_eq_false fun h => ho ⟨oa, h⟩)
      · exact .inl (decide_eq_false oa)
    rw [hb] at vb
    rw [hv]
    have VB := Lib.hid vb
    have a0 := T0.out.a.2.1; have a1 := T0.out.a.2.2; have b0 := T0.out.b.2.1; have b1 := T0.out.b.2.2
    clear vb hb hv ho fa fb
    go_enter Tryz.func15, Tryz.ntmps15
    go_wp2_with fail
    clear a0 a1 b0 b1
    refine (VB.out _).mono ?_; rintro e w1 ⟨rfl, g1⟩
    have R1 := T0.out.step g1
    have r2 := R1.r.2.1; have r3 := R1.r.2.2; have f0 := R1.fr 0; have f1 := R1.fr 1
    go_wp2_with fail
    refine bodyPost_ret (v := .tuple #[ratV 0 0, .int .i64 30]) (by simp [results, Tryz.results15, go_sem, r2, r3]) rfl ⟨rfl, ?_⟩
    exact (R1.bel.setCell (by simp; omega) _).setCell (by simp; omega) _
  obtain ⟨oa, ob⟩ := ho
  rw [okB_true oa, okB_true ob] at vb
  have hr : divR an ad bn bd = Ra.red (an * bd) (ad * bn) := if_pos ⟨oa, ob⟩
  obtain ⟨a1, a2, a3, a4, -⟩ := oa
  obtain ⟨b1, b2, b3, b4, -⟩ := ob
  obtain ⟨p0, q0⟩ := Ra.prod_bd (a := an) (b := bd) (by omega) (by omega) (by omega) (by omega)
  have e0 : wrap64 (an * bd) = an * bd := IntWalk.wrap64_in _ ⟨by omega, by omega⟩
  obtain ⟨p1, q1⟩ := Ra.prod_bd (a := ad) (b := bn) (by omega) (by omega) (by omega) (by omega)
  have e1 : wrap64 (ad * bn) = ad * bn := IntWalk.wrap64_in _ ⟨by omega, by omega⟩
  obtain ⟨P, Q, X, hq, hm⟩ := refMake_gen (an * bd) (ad * bn) ⟨by omega, by omega⟩ ⟨by omega, by omega⟩
  rw [hr, hq]
  have VB := Lib.hid vb; have HM := Lib.hid hm
  clear vb hm hq hr fa fb
  have x0 := T0.out.a.2.1; have x1 := T0.out.a.2.2; have y0 := T0.out.b.2.1; have y1 := T0.out.b.2.2
  go_enter Tryz.func15, Tryz.ntmps15
  go_wp2_with fail
  clear x0 x1 y0 y1
  refine (VB.out _).mono ?_; rintro e w1 ⟨rfl, g1⟩
  have R1 := Lib.hid (T0.out.step g1)
  have x0 := R1.out.a.2.1; have x1 := R1.out.a.2.2; have y0 := R1.out.b.2.1; have y1 := R1.out.b.2.2
  go_wp2_with fail
  clear x0 x1 y0 y1
  refine (HM.out _).mono ?_; rintro e w2 ⟨rfl, g2⟩
  have R2 := R1.out.step g2
  have r2 := R2.r.2.1; have r3 := R2.r.2.2; have f0 := R2.fr 0; have f1 := R2.fr 1
  go_wp2_with fail
  refine bodyPost_ret (v := .tuple #[ratV P Q, .int .i64 X]) (by simp [results, Tryz.results15, go_sem, r2, r3]) rfl ⟨rfl, ?_⟩
  exact (R2.bel.setCell (by simp; omega) _).setCell (by simp; omega) _
end Go.Proofs.YtkkhmgcjaehnkaaGreatDoor
