/-
  Contracts of slices.EqualFunc at steps, slices.Equal at windows, and Same.
-/
import Derived.Test.YtcaclijkkbhfhaaGreatDoorSame
namespace Go.Proofs.YtcaclijkkbhfhaaGreatDoor
open Go.RowKit Go.Shelf

theorem steps_drop (P Q : List StepP) (k : Nat) (hp : k < P.length) (hq : k < Q.length) : decide (stepsOf (P.drop k) = stepsOf (Q.drop k)) = (decide (P[k].s = Q[k].s) && decide (stepsOf (P.drop (k + 1)) = stepsOf (Q.drop (k + 1)))) := by
  rw [List.drop_eq_getElem_cons hp, List.drop_eq_getElem_cons hq, Bool.eq_iff_iff]
  simp only [stepsOf, List.map_cons, List.cons.injEq, Bool.and_eq_true, decide_eq_true_eq]
theorem wins_drop (P Q : List Fl.Win) (k : Nat) (hp : k < P.length) (hq : k < Q.length) : decide (P.drop k = Q.drop k) = (decide (P[k] = Q[k]) && decide (P.drop (k + 1) = Q.drop (k + 1))) := by
  rw [List.drop_eq_getElem_cons hp, List.drop_eq_getElem_cons hq, Bool.eq_iff_iff]
  simp only [List.cons.injEq, Bool.and_eq_true, decide_eq_true_eq]

set_option maxRecDepth 100000 in
set_option maxHeartbeats 2000000 in
theorem equalSteps_any (P Q : List StepP) (a b : Option Addr) (c d : Nat) (w : World) (hP : StepsA w a c P) (hQ : StepsA w b d Q) :
    Calls Tryz.prog 38 #[.slice a P.length c, .slice b Q.length d, .func (.func 39) #[] #[]] w fun e w' => e = .returned (.bool (decide (stepsOf P = stepsOf Q))) ∧ Below w.heap.size w w' := by
  have l1 : P.length ≤ maxLen := Nat.le_trans hP.1 hP.2.1
  have l2 : Q.length ≤ maxLen := Nat.le_trans hQ.1 hQ.2.1
  unfold maxLen at l1 l2
  have HP := Lib.hid hP; have HQ := Lib.hid hQ; clear hP hQ
  by_cases hn : P.length = Q.length
  · have hn' : ((P.length : Int) != (Q.length : Int)) = false := by simp [hn]
    have HN := Lib.hid hn; clear hn
    go_enter Tryz.func38, Tryz.ntmps38
    go_wp2_with fail
    clear hn'
    go_loopw [17] (fun i wr => ∃ k : Nat, k ≤ P.length ∧ i = .int .i64 (k : Int) ∧ Below w.heap.size w wr ∧ Hid (decide (stepsOf (P.drop k) = stepsOf (Q.drop k)) = decide (stepsOf P = stepsOf Q))) (fun i _ => P.length - (intOf i).toNat)
    case atStart => exact ⟨0, Nat.zero_le _, rfl, Below.refl _ _, Lib.hid rfl⟩
    case round =>
      obtain ⟨k, hk, rfl, hb, hh⟩ := hrel
      by_cases hlt : k < P.length
      · have hlt2 : k < Q.length := by have := HN.out; omega
        have hp := HP.out.okAt k hlt
        have hq := HQ.out.okAt k hlt2
        have HE := Lib.hid (steps_drop P Q k hlt hlt2)
        obtain ⟨b1, o1, rfl, hb1, ⟨c0, c1, c2, c3, c4, c5, c6⟩, _⟩ := (HP.out.below hb).2.2 k hlt
        obtain ⟨b2, o2, rfl, hb2, ⟨d0, d1, d2, d3, d4, d5, d6⟩, _⟩ := (HQ.out.below hb).2.2 k hlt2
        have CL := Lib.hid (fun w' (hb : Below w.heap.size w w') => sameStep_any P[k] Q[k] w' (hp.below hb) (hq.below hb))
        generalize P[k] = p at *
        generalize Q[k] = r at *
        obtain ⟨V, hV⟩ : ∃ V, decide (p.s = r.s) = V := ⟨_, rfl⟩
        rw [hV] at CL HE
        have HB := Lib.hid hb
        have W1 := Lib.hid (below_new wr (stepBox p))
        have e0 : (wr.alloc (stepBox p)).cell? ⟨b2, o2 + k * 7, none⟩ = some (.int .i64 r.s.recipe) := cell_below W1.out d0
        have e1 := cell_below W1.out d1; have e2 := cell_below W1.out d2; have e3 := cell_below W1.out d3; have e4 := cell_below W1.out d4; have e5 := cell_below W1.out d5; have e6 := cell_below W1.out d6
        have W2 := Lib.hid (below_step W1.out (below_new _ (stepBox r)))
        unfold stepBox at *
        clear hV hb hp hq
        go_wp2_with fail
        refine (CL.out _ (below_step HB.out W2.out)).mono ?_; rintro e w1 ⟨rfl, g1⟩
        have L1 := Lib.hid (below_step (below_step HB.out W2.out) g1)
        clear g1
        cases V
        · go_wp2_with fail
          go_ret
          exact ⟨ret_bool (by rw [← hh.out, HE.out]; rfl), L1.out⟩
        · go_wp2_with fail
          go_roundw
          case rel => exact ⟨k + 1, by omega, by go_num, L1.out, Lib.hid (by rw [← hh.out, HE.out]; simp)⟩
          case measure => simp [intOf]; omega
      · have HF := Lib.hid (show decide (stepsOf P = stepsOf Q) = true by
          have := HN.out
          rw [← hh.out, List.drop_of_length_le (by omega), List.drop_of_length_le (by omega)]; simp)
        go_wp2_with fail
        go_ret
        exact ⟨ret_bool HF.out.symm, hb⟩
  · have hn' : ((P.length : Int) != (Q.length : Int)) = true := by rw [bne_iff_ne]; omega
    have HF := Lib.hid (show decide (stepsOf P = stepsOf Q) = false by
      rw [decide_eq_false_iff_not]; intro h; apply hn
      have := congrArg List.length h; simpa using this)
    clear hn
    go_enter Tryz.func38, Tryz.ntmps38
    go_wp2_with fail
    go_ret
    exact ⟨ret_bool HF.out.symm, Below.refl _ _⟩

set_option maxRecDepth 100000 in
set_option maxHeartbeats 2000000 in
theorem equalWins_any (P Q : List Fl.Win) (a b : Option Addr) (c d : Nat) (w : World) (hP : WinsA w a c P) (hQ : WinsA w b d Q) :
    Calls Tryz.prog 40 #[.slice a P.length c, .slice b Q.length d] w fun e w' => e = .returned (.bool (decide (P = Q))) ∧ Below w.heap.size w w' := by
  have l1 : P.length ≤ maxLen := Nat.le_trans hP.1 hP.2.1
  have l2 : Q.length ≤ maxLen := Nat.le_trans hQ.1 hQ.2.1
  unfold maxLen at l1 l2
  have HP := Lib.hid hP; have HQ := Lib.hid hQ; clear hP hQ
  by_cases hn : P.length = Q.length
  · have hn' : ((P.length : Int) != (Q.length : Int)) = false := by simp [hn]
    have HN := Lib.hid hn; clear hn
    go_enter Tryz.func40, Tryz.ntmps40
    go_wp2_with fail
    clear hn'
    go_loopw [13] (fun i wr => ∃ (k n : Nat), k ≤ P.length ∧ i = .int .i64 (k : Int) ∧ wr = w.drewN n ∧ Hid (decide (P.drop k = Q.drop k) = decide (P = Q))) (fun i _ => P.length - (intOf i).toNat)
    case atStart => exact ⟨0, 0, Nat.zero_le _, rfl, rfl, Lib.hid rfl⟩
    case round =>
      obtain ⟨k, n, hk, rfl, rfl, hh⟩ := hrel
      by_cases hlt : k < P.length
      · have hlt2 : k < Q.length := by have := HN.out; omega
        have HE := Lib.hid (wins_drop P Q k hlt hlt2)
        obtain ⟨b1, o1, rfl, hb1, ⟨c0, c1, c2⟩⟩ := HP.out.2.2 k hlt
        obtain ⟨b2, o2, rfl, hb2, ⟨d0, d1, d2⟩⟩ := HQ.out.2.2 k hlt2
        have i1 : (0 : Int) ≤ (k : Int) := by omega
        have i2 : (k : Int) < (P.length : Int) := by omega
        have i3 : (k : Int) < (Q.length : Int) := by omega
        have i4 : ((k : Int)).toNat = k := by omega
        generalize P[k] = p at *
        generalize Q[k] = r at *
        by_cases hpr : p = r
        · subst hpr
          go_wp2_with fail
          go_quiet (fail)
          clear i1 i2 i3 i4
          go_wp2_with fail
          go_roundw
          case rel => exact ⟨k + 1, _, by omega, by go_num, rfl, Lib.hid (by rw [← hh.out, HE.out]; simp)⟩
          case measure => simp [intOf]; omega
        · have HF := Lib.hid (show decide (P = Q) = false by rw [← hh.out, HE.out]; simp [hpr])
          obtain ⟨x0, x1, x2⟩ := p
          obtain ⟨y0, y1, y2⟩ := r
          simp only at c0 c1 c2 d0 d1 d2
          by_cases h0 : x0 = y0
          · subst h0
            by_cases h1 : x1 = y1
            · subst h1
              have h2 : ¬ x2 = y2 := fun e => hpr (by rw [e])
              clear hpr
              go_wp2_with fail
              go_quiet (fail)
              go_wp2_with fail
              go_ret
              exact ⟨ret_bool HF.out.symm, below_drewN (below_drewN (Below.refl _ _) _) _⟩
            · clear hpr
              go_wp2_with fail
              go_quiet (fail)
              go_wp2_with fail
              go_ret
              exact ⟨ret_bool HF.out.symm, below_drewN (below_drewN (Below.refl _ _) _) _⟩
          · clear hpr
            go_wp2_with fail
            go_quiet (fail)
            go_wp2_with fail
            go_ret
            exact ⟨ret_bool HF.out.symm, below_drewN (below_drewN (Below.refl _ _) _) _⟩
      · have HF := Lib.hid (show decide (P = Q) = true by
          have := HN.out
          rw [← hh.out, List.drop_of_length_le (by omega), List.drop_of_length_le (by omega)]; simp)
        go_wp2_with fail
        go_ret
        exact ⟨ret_bool HF.out.symm, below_drewN (Below.refl _ _) _⟩
  · have hn' : ((P.length : Int) != (Q.length : Int)) = true := by rw [bne_iff_ne]; omega
    have HF := Lib.hid (show decide (P = Q) = false by
      rw [decide_eq_false_iff_not]; intro h; apply hn; rw [h])
    clear hn
    go_enter Tryz.func40, Tryz.ntmps40
    go_wp2_with fail
    go_ret
    exact ⟨ret_bool HF.out.symm, Below.refl _ _⟩

theorem flow_eq (q r : FlowP) : decide (q.f = r.f) = ((q.least == r.least) && (q.most == r.most) && decide (stepsOf q.P = stepsOf r.P) && decide (q.W = r.W)) := by
  rw [Bool.eq_iff_iff]
  simp [FlowP.f, and_assoc]
abbrev flowBox (q : FlowP) : Obj := .cells #[.int .i64 q.least, .int .i64 q.most, .slice q.sa q.P.length q.sc, .slice q.wa q.W.length q.wc] 25
set_option maxRecDepth 100000 in
set_option maxHeartbeats 2000000 in
theorem Same_any (q r : FlowP) (w : World) (hq : q.ok w) (hr : r.ok w) :
    Calls Tryz.prog 19 #[q.v, r.v] w fun e w' => e = .returned (.bool (decide (q.f = r.f))) ∧ Below w.heap.size w w' := by
  rw [flow_eq]
  have HB := Lib.hid (below_step (below_new w (flowBox q)) (below_new (w.alloc (flowBox q)) (flowBox r)))
  have BP := Lib.hid ((FlowBox.new w q).below (below_new (w.alloc (flowBox q)) (flowBox r)))
  have br := FlowBox.new (w.alloc (flowBox q)) r
  rw [show (w.alloc (flowBox q)).heap.size = w.heap.size + 1 by simp] at br
  have BR := Lib.hid br
  have C1 := Lib.hid (fun w' (hb : Below w.heap.size w w') => equalSteps_any q.P r.P q.sa r.sa q.sc r.sc w' (hq.1.below hb) (hr.1.below hb))
  have C2 := Lib.hid (fun w' (hb : Below w.heap.size w w') => equalWins_any q.W r.W q.wa r.wa q.wc r.wc w' (hq.2.below hb) (hr.2.below hb))
  obtain ⟨T, hT⟩ : ∃ T, decide (stepsOf q.P = stepsOf r.P) = T := ⟨_, rfl⟩
  obtain ⟨X, hX⟩ : ∃ X, decide (q.W = r.W) = X := ⟨_, rfl⟩
  rw [hT] at C1; rw [hX] at C2; rw [hT, hX]
  clear hT hX hq hr br
  unfold FlowP.v
  unfold flowBox at *
  rcases Bool.eq_false_or_eq_true (q.least == r.least) with e1 | e1
  rotate_left
  · go_enter Tryz.func19, Tryz.ntmps19
    go_wp2_with fail
    go_ret
    exact ⟨ret_bool (by simp [e1]), HB.out⟩
  rcases Bool.eq_false_or_eq_true (q.most == r.most) with e2 | e2
  rotate_left
  · go_enter Tryz.func19, Tryz.ntmps19
    go_wp2_with fail
    go_ret
    exact ⟨ret_bool (by simp [e2]), HB.out⟩
  go_enter Tryz.func19, Tryz.ntmps19
  go_wp2_with fail
  generalize (w.alloc (.cells #[.int .i64 q.least, .int .i64 q.most, .slice q.sa q.P.length q.sc, .slice q.wa q.W.length q.wc] 25)).alloc (.cells #[.int .i64 r.least, .int .i64 r.most, .slice r.sa r.P.length r.sc, .slice r.wa r.W.length r.wc] 25) = w0 at *
  refine (C1.out _ HB.out).mono ?_; rintro e w1 ⟨rfl, g1⟩
  have L1 := Lib.hid (below_step HB.out g1)
  obtain ⟨-, c0, c1, c2, c3⟩ := BP.out.below g1
  obtain ⟨-, d0, d1, d2, d3⟩ := BR.out.below g1
  clear g1
  cases T
  · go_wp2_with fail
    go_ret
    exact ⟨ret_bool (by simp), L1.out⟩
  · go_wp2_with fail
    clear c0 c1 c2 c3 d0 d1 d2 d3
    refine (C2.out _ L1.out).mono ?_; rintro e w2 ⟨rfl, g2⟩
    have L2 := Lib.hid (below_step L1.out g2); clear g2
    go_wp2_with fail
    go_ret
    exact ⟨ret_bool (by simp [e1, e2]), L2.out⟩
end Go.Proofs.YtcaclijkkbhfhaaGreatDoor
