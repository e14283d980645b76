/-
  Contracts of slices.Equal at stages and windows, of the reference's SameVisits, of Same.
-/
import Derived.Test.YtihohjgjklcnlaaDoorQCa
namespace Go.Proofs.YtihohjgjklcnlaaDoor
open Go.RowKit

theorem list_drop_eq {α : Type} [DecidableEq α] (P Q : List α) (k : Nat) (h1 : k < P.length) (h2 : k < Q.length) : decide (P.drop k = Q.drop k) = (decide (P[k] = Q[k]) && decide (P.drop (k + 1) = Q.drop (k + 1))) := by
  have e1 : P.drop k = P[k] :: P.drop (k + 1) := List.drop_eq_getElem_cons h1
  have e2 : Q.drop k = Q[k] :: Q.drop (k + 1) := List.drop_eq_getElem_cons h2
  rw [Bool.eq_iff_iff, Bool.and_eq_true, decide_eq_true_eq, decide_eq_true_eq, decide_eq_true_eq, e1, e2, List.cons.injEq]
set_option maxRecDepth 100000 in
set_option maxHeartbeats 2000000 in
theorem equalWindows_any (P Q : List Pl.Win) (a b : Option Addr) (c d : Nat) (w : World) (hP : WnA w a c P) (hQ : WnA w b d Q) :
    Calls Tryd.prog 50 #[.slice a P.length c, .slice b Q.length d] w fun e w' => e = .returned (.bool (decide (P = Q))) ∧ Below w.heap.size w w' := by
  have l1 := hP.len
  have l2 := hQ.len
  unfold maxLen at l1 l2
  have HP := Lib.hid hP; have HQ := Lib.hid hQ; clear hP hQ
  by_cases hn : P.length = Q.length
  · have hn' : ((P.length : Int) != (Q.length : Int)) = false := by simp [hn]
    have HN := Lib.hid hn; clear hn
    go_enter Tryd.func50, Tryd.ntmps50
    go_wp2_with fail
    clear hn'
    go_loopw [13] (fun i wr => ∃ (k : Nat), k ≤ P.length ∧ i = .int .i64 (k : Int) ∧ Hid (Below w.heap.size w wr) ∧ Hid (decide (P.drop k = Q.drop k) = decide (P = Q))) (fun i _ => P.length - (intOf i).toNat)
    case atStart => exact ⟨0, Nat.zero_le _, rfl, Lib.hid (Below.refl _ _), Lib.hid rfl⟩
    case round =>
      obtain ⟨k, hk, rfl, hb, hh⟩ := hrel
      by_cases hlt : k < P.length
      · have hlt2 : k < Q.length := by have := HN.out; omega
        have HE := Lib.hid (list_drop_eq P Q k hlt hlt2)
        obtain ⟨b1, o1, rfl, hb1, h1⟩ := (HP.out.below hb.out).2.2 k hlt
        obtain ⟨b2, o2, rfl, hb2, h2⟩ := (HQ.out.below hb.out).2.2 k hlt2
        obtain ⟨c0, c1, c2⟩ := wn_cells h1
        obtain ⟨d0, d1, d2⟩ := wn_cells h2
        have i1 : (0 : Int) ≤ (k : Int) := by omega
        have i2 : (k : Int) < (P.length : Int) := by omega
        have i3 : (k : Int) < (Q.length : Int) := by omega
        have i4 : ((k : Int)).toNat = k := by omega
        clear h1 h2
        generalize P[k] = p at *
        generalize Q[k] = r at *
        by_cases hpr : p = r
        · subst hpr
          go_wp2_with fail
          go_quiet (fail)
          clear i1 i2 i3 i4
          go_wp2_with fail
          go_roundw
          case rel => exact ⟨k + 1, by omega, by go_num, Lib.hid (below_drewN hb.out _), Lib.hid (by rw [← hh.out, HE.out]; simp)⟩
          case measure => simp [intOf]; omega
        · have HF := Lib.hid (show decide (P = Q) = false by rw [← hh.out, HE.out]; simp [hpr])
          obtain ⟨x0, x1, x2⟩ := p
          obtain ⟨y0, y1, y2⟩ := r
          simp only at c0 c1 c2 d0 d1 d2
          by_cases h0 : x0 = y0
          rotate_left
          · clear hpr
            go_wp2_with fail
            go_quiet (fail)
            go_wp2_with fail
            go_ret
            exact ⟨ret_bool HF.out.symm, below_drewN hb.out _⟩
          subst h0
          by_cases h1 : x1 = y1
          rotate_left
          · clear hpr
            go_wp2_with fail
            go_quiet (fail)
            go_wp2_with fail
            go_ret
            exact ⟨ret_bool HF.out.symm, below_drewN hb.out _⟩
          subst h1
          have h2 : ¬ x2 = y2 := fun e => hpr (by rw [e])
          clear hpr
          go_wp2_with fail
          go_quiet (fail)
          go_wp2_with fail
          go_ret
          exact ⟨ret_bool HF.out.symm, below_drewN hb.out _⟩
      · have HF := Lib.hid (show decide (P = Q) = true by
          rw [← hh.out, List.drop_of_length_le (by omega), List.drop_of_length_le (by have := HN.out; omega)]; simp)
        go_wp2_with fail
        go_ret
        exact ⟨ret_bool HF.out.symm, hb.out⟩
  · have hn' : ((P.length : Int) != (Q.length : Int)) = true := by rw [bne_iff_ne]; omega
    have HF := Lib.hid (show decide (P = Q) = false by rw [decide_eq_false_iff_not]; intro h; exact hn (by rw [h]))
    clear hn
    go_enter Tryd.func50, Tryd.ntmps50
    go_wp2_with fail
    go_ret
    exact ⟨ret_bool HF.out.symm, Below.refl _ _⟩
set_option maxRecDepth 100000 in
set_option maxHeartbeats 2000000 in
theorem equalStages_any (P Q : List Pl.Stage) (a b : Option Addr) (c d : Nat) (w : World) (hP : StA w a c P) (hQ : StA w b d Q) :
    Calls Tryd.prog 49 #[.slice a P.length c, .slice b Q.length d] w fun e w' => e = .returned (.bool (decide (P = Q))) ∧ Below w.heap.size w w' := by
  have l1 := hP.len
  have l2 := hQ.len
  unfold maxLen at l1 l2
  have HP := Lib.hid hP; have HQ := Lib.hid hQ; clear hP hQ
  by_cases hn : P.length = Q.length
  · have hn' : ((P.length : Int) != (Q.length : Int)) = false := by simp [hn]
    have HN := Lib.hid hn; clear hn
    go_enter Tryd.func49, Tryd.ntmps49
    go_wp2_with fail
    clear hn'
    go_loopw [13] (fun i wr => ∃ (k : Nat), k ≤ P.length ∧ i = .int .i64 (k : Int) ∧ Hid (Below w.heap.size w wr) ∧ Hid (decide (P.drop k = Q.drop k) = decide (P = Q))) (fun i _ => P.length - (intOf i).toNat)
    case atStart => exact ⟨0, Nat.zero_le _, rfl, Lib.hid (Below.refl _ _), Lib.hid rfl⟩
    case round =>
      obtain ⟨k, hk, rfl, hb, hh⟩ := hrel
      by_cases hlt : k < P.length
      · have hlt2 : k < Q.length := by have := HN.out; omega
        have HE := Lib.hid (list_drop_eq P Q k hlt hlt2)
        obtain ⟨b1, o1, rfl, hb1, h1⟩ := (HP.out.below hb.out).2.2 k hlt
        obtain ⟨b2, o2, rfl, hb2, h2⟩ := (HQ.out.below hb.out).2.2 k hlt2
        obtain ⟨c0, c1, c2, c3, c4, c5⟩ := st_cells h1
        obtain ⟨d0, d1, d2, d3, d4, d5⟩ := st_cells h2
        have i1 : (0 : Int) ≤ (k : Int) := by omega
        have i2 : (k : Int) < (P.length : Int) := by omega
        have i3 : (k : Int) < (Q.length : Int) := by omega
        have i4 : ((k : Int)).toNat = k := by omega
        clear h1 h2
        generalize P[k] = p at *
        generalize Q[k] = r at *
        by_cases hpr : p = r
        · subst hpr
          go_wp2_with fail
          go_quiet (fail)
          clear i1 i2 i3 i4
          go_wp2_with fail
          go_roundw
          case rel => exact ⟨k + 1, by omega, by go_num, Lib.hid (below_drewN hb.out _), Lib.hid (by rw [← hh.out, HE.out]; simp)⟩
          case measure => simp [intOf]; omega
        · have HF := Lib.hid (show decide (P = Q) = false by rw [← hh.out, HE.out]; simp [hpr])
          obtain ⟨x0, x1, ⟨x2, x3⟩, ⟨x4, x5⟩⟩ := p
          obtain ⟨y0, y1, ⟨y2, y3⟩, ⟨y4, y5⟩⟩ := r
          simp only at c0 c1 c2 c3 c4 c5 d0 d1 d2 d3 d4 d5
          by_cases h0 : x0 = y0
          rotate_left
          · clear hpr
            go_wp2_with fail
            go_quiet (fail)
            go_wp2_with fail
            go_ret
            exact ⟨ret_bool HF.out.symm, below_drewN hb.out _⟩
          subst h0
          by_cases h1 : x1 = y1
          rotate_left
          · clear hpr
            go_wp2_with fail
            go_quiet (fail)
            go_wp2_with fail
            go_ret
            exact ⟨ret_bool HF.out.symm, below_drewN hb.out _⟩
          subst h1
          by_cases h2 : x2 = y2
          rotate_left
          · clear hpr
            go_wp2_with fail
            go_quiet (fail)
            go_wp2_with fail
            go_ret
            exact ⟨ret_bool HF.out.symm, below_drewN hb.out _⟩
          subst h2
          by_cases h3 : x3 = y3
          rotate_left
          · clear hpr
            go_wp2_with fail
            go_quiet (fail)
            go_wp2_with fail
            go_ret
            exact ⟨ret_bool HF.out.symm, below_drewN hb.out _⟩
          subst h3
          by_cases h4 : x4 = y4
          rotate_left
          · clear hpr
            go_wp2_with fail
            go_quiet (fail)
            go_wp2_with fail
            go_ret
            exact ⟨ret_bool HF.out.symm, below_drewN hb.out _⟩
          subst h4
          have h5 : ¬ x5 = y5 := fun e => hpr (by rw [e])
          clear hpr
          go_wp2_with fail
          go_quiet (fail)
          go_wp2_with fail
          go_ret
          exact ⟨ret_bool HF.out.symm, below_drewN hb.out _⟩
      · have HF := Lib.hid (show decide (P = Q) = true by
          rw [← hh.out, List.drop_of_length_le (by omega), List.drop_of_length_le (by have := HN.out; omega)]; simp)
        go_wp2_with fail
        go_ret
        exact ⟨ret_bool HF.out.symm, hb.out⟩
  · have hn' : ((P.length : Int) != (Q.length : Int)) = true := by rw [bne_iff_ne]; omega
    have HF := Lib.hid (show decide (P = Q) = false by rw [decide_eq_false_iff_not]; intro h; exact hn (by rw [h]))
    clear hn
    go_enter Tryd.func49, Tryd.ntmps49
    go_wp2_with fail
    go_ret
    exact ⟨ret_bool HF.out.symm, Below.refl _ _⟩
theorem plan_eq (p q : Pl.Plan) : decide (p = q) = ((p.entry == q.entry) && (p.mmin == q.mmin) && (p.mmax == q.mmax) && decide (p.st = q.st) && decide (p.wn = q.wn)) := by
  cases p; cases q
  rw [Bool.eq_iff_iff]
  simp [and_assoc]
set_option maxRecDepth 100000 in
set_option maxHeartbeats 2000000 in
theorem Same_any (q r : PlanP) (w : World) (h : q.ok w) (hr : r.ok w) : Calls Tryd.prog 22 #[q.val, r.val] w fun e w' => e = .returned (.bool (decide (q.p = r.p))) ∧ Below w.heap.size w w' := by
  rw [plan_eq]
  have HG := Lib.hid (below_step (below_new w (planObj q)) (below_new (w.alloc (planObj q)) (planObj r)))
  have hn1 : ((w.alloc (planObj q)).alloc (planObj r)).heap[w.heap.size]? = some (planObj q) := box_below (heap_alloc_new _ _) (below_new _ _)
  have hn2 : ((w.alloc (planObj q)).alloc (planObj r)).heap[w.heap.size + 1]? = some (planObj r) := by
    have := heap_alloc_new (w.alloc (planObj q)) (planObj r)
    rw [show (w.alloc (planObj q)).heap.size = w.heap.size + 1 by simp] at this; exact this
  have N1 := Lib.hid hn1; have N2 := Lib.hid hn2; clear hn1 hn2
  have C1 := Lib.hid (fun v (hv : Below w.heap.size w v) => equalStages_any q.p.st r.p.st q.sa r.sa q.sc r.sc v (h.st.below hv) (hr.st.below hv))
  have C2 := Lib.hid (fun v (hv : Below w.heap.size w v) => equalWindows_any q.p.wn r.p.wn q.wa r.wa q.wc r.wc v (h.wn.below hv) (hr.wn.below hv))
  clear h hr
  generalize decide (q.p.st = r.p.st) = B4 at *
  generalize decide (q.p.wn = r.p.wn) = B5 at *
  obtain ⟨⟨en, mi, ma, st, wn⟩, sa, sc, wa, wc⟩ := q
  obtain ⟨⟨en', mi', ma', st', wn'⟩, sa', sc', wa', wc'⟩ := r
  dsimp only [planObj] at N1 N2 HG
  simp only
  generalize e1 : (en == en') = B1 at *
  cases B1
  · go_enter Tryd.func22, Tryd.ntmps22
    go_wp2_with fail
    go_ret
    exact ⟨ret_bool (by simp), HG.out⟩
  generalize e2 : (mi == mi') = B2 at *
  cases B2
  · go_enter Tryd.func22, Tryd.ntmps22
    go_wp2_with fail
    go_ret
    exact ⟨ret_bool (by simp), HG.out⟩
  generalize e3 : (ma == ma') = B3 at *
  cases B3
  · go_enter Tryd.func22, Tryd.ntmps22
    go_wp2_with fail
    go_ret
    exact ⟨ret_bool (by simp), HG.out⟩
  go_enter Tryd.func22, Tryd.ntmps22
  go_wp2_with fail
  refine (C1.out _ HG.out).mono ?_; rintro _ w1 ⟨rfl, g1⟩
  have P1 := Lib.hid (box_below N1.out g1); have Q1 := Lib.hid (box_below N2.out g1); have G1 := Lib.hid (below_step HG.out g1)
  clear g1 N1 N2 HG
  cases B4
  · go_wp2_with fail
    go_ret
    exact ⟨ret_bool (by simp), G1.out⟩
  have c4 := box_cell P1.out 4 (.slice wa wn.length wc) rfl
  have d4 := box_cell Q1.out 4 (.slice wa' wn'.length wc') rfl
  go_wp2_with fail
  refine (C2.out _ G1.out).mono ?_; rintro _ w2 ⟨rfl, g2⟩
  have G2 := Lib.hid (below_step G1.out g2); clear g2
  go_wp2_with fail
  go_ret
  exact ⟨ret_bool (by simp), G2.out⟩
end Go.Proofs.YtihohjgjklcnlaaDoor
