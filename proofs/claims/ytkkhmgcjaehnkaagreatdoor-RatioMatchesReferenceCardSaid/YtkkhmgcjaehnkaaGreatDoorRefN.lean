/-
  The reference's Compare, Floor, Round and Clamp: what the package's own answer. Condition: an int's bounds.
-/
import Derived.Test.YtkkhmgcjaehnkaaGreatDoorRefM
namespace Go.Proofs.YtkkhmgcjaehnkaaGreatDoor
open Go.RowKit Go.Shelf

set_option maxHeartbeats 400000 in
theorem refFl_any (n d : Int) (w : World) (n1 : -9000000000000000000 ≤ n) (n2 : n ≤ 9000000000000000000) (d1 : 0 < d) (d2 : d ≤ 9000000000000000000) :
    Calls Tryz.prog 41 #[.int .i64 n, .int .i64 d] w fun e w' => e = .returned (.int .i64 (Ra.flo n d)) ∧ w = w' := by
  have hz : ¬ d = 0 := by omega
  have hq : (n.tdiv d).natAbs ≤ n.natAbs := by rw [Int.natAbs_tdiv]; exact Nat.div_le_self _ _
  have q1 : -9000000000000000000 ≤ n.tdiv d := by omega
  have q2 : n.tdiv d ≤ 9000000000000000000 := by omega
  clear hq
  by_cases h : n.tmod d < 0
  · have hf : Ra.flo n d = n.tdiv d - 1 := by unfold Ra.flo; rw [if_pos h]
    have HF := Lib.hid hf; clear hf
    go_enter Tryz.func41, Tryz.ntmps41
    go_wp2
    go_ret
    exact ⟨ret_int (by rw [HF.out]), rfl⟩
  · have hf : Ra.flo n d = n.tdiv d := by unfold Ra.flo; rw [if_neg h]
    have HF := Lib.hid hf; clear hf
    go_enter Tryz.func41, Tryz.ntmps41
    go_wp2
    go_ret
    exact ⟨ret_int (by rw [HF.out]), rfl⟩

set_option maxRecDepth 100000 in
set_option maxHeartbeats 400000 in
theorem refFloor_any (n d : Int) (w : World) (fa : Fits n ∧ Fits d) :
    Calls Tryz.prog 23 #[ratV n d] w fun e w' => e = .returned (.int .i64 (floorR n d)) ∧ Below w.heap.size w w' := by
  have va := fun w => refValid_any n d w fa.1.1 fa.1.2 fa.2.1 fa.2.2
  have ba := BoxAt.new w n d
  by_cases oa : Ra.Ok n d
  · have hv : floorR n d = Ra.flo n d := if_pos oa
    rw [okB_true oa] at va
    have hq := fun w => refFl_any n d w (by have := oa.2.2.1; omega) (by have := oa.2.2.2.1; omega) (by have := oa.1; omega) (by have := oa.2.1; omega)
    have VA := Lib.hid va; have HV := Lib.hid hv; have HQ := Lib.hid hq; have BA := Lib.hid ba
    clear va ba hv oa fa hq
    have x0 := BA.out.2.1; have x1 := BA.out.2.2
    go_enter Tryz.func23, Tryz.ntmps23
    go_wp2_with fail
    clear x0 x1
    refine (VA.out _).mono ?_; rintro e w1 ⟨rfl, g1⟩
    have l1 := below_step (below_new w _) g1
    obtain ⟨z0, z1, z2⟩ := BA.out.below g1
    go_wp2_with fail
    refine (HQ.out _).mono ?_; rintro e w2 ⟨rfl, rfl⟩
    clear z0 z1 z2
    go_wp2_with fail
    go_ret
    exact ⟨by rw [HV.out]; rfl, l1⟩
  · have hv : floorR n d = 0 := if_neg oa
    rw [okB_false oa] at va
    have VA := Lib.hid va; have HV := Lib.hid hv; have BA := Lib.hid ba
    clear va ba hv oa fa
    have x0 := BA.out.2.1; have x1 := BA.out.2.2
    go_enter Tryz.func23, Tryz.ntmps23
    go_wp2_with fail
    clear x0 x1
    refine (VA.out _).mono ?_; rintro e w1 ⟨rfl, g1⟩
    have l1 := below_step (below_new w _) g1
    go_wp2_with fail
    go_ret
    exact ⟨by rw [HV.out]; rfl, l1⟩

theorem both_no {an ad bn bd : Int} (ho : ¬ (Ra.Ok an ad ∧ Ra.Ok bn bd)) : (okB an ad && okB bn bd) = false := by
  unfold okB; rw [Bool.and_eq_false_iff]
  by_cases oa : Ra.Ok an ad
  · exact .inr (decide_eq_false fun h => ho ⟨oa, h⟩)
  · exact .inl (decide_eq_false oa)

set_option maxRecDepth 100000 in
set_option maxHeartbeats 1000000 in
theorem refCompare_any (an ad bn bd : Int) (w : World) (fa : Fits an ∧ Fits ad) (fb : Fits bn ∧ Fits bd) :
    Calls Tryz.prog 21 #[ratV an ad, ratV bn bd] w fun e w' => e = .returned (.int .i64 (cmpR an ad bn bd)) ∧ Below w.heap.size w w' := by
  have vb := fun w => refBoth_any an ad bn bd w fa fb
  have ba := (BoxAt.new w an ad).below (below_new _ (.cells #[.int .i64 bn, .int .i64 bd] 25))
  have bb := BoxAt.new (w.alloc (.cells #[.int .i64 an, .int .i64 ad] 25)) bn bd
  have l0 : Below w.heap.size w ((w.alloc (.cells #[.int .i64 an, .int .i64 ad] 25)).alloc (.cells #[.int .i64 bn, .int .i64 bd] 25)) := (below_new w _).alloc (by simp) _
  rw [World.size_alloc] at bb
  have BA := Lib.hid ba; have BB := Lib.hid bb; have HL := Lib.hid l0
  clear ba bb l0
  by_cases ho : Ra.Ok an ad ∧ Ra.Ok bn bd
  case neg =>
    have hv : cmpR an ad bn bd = 0 := if_neg ho
    rw [both_no ho] at vb
    rw [hv]
    have VB := Lib.hid vb
    clear vb hv ho fa fb
    have x0 := BA.out.2.1; have x1 := BA.out.2.2; have y0 := BB.out.2.1; have y1 := BB.out.2.2
    go_enter Tryz.func21, Tryz.ntmps21
    go_wp2_with fail
    clear x0 x1 y0 y1
    refine (VB.out _).mono ?_; rintro e w1 ⟨rfl, g1⟩
    have l1 := below_step HL.out g1
    have x0 := (BA.out.below g1).2.1; have x1 := (BA.out.below g1).2.2; have y0 := (BB.out.below g1).2.1; have y1 := (BB.out.below g1).2.2
    go_wp2_with fail
    go_ret
    exact ⟨rfl, l1⟩
  obtain ⟨oa, ob⟩ := ho
  rw [okB_true oa, okB_true ob] at vb
  have hv : cmpR an ad bn bd = if an * bd < bn * ad then -1 else if bn * ad < an * bd then 1 else 0 := if_pos ⟨oa, ob⟩
  have pa := Ra.prod_bd (a := an) (b := bd) oa.2.2.1 oa.2.2.2.1 (by have := ob.1; omega) ob.2.1
  have pb := Ra.prod_bd (a := bn) (b := ad) ob.2.2.1 ob.2.2.2.1 (by have := oa.1; omega) oa.2.1
  have e1 : wrap64 (an * bd) = an * bd := IntWalk.wrap64_in _ ⟨by omega, by omega⟩
  have e2 : wrap64 (bn * ad) = bn * ad := IntWalk.wrap64_in _ ⟨by omega, by omega⟩
  obtain ⟨x, hx⟩ : ∃ x, an * bd = x := ⟨_, rfl⟩
  obtain ⟨y, hy⟩ : ∃ y, bn * ad = y := ⟨_, rfl⟩
  rw [hx, hy] at hv
  rw [hx] at pa; rw [hy] at pb
  have e1' : wrap64 (an * bd) = x := e1.trans hx
  have e2' : wrap64 (bn * ad) = y := e2.trans hy
  rw [hv]
  have VB := Lib.hid vb
  clear vb hv oa ob fa fb e1 e2 hx hy pa pb
  have x0 := BA.out.2.1; have x1 := BA.out.2.2; have y0 := BB.out.2.1; have y1 := BB.out.2.2
  by_cases c1 : x = y
  · subst c1
    rw [if_neg (Int.lt_irrefl _), if_neg (Int.lt_irrefl _)]
    go_enter Tryz.func21, Tryz.ntmps21
    go_wp2_with fail
    clear x0 x1 y0 y1
    refine (VB.out _).mono ?_; rintro e w1 ⟨rfl, g1⟩
    have l1 := below_step HL.out g1
    have x0 := (BA.out.below g1).2.1; have x1 := (BA.out.below g1).2.2; have y0 := (BB.out.below g1).2.1; have y1 := (BB.out.below g1).2.2
    go_wp2_with fail
    go_ret
    exact ⟨rfl, l1⟩
  · have h1 : ((x : Int) == y) = false := by rw [beq_eq_false_iff_ne]; exact c1
    by_cases c2 : x < y
    · have h2 : decide (x < y) = true := decide_eq_true c2
      rw [if_pos c2]
      clear c1
      go_enter Tryz.func21, Tryz.ntmps21
      go_wp2_with fail
      clear x0 x1 y0 y1
      refine (VB.out _).mono ?_; rintro e w1 ⟨rfl, g1⟩
      have l1 := below_step HL.out g1
      have x0 := (BA.out.below g1).2.1; have x1 := (BA.out.below g1).2.2; have y0 := (BB.out.below g1).2.1; have y1 := (BB.out.below g1).2.2
      go_wp2_with fail
      go_ret
      exact ⟨rfl, l1⟩
    · have h2 : decide (x < y) = false := decide_eq_false c2
      rw [if_neg c2, if_pos (by omega)]
      clear c1
      go_enter Tryz.func21, Tryz.ntmps21
      go_wp2_with fail
      clear x0 x1 y0 y1
      refine (VB.out _).mono ?_; rintro e w1 ⟨rfl, g1⟩
      have l1 := below_step HL.out g1
      have x0 := (BA.out.below g1).2.1; have x1 := (BA.out.below g1).2.2; have y0 := (BB.out.below g1).2.1; have y1 := (BB.out.below g1).2.2
      go_wp2_with fail
      go_ret
      exact ⟨rfl, l1⟩

/-- The boxes of an argument and of the result. -/
structure OneBox (w : World) (an ad : Int) (w' : World) : Prop where
  a : BoxAt w' w.heap.size an ad
  r : BoxAt w' (w.heap.size + 1) 0 0
  fr : ∀ o, w'.frozen? ⟨w.heap.size + 1, o, none⟩ = false
  bel : Below w.heap.size w w'
theorem OneBox.step {w : World} {an ad : Int} {w1 w2 : World} (h : OneBox w an ad w1) (hb : Below w1.heap.size w1 w2) : OneBox w an ad w2 :=
  ⟨h.a.below hb, h.r.below hb, fun o => (hb.frozen (p := ⟨w.heap.size + 1, o, none⟩) h.r.1).trans (h.fr o), below_step h.bel hb⟩
theorem OneBox.new (w : World) (an ad : Int) : OneBox w an ad ((w.alloc (.cells #[.int .i64 an, .int .i64 ad] 25)).alloc (.cells #[.int .i64 0, .int .i64 0] 25)) := by
  have b1 := BoxAt.new (w.alloc (.cells #[.int .i64 an, .int .i64 ad] 25)) 0 0
  simp only [World.size_alloc] at b1
  exact ⟨(BoxAt.new w an ad).below (below_new _ _), b1, fun o => by simp [go_sem], below_step (below_new _ _) (below_new _ _)⟩

set_option maxRecDepth 100000 in
set_option maxHeartbeats 1000000 in
theorem refRound_any (n q d : Int) (w : World) (fa : Fits n ∧ Fits q) :
    Calls Tryz.prog 17 #[ratV n q, .int .i64 d] w fun e w' => e = .returned (ratRes (roundR n q d)) ∧ Below w.heap.size w w' := by
  have va := fun w => refValid_any n q w fa.1.1 fa.1.2 fa.2.1 fa.2.2
  have T0 := Lib.hid (OneBox.new w n q)
  have a0 := T0.out.a.2.1; have a1 := T0.out.a.2.2
  by_cases ho : Ra.Ok n q
  case neg =>
    have hv : ratRes (roundR n q d) = .tuple #[ratV 0 0, .int .i64 30] := by unfold roundR; rw [if_neg (fun h => ho h.1)]; rfl
    rw [okB_false ho] at va
    rw [hv]
    have VA := Lib.hid va; clear va hv ho fa
    go_enter Tryz.func17, Tryz.ntmps17
    go_wp2_with fail
    clear a0 a1
    refine (VA.out _).mono ?_; rintro e w1 ⟨rfl, g1⟩
    have R1 := T0.out.step g1
    have r2 := R1.r.2.1; have r3 := R1.r.2.2; have f0 := R1.fr 0; have f1 := R1.fr 1
    go_wp2_with fail
    refine bodyPost_ret (v := .tuple #[ratV 0 0, .int .i64 30]) (by simp [results, Tryz.results17, go_sem, r2, r3]) rfl ⟨rfl, ?_⟩
    exact (R1.bel.setCell (by simp) _).setCell (by simp) _
  rw [okB_true ho] at va
  have VA := Lib.hid va; clear va
  by_cases hd0 : 1 ≤ d
  case neg =>
    have hv : ratRes (roundR n q d) = .tuple #[ratV 0 0, .int .i64 30] := by unfold roundR; rw [if_neg (fun h => hd0 h.2.1)]; rfl
    have h1 : decide (d < 1) = true := by simp; omega
    rw [hv]
    clear hv ho fa hd0
    go_enter Tryz.func17, Tryz.ntmps17
    go_wp2_with fail
    clear a0 a1
    refine (VA.out _).mono ?_; rintro e w1 ⟨rfl, g1⟩
    have R1 := T0.out.step g1
    have r2 := R1.r.2.1; have r3 := R1.r.2.2; have f0 := R1.fr 0; have f1 := R1.fr 1
    go_wp2_with fail
    refine bodyPost_ret (v := .tuple #[ratV 0 0, .int .i64 30]) (by simp [results, Tryz.results17, go_sem, r2, r3]) rfl ⟨rfl, ?_⟩
    exact (R1.bel.setCell (by simp) _).setCell (by simp) _
  have h1 : decide (d < 1) = false := by simp; omega
  by_cases hd1 : d ≤ 1000000000
  case neg =>
    have hv : ratRes (roundR n q d) = .tuple #[ratV 0 0, .int .i64 30] := by unfold roundR; rw [if_neg (fun h => hd1 h.2.2)]; rfl
    have h2 : decide (1000000000 < d) = true := by simp; omega
    rw [hv]
    clear hv ho fa hd0 hd1
    go_enter Tryz.func17, Tryz.ntmps17
    go_wp2_with fail
    clear a0 a1
    refine (VA.out _).mono ?_; rintro e w1 ⟨rfl, g1⟩
    have R1 := T0.out.step g1
    have r2 := R1.r.2.1; have r3 := R1.r.2.2; have f0 := R1.fr 0; have f1 := R1.fr 1
    go_wp2_with fail
    refine bodyPost_ret (v := .tuple #[ratV 0 0, .int .i64 30]) (by simp [results, Tryz.results17, go_sem, r2, r3]) rfl ⟨rfl, ?_⟩
    exact (R1.bel.setCell (by simp) _).setCell (by simp) _
  have h2 : decide (1000000000 < d) = false := by simp; omega
  have hv : roundR n q d = Ra.red (Ra.rnd n q d) d := if_pos ⟨ho, hd0, hd1⟩
  obtain ⟨b1, b2, b3, b4, -⟩ := ho
  obtain ⟨p1, q1⟩ := Ra.prod_bd (a := n) (b := d) (by omega) (by omega) (by omega) (by omega)
  have p2 : 2 * n * d = 2 * (n * d) := Int.mul_assoc _ _ _
  have e1 : wrap64 (2 * n) = 2 * n := IntWalk.wrap64_in _ ⟨by omega, by omega⟩
  have e2 : wrap64 (2 * n * d) = 2 * n * d := IntWalk.wrap64_in _ ⟨by omega, by omega⟩
  have e3 : wrap64 (2 * n * d + q) = 2 * n * d + q := IntWalk.wrap64_in _ ⟨by omega, by omega⟩
  have e4 : wrap64 (2 * q) = 2 * q := IntWalk.wrap64_in _ ⟨by omega, by omega⟩
  have hq : ∀ w, Calls Tryz.prog 41 #[.int .i64 (2 * n * d + q), .int .i64 (2 * q)] w fun e w' => e = .returned (.int .i64 (Ra.rnd n q d)) ∧ w = w' := fun w => refFl_any _ _ w (by omega) (by omega) (by omega) (by omega)
  obtain ⟨r1, r2⟩ := flo_abs (n := 2 * n * d + q) (d := 2 * q)
  have r1' : _ ≤ Ra.rnd n q d := r1
  have r2' : Ra.rnd n q d ≤ _ := r2
  obtain ⟨P, Q, X, hx, hm⟩ := refMake_gen (Ra.rnd n q d) d ⟨by omega, by omega⟩ ⟨by omega, by omega⟩
  rw [hv, hx]
  generalize Ra.rnd n q d = K at hq hm
  have HQ := Lib.hid hq; have HM := Lib.hid hm
  clear hq hm hx hv r1 r2 r1' r2' p1 q1 p2 fa
  have E1 := Lib.hid e1; have E2 := Lib.hid e2; have E3 := Lib.hid e3; have E4 := Lib.hid e4
  clear e1 e2 e3 e4
  go_enter Tryz.func17, Tryz.ntmps17
  go_wp2_with fail
  clear a0 a1
  refine (VA.out _).mono ?_; rintro e w1 ⟨rfl, g1⟩
  have R1 := Lib.hid (T0.out.step g1)
  have a0 := R1.out.a.2.1; have a1 := R1.out.a.2.2
  have e1 := E1.out; have e2 := E2.out; have e3 := E3.out; have e4 := E4.out
  go_wp2_with fail
  clear a0 a1 e1 e2 e3 e4
  refine (HQ.out _).mono ?_; rintro e w2 ⟨rfl, rfl⟩
  go_wp2_with fail
  refine (HM.out _).mono ?_; rintro e w3 ⟨rfl, g3⟩
  have R2 := R1.out.step g3
  have r2 := R2.r.2.1; have r3 := R2.r.2.2; have f0 := R2.fr 0; have f1 := R2.fr 1
  go_wp2_with fail
  refine bodyPost_ret (v := .tuple #[ratV P Q, .int .i64 X]) (by simp [results, Tryz.results17, go_sem, r2, r3]) rfl ⟨rfl, ?_⟩
  exact (R2.bel.setCell (by simp) _).setCell (by simp) _

set_option maxRecDepth 100000 in
set_option maxHeartbeats 1000000 in
theorem refClamp_any (an ad ln ld hn hd : Int) (w : World) (fa : Fits an ∧ Fits ad) (fl : Fits ln ∧ Fits ld) (fh : Fits hn ∧ Fits hd) :
    Calls Tryz.prog 25 #[ratV an ad, ratV ln ld, ratV hn hd] w fun e w' => e = .returned (ratV (clampR an ad ln ld hn hd).1 (clampR an ad ln ld hn hd).2) ∧ Below w.heap.size w w' := by
  have va := fun w => refBoth_any an ad ln ld w fa fl
  have vh := fun w => refValid_any hn hd w fh.1.1 fh.1.2 fh.2.1 fh.2.2
  have c1 := fun w => refCompare_any an ad ln ld w fa fl
  have c2 := fun w => refCompare_any an ad hn hd w fa fh
  have R0 := Lib.hid (ClampAt.new w an ad ln ld hn hd)
  have a0 := R0.out.a.2.1; have a1 := R0.out.a.2.2; have l0 := R0.out.l.2.1; have l1 := R0.out.l.2.2
  clear fa fl fh
  by_cases oal : Ra.Ok an ad ∧ Ra.Ok ln ld
  case neg =>
    have hv : clampR an ad ln ld hn hd = (0, 0) := if_neg fun h => oal ⟨h.1, h.2.1⟩
    rw [hv]
    rw [both_no oal] at va
    have VA := Lib.hid va; have VH := Lib.hid vh
    clear va vh c1 c2 hv oal
    go_enter Tryz.func25, Tryz.ntmps25
    go_wp2_with fail
    clear a0 a1 l0 l1
    refine (VA.out _).mono ?_; rintro e w1 ⟨rfl, g1⟩
    have R1 := Lib.hid (R0.out.step g1)
    have h0 := R1.out.h.2.1; have h1 := R1.out.h.2.2
    go_wp2_with fail
    clear h0 h1
    refine (VH.out _).mono ?_; rintro e w2 ⟨rfl, g2⟩
    have R2 := Lib.hid (R1.out.step g2)
    have a0 := R2.out.a.2.1; have a1 := R2.out.a.2.2; have l0 := R2.out.l.2.1; have l1 := R2.out.l.2.2; have h0 := R2.out.h.2.1; have h1 := R2.out.h.2.2
    have r2 := R2.out.r.2.1; have r3 := R2.out.r.2.2; have f0 := R2.out.fr 0; have f1 := R2.out.fr 1
    go_wp2_with fail
    refine bodyPost_ret (v := ratV 0 0) (by simp [results, Tryz.results25, go_sem, r2, r3]) rfl ⟨rfl, ?_⟩
    exact (R2.out.bel.setCell (by simp; omega) _).setCell (by simp; omega) _
  rw [okB_true oal.1, okB_true oal.2] at va
  by_cases oh : Ra.Ok hn hd
  case neg =>
    have hv : clampR an ad ln ld hn hd = (0, 0) := if_neg fun h => oh h.2.2
    rw [hv]
    rw [okB_false oh] at vh
    have VA := Lib.hid va; have VH := Lib.hid vh
    clear va vh c1 c2 hv oal oh
    go_enter Tryz.func25, Tryz.ntmps25
    go_wp2_with fail
    clear a0 a1 l0 l1
    refine (VA.out _).mono ?_; rintro e w1 ⟨rfl, g1⟩
    have R1 := Lib.hid (R0.out.step g1)
    have h0 := R1.out.h.2.1; have h1 := R1.out.h.2.2
    go_wp2_with fail
    clear h0 h1
    refine (VH.out _).mono ?_; rintro e w2 ⟨rfl, g2⟩
    have R2 := Lib.hid (R1.out.step g2)
    have a0 := R2.out.a.2.1; have a1 := R2.out.a.2.2; have l0 := R2.out.l.2.1; have l1 := R2.out.l.2.2; have h0 := R2.out.h.2.1; have h1 := R2.out.h.2.2
    have r2 := R2.out.r.2.1; have r3 := R2.out.r.2.2; have f0 := R2.out.fr 0; have f1 := R2.out.fr 1
    go_wp2_with fail
    refine bodyPost_ret (v := ratV 0 0) (by simp [results, Tryz.results25, go_sem, r2, r3]) rfl ⟨rfl, ?_⟩
    exact (R2.out.bel.setCell (by simp; omega) _).setCell (by simp; omega) _
  rw [okB_true oh] at vh
  have VA := Lib.hid va; have VH := Lib.hid vh
  have hv : clampR an ad ln ld hn hd = if cmpR an ad ln ld < 0 then (ln, ld) else if 0 < cmpR an ad hn hd then (hn, hd) else (an, ad) := if_pos ⟨oal.1, oal.2, oh⟩
  rw [hv]
  generalize cmpR an ad ln ld = C at c1 ⊢
  generalize cmpR an ad hn hd = D at c2 ⊢
  have C1 := Lib.hid c1; have C2 := Lib.hid c2
  clear va vh c1 c2 hv oal oh
  by_cases k1 : C < 0
  · rw [if_pos k1]
    have k1' : decide (C < 0) = true := decide_eq_true k1
    go_enter Tryz.func25, Tryz.ntmps25
    go_wp2_with fail
    clear a0 a1 l0 l1
    refine (VA.out _).mono ?_; rintro e w1 ⟨rfl, g1⟩
    have R1 := Lib.hid (R0.out.step g1)
    have h0 := R1.out.h.2.1; have h1 := R1.out.h.2.2
    go_wp2_with fail
    clear h0 h1
    refine (VH.out _).mono ?_; rintro e w2 ⟨rfl, g2⟩
    have R2 := Lib.hid (R1.out.step g2)
    have a0 := R2.out.a.2.1; have a1 := R2.out.a.2.2; have l0 := R2.out.l.2.1; have l1 := R2.out.l.2.2
    go_wp2_with fail
    clear a0 a1 l0 l1
    refine (C1.out _).mono ?_; rintro e w3 ⟨rfl, g3⟩
    have R3 := Lib.hid (R2.out.step g3)
    have a0 := R3.out.a.2.1; have a1 := R3.out.a.2.2; have l0 := R3.out.l.2.1; have l1 := R3.out.l.2.2; have h0 := R3.out.h.2.1; have h1 := R3.out.h.2.2
    have r2 := R3.out.r.2.1; have r3 := R3.out.r.2.2; have f0 := R3.out.fr 0; have f1 := R3.out.fr 1
    go_wp2_with fail
    refine bodyPost_ret (v := ratV ln ld) (by simp [results, Tryz.results25, go_sem, r2, r3]) rfl ⟨rfl, ?_⟩
    exact (R3.out.bel.setCell (by simp; omega) _).setCell (by simp; omega) _
  rw [if_neg k1]
  have k1' : decide (C < 0) = false := decide_eq_false k1
  by_cases k2 : 0 < D
  · rw [if_pos k2]
    have k2' : decide (0 < D) = true := decide_eq_true k2
    go_enter Tryz.func25, Tryz.ntmps25
    go_wp2_with fail
    clear a0 a1 l0 l1
    refine (VA.out _).mono ?_; rintro e w1 ⟨rfl, g1⟩
    have R1 := Lib.hid (R0.out.step g1)
    have h0 := R1.out.h.2.1; have h1 := R1.out.h.2.2
    go_wp2_with fail
    clear h0 h1
    refine (VH.out _).mono ?_; rintro e w2 ⟨rfl, g2⟩
    have R2 := Lib.hid (R1.out.step g2)
    have a0 := R2.out.a.2.1; have a1 := R2.out.a.2.2; have l0 := R2.out.l.2.1; have l1 := R2.out.l.2.2
    go_wp2_with fail
    clear a0 a1 l0 l1
    refine (C1.out _).mono ?_; rintro e w3 ⟨rfl, g3⟩
    have R3 := Lib.hid (R2.out.step g3)
    have a0 := R3.out.a.2.1; have a1 := R3.out.a.2.2; have h0 := R3.out.h.2.1; have h1 := R3.out.h.2.2
    go_wp2_with fail
    clear a0 a1 h0 h1
    refine (C2.out _).mono ?_; rintro e w4 ⟨rfl, g4⟩
    have R4 := Lib.hid (R3.out.step g4)
    have a0 := R4.out.a.2.1; have a1 := R4.out.a.2.2; have l0 := R4.out.l.2.1; have l1 := R4.out.l.2.2; have h0 := R4.out.h.2.1; have h1 := R4.out.h.2.2
    have r2 := R4.out.r.2.1; have r3 := R4.out.r.2.2; have f0 := R4.out.fr 0; have f1 := R4.out.fr 1
    go_wp2_with fail
    refine bodyPost_ret (v := ratV hn hd) (by simp [results, Tryz.results25, go_sem, r2, r3]) rfl ⟨rfl, ?_⟩
    exact (R4.out.bel.setCell (by simp; omega) _).setCell (by simp; omega) _
  rw [if_neg k2]
  have k2' : decide (0 < D) = false := decide_eq_false k2
  go_enter Tryz.func25, Tryz.ntmps25
  go_wp2_with fail
  clear a0 a1 l0 l1
  refine (VA.out _).mono ?_; rintro e w1 ⟨rfl, g1⟩
  have R1 := Lib.hid (R0.out.step g1)
  have h0 := R1.out.h.2.1; have h1 := R1.out.h.2.2
  go_wp2_with fail
  clear h0 h1
  refine (VH.out _).mono ?_; rintro e w2 ⟨rfl, g2⟩
  have R2 := Lib.hid (R1.out.step g2)
  have a0 := R2.out.a.2.1; have a1 := R2.out.a.2.2; have l0 := R2.out.l.2.1; have l1 := R2.out.l.2.2
  go_wp2_with fail
  clear a0 a1 l0 l1
  refine (C1.out _).mono ?_; rintro e w3 ⟨rfl, g3⟩
  have R3 := Lib.hid (R2.out.step g3)
  have a0 := R3.out.a.2.1; have a1 := R3.out.a.2.2; have h0 := R3.out.h.2.1; have h1 := R3.out.h.2.2
  go_wp2_with fail
  clear a0 a1 h0 h1
  refine (C2.out _).mono ?_; rintro e w4 ⟨rfl, g4⟩
  have R4 := Lib.hid (R3.out.step g4)
  have a0 := R4.out.a.2.1; have a1 := R4.out.a.2.2; have l0 := R4.out.l.2.1; have l1 := R4.out.l.2.2; have h0 := R4.out.h.2.1; have h1 := R4.out.h.2.2
  have r2 := R4.out.r.2.1; have r3 := R4.out.r.2.2; have f0 := R4.out.fr 0; have f1 := R4.out.fr 1
  go_wp2_with fail
  refine bodyPost_ret (v := ratV an ad) (by simp [results, Tryz.results25, go_sem, r2, r3]) rfl ⟨rfl, ?_⟩
  exact (R4.out.bel.setCell (by simp; omega) _).setCell (by simp; omega) _
end Go.Proofs.YtkkhmgcjaehnkaaGreatDoor
