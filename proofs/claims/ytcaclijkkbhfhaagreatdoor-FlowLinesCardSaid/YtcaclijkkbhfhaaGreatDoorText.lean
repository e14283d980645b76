/-
  Contracts of joined at steps and at windows, text and Print (written by tools/l04_text.py).
-/
import Derived.Test.YtcaclijkkbhfhaaGreatDoorLines
namespace Go.Proofs.YtcaclijkkbhfhaaGreatDoor
open Go.RowKit Go.Shelf

theorem StepsA.okAt {w : World} {a : Option Addr} {c : Nat} {P : List StepP} (h : StepsA w a c P) (i : Nat) (hi : i < P.length) : P[i].ok w := by
  obtain ⟨_, _, _, _, _, h1⟩ := h.2.2 i hi; exact h1

set_option maxRecDepth 100000 in
set_option maxHeartbeats 2000000 in
theorem joinedStep_any (P : List StepP) (a : Option Addr) (c : Nat) (w : World) (t : Addr) (ht : Tab t w) (hA : StepsA w a c P) (hL : P.length ≤ 100) (hs : ∀ p ∈ P, Fl.StepOk 40 p.s) :
    Calls Tryz.prog 54 #[.slice a P.length c, .string (bs []), .func (.func 55) #[] #[]] w fun e w' => e = .returned (.string (bs (Fl.stepShow (stepsOf P)).flatten)) ∧ Below w.heap.size w w' := by
  have HA := Lib.hid hA; have HT := Lib.hid ht
  have hlen : P.length ≤ 100 := hL
  have HN := Lib.hid (show (Fl.stepShow (stepsOf P)).length = P.length by rw [Fl.stepShow_length]; simp)
  have HM : ∀ l ∈ Fl.stepShow (stepsOf P), l.length ≤ 1000 := by
    intro l hl
    obtain ⟨i, hi, rfl⟩ := List.getElem_of_mem hl
    rw [Fl.stepShow_length] at hi
    rw [Fl.stepShow_get _ _ hi]
    have hi' : i < P.length := by simpa using hi
    exact Fl.stepLine_len ⟨by omega, by omega⟩ (c := 40) (by decide) (by simp; exact hs _ (List.getElem_mem hi'))
  have HS := Lib.hid hs; clear hs
  have HL : Hid (∀ k, (Lib.join ((Fl.stepShow (stepsOf P)).take k) []).length ≤ 100000) := Lib.hid fun k => by
    rw [Fl.join_flat]
    have h1 := Fl.flatten_len (m := 1000) (ls := (Fl.stepShow (stepsOf P)).take k) (fun l hl => HM l (List.mem_of_mem_take hl))
    have h2 : ((Fl.stepShow (stepsOf P)).take k).length ≤ 100 := by rw [List.length_take, HN.out]; omega
    have : ((Fl.stepShow (stepsOf P)).take k).length * 1000 ≤ 100 * 1000 := Nat.mul_le_mul h2 (by decide)
    omega
  have B0 := Lib.hid (BldAt.new w)
  clear hA ht hL HM
  go_enter Tryz.func54, Tryz.ntmps54
  go_wp2_with fail
  go_loopw [12] (fun i wr => ∃ k : Nat, k ≤ P.length ∧ i = .int .i64 (k : Int) ∧ Below w.heap.size w wr ∧ Hid (BldAt w.heap.size (Lib.join ((Fl.stepShow (stepsOf P)).take k) []) wr)) (fun i _ => P.length - (intOf i).toNat)
  case atStart => exact ⟨0, Nat.zero_le _, rfl, below_new _ _, B0⟩
  case round =>
    obtain ⟨k, hk, rfl, hb, hbld⟩ := hrel
    by_cases hlt : k < P.length
    · have HJ := Lib.hid (join_take_succ (Fl.stepShow (stepsOf P)) [] k (by rw [HN.out]; exact hlt))
      have hpk := HA.out.okAt k hlt
      obtain ⟨b, off, rfl, hbb, ⟨c0, c1, c2, c3, c4, c5, c6⟩, _⟩ := (HA.out.below hb).2.2 k hlt
      have hg : (Fl.stepShow (stepsOf P))[k]'(by rw [HN.out]; exact hlt) = Fl.line (Fl.stepWords k P[k].s) := by rw [Fl.stepShow_get _ _ (by simpa using hlt)]; simp
      rw [hg] at HJ
      have hso := HS.out P[k] (List.getElem_mem hlt)
      have hxl : (Fl.line (Fl.stepWords k P[k].s)).length ≤ 1000 := Fl.stepLine_len ⟨by omega, by omega⟩ (c := 40) (by decide) hso
      have CL := Lib.hid (fun w' ht (hpp : (P[k]'hlt).ok w') => stepLine_any k (P[k]'hlt) w' t ht hpp hso ⟨by omega, by omega⟩)
      have PK := Lib.hid hpk
      clear hg hso hpk
      generalize P[k] = p at *
      have TR := Lib.hid (HT.out.below hb)
      have HB := Lib.hid hb
      have hl0 := HL.out k
      have HLS := Lib.hid (And.intro hl0 hxl)
      clear hb hl0 hxl
      rcases Nat.eq_zero_or_pos k with rfl | hpos
      · rw [if_pos rfl] at HJ
        have z0 : ((0 : Nat) : Int) = 0 := rfl
        rw [z0] at HJ HLS CL
        clear z0
        have e0 : Lib.join ((Fl.stepShow (stepsOf P)).take 0) [] = [] := rfl
        have BL := Lib.hid (show BldAt w.heap.size [] wr by have := hbld.out; rwa [e0] at this)
        simp only [Nat.zero_mul, Nat.add_zero] at c0 c1 c2 c3 c4 c5 c6
        clear hbld e0
        go_wp2_with fail
        have BL := Lib.hid (BL.out.below (below_new wr (.cells #[.int .i64 p.s.recipe, .slice p.ta p.s.tools.length p.tc, .int .i64 p.s.least, .int .i64 p.s.most, .slice p.na p.s.next.length p.nc, .int .i64 p.s.back, .int .i64 p.s.limit] 55)))
        have L0 := Lib.hid (below_step HB.out (below_new wr (.cells #[.int .i64 p.s.recipe, .slice p.ta p.s.tools.length p.tc, .int .i64 p.s.least, .int .i64 p.s.most, .slice p.na p.s.next.length p.nc, .int .i64 p.s.back, .int .i64 p.s.limit] 55)))
        have T0 := Lib.hid (TR.out.below (below_new wr (.cells #[.int .i64 p.s.recipe, .slice p.ta p.s.tools.length p.tc, .int .i64 p.s.least, .int .i64 p.s.most, .slice p.na p.s.next.length p.nc, .int .i64 p.s.back, .int .i64 p.s.limit] 55)))
        have HZ := Lib.hid (Nat.le_of_lt (show wr.heap.size < (wr.alloc (.cells #[.int .i64 p.s.recipe, .slice p.ta p.s.tools.length p.tc, .int .i64 p.s.least, .int .i64 p.s.most, .slice p.na p.s.next.length p.nc, .int .i64 p.s.back, .int .i64 p.s.limit] 55)).heap.size by simp))
        refine (CL.out _ T0.out (PK.out.below L0.out)).mono ?_; rintro e w1 ⟨rfl, g1⟩
        have B1 := Lib.hid (BL.out.below g1); have L1 := Lib.hid (below_step L0.out g1); clear g1
        go_wp2_with fail
        refine (write_any _ _ _ _ B1.out (by have := HLS.out.2; simp only [List.length_nil, Nat.zero_add]; omega) L1.out.size).mono ?_; rintro e w2 ⟨rfl, b2, g2, -⟩
        have B2 := Lib.hid b2; have L2 := Lib.hid (L1.out.trans g2); clear b2 g2
        go_wp2_with fail
        go_roundw
        case rel => exact ⟨1, by omega, rfl, L2.out, Lib.hid (by rw [HJ.out]; exact B2.out)⟩
        case measure => simp [intOf]; omega
      · rw [if_neg (by omega)] at HJ
        have hp : decide ((0 : Int) < (k : Int)) = true := decide_eq_true (by omega)
        go_wp2_with fail
        have L0 := Lib.hid (below_step HB.out (below_new wr (.cells #[.int .i64 p.s.recipe, .slice p.ta p.s.tools.length p.tc, .int .i64 p.s.least, .int .i64 p.s.most, .slice p.na p.s.next.length p.nc, .int .i64 p.s.back, .int .i64 p.s.limit] 55)))
        have bl := hbld.out.below (below_new wr (.cells #[.int .i64 p.s.recipe, .slice p.ta p.s.tools.length p.tc, .int .i64 p.s.least, .int .i64 p.s.most, .slice p.na p.s.next.length p.nc, .int .i64 p.s.back, .int .i64 p.s.limit] 55))
        have hbx := heap_alloc_new wr (.cells #[.int .i64 p.s.recipe, .slice p.ta p.s.tools.length p.tc, .int .i64 p.s.least, .int .i64 p.s.most, .slice p.na p.s.next.length p.nc, .int .i64 p.s.back, .int .i64 p.s.limit] 55)
        have hbs : w.heap.size < wr.heap.size := hbld.out.lt
        refine (write_any _ _ _ _ bl (by have := HLS.out.1; simp; omega) L0.out.size).mono ?_; rintro e w0 ⟨rfl, b0, g0, o0⟩
        have BM := Lib.hid b0; have L0 := Lib.hid (L0.out.trans g0); have T0 := Lib.hid (HT.out.below L0.out)
        have hk0 := o0 _ _ hbx (by intro e0; injection e0 with e0; omega) (fun cs fz e0 => by injection e0 with _ e1; exact absurd e1 (by decide))
        have y0 := box_cell hk0 0 (.int .i64 p.s.recipe) rfl
        have y1 := box_cell hk0 1 (.slice p.ta p.s.tools.length p.tc) rfl
        have y2 := box_cell hk0 2 (.int .i64 p.s.least) rfl
        have y3 := box_cell hk0 3 (.int .i64 p.s.most) rfl
        have y4 := box_cell hk0 4 (.slice p.na p.s.next.length p.nc) rfl
        have y5 := box_cell hk0 5 (.int .i64 p.s.back) rfl
        have y6 := box_cell hk0 6 (.int .i64 p.s.limit) rfl
        clear b0 g0 o0 hbx hbs bl hk0
        go_wp2_with fail
        clear y0 y1 y2 y3 y4 y5 y6
        refine (CL.out _ T0.out (PK.out.below L0.out)).mono ?_; rintro e w1 ⟨rfl, g1⟩
        have B1 := Lib.hid (BM.out.below g1); have L1 := Lib.hid (below_step L0.out g1); clear g1
        go_wp2_with fail
        refine (write_any _ _ _ _ B1.out (by have := HLS.out; simp; omega) L1.out.size).mono ?_; rintro e w2 ⟨rfl, b2, g2, -⟩
        have B2 := Lib.hid b2; have L2 := Lib.hid (L1.out.trans g2); clear b2 g2
        go_wp2_with fail
        go_roundw
        case rel => exact ⟨k + 1, by omega, by go_num, L2.out, Lib.hid (by rw [HJ.out]; exact B2.out)⟩
        case measure => simp [intOf]; omega
    · have hke : k = P.length := by omega
      subst hke
      have HB := Lib.hid hb
      have BL := Lib.hid (show BldAt w.heap.size (Fl.stepShow (stepsOf P)).flatten wr by
        have := hbld.out
        rw [show (Fl.stepShow (stepsOf P)).take P.length = Fl.stepShow (stepsOf P) by rw [← HN.out, List.take_length], Fl.join_flat] at this
        exact this)
      clear hb hbld
      go_wp2_with fail
      refine (build_any _ _ _ BL.out HB.out.size).mono ?_; rintro e w2 ⟨rfl, g2⟩
      have L2 := Lib.hid (HB.out.trans g2); clear g2
      go_wp2_with fail
      go_ret
      exact ⟨rfl, L2.out⟩

set_option maxRecDepth 100000 in
set_option maxHeartbeats 2000000 in
theorem joinedWin_any (Q : List Fl.Win) (a : Option Addr) (c : Nat) (w : World) (t : Addr) (ht : Tab t w) (hA : WinsA w a c Q) (hL : Q.length ≤ 100) (hs : ∀ v ∈ Q, Fl.vWin 40 v = true) :
    Calls Tryz.prog 56 #[.slice a Q.length c, .string (bs []), .func (.func 57) #[] #[]] w fun e w' => e = .returned (.string (bs (Q.map fun v => Fl.line (Fl.winWords v)).flatten)) ∧ Below w.heap.size w w' := by
  have HA := Lib.hid hA; have HT := Lib.hid ht
  have hlen : Q.length ≤ 100 := hL
  have HN := Lib.hid (show (Q.map fun v => Fl.line (Fl.winWords v)).length = Q.length by simp)
  have HM : ∀ l ∈ (Q.map fun v => Fl.line (Fl.winWords v)), l.length ≤ 1000 := by
    intro l hl
    obtain ⟨v, hv, rfl⟩ := List.mem_map.1 hl
    exact Fl.winLine_len (c := 40) (by decide) (hs v hv)
  have HS := Lib.hid hs; clear hs
  have HL : Hid (∀ k, (Lib.join ((Q.map fun v => Fl.line (Fl.winWords v)).take k) []).length ≤ 100000) := Lib.hid fun k => by
    rw [Fl.join_flat]
    have h1 := Fl.flatten_len (m := 1000) (ls := (Q.map fun v => Fl.line (Fl.winWords v)).take k) (fun l hl => HM l (List.mem_of_mem_take hl))
    have h2 : ((Q.map fun v => Fl.line (Fl.winWords v)).take k).length ≤ 100 := by rw [List.length_take, HN.out]; omega
    have : ((Q.map fun v => Fl.line (Fl.winWords v)).take k).length * 1000 ≤ 100 * 1000 := Nat.mul_le_mul h2 (by decide)
    omega
  have B0 := Lib.hid (BldAt.new w)
  clear hA ht hL HM
  go_enter Tryz.func56, Tryz.ntmps56
  go_wp2_with fail
  go_loopw [12] (fun i wr => ∃ k : Nat, k ≤ Q.length ∧ i = .int .i64 (k : Int) ∧ Below w.heap.size w wr ∧ Hid (BldAt w.heap.size (Lib.join ((Q.map fun v => Fl.line (Fl.winWords v)).take k) []) wr)) (fun i _ => Q.length - (intOf i).toNat)
  case atStart => exact ⟨0, Nat.zero_le _, rfl, below_new _ _, B0⟩
  case round =>
    obtain ⟨k, hk, rfl, hb, hbld⟩ := hrel
    by_cases hlt : k < Q.length
    · have HJ := Lib.hid (join_take_succ (Q.map fun v => Fl.line (Fl.winWords v)) [] k (by rw [HN.out]; exact hlt))
      obtain ⟨b, off, rfl, hbb, ⟨c0, c1, c2⟩⟩ := (HA.out.below hb).2.2 k hlt
      have hg : (Q.map fun v => Fl.line (Fl.winWords v))[k]'(by rw [HN.out]; exact hlt) = Fl.line (Fl.winWords Q[k]) := by simp
      rw [hg] at HJ
      have hso := HS.out Q[k] (List.getElem_mem hlt)
      have hxl : (Fl.line (Fl.winWords Q[k])).length ≤ 1000 := Fl.winLine_len (c := 40) (by decide) hso
      have CL := Lib.hid (fun w' ht => windowLine_any k Q[k] w' t ht hso)
      clear hg hso
      generalize Q[k] = v at *
      have TR := Lib.hid (HT.out.below hb)
      have HB := Lib.hid hb
      have hl0 := HL.out k
      have HLS := Lib.hid (And.intro hl0 hxl)
      clear hb hl0 hxl
      rcases Nat.eq_zero_or_pos k with rfl | hpos
      · rw [if_pos rfl] at HJ
        have z0 : ((0 : Nat) : Int) = 0 := rfl
        rw [z0] at CL
        clear z0
        have e0 : Lib.join ((Q.map fun v => Fl.line (Fl.winWords v)).take 0) [] = [] := rfl
        have BL := Lib.hid (show BldAt w.heap.size [] wr by have := hbld.out; rwa [e0] at this)
        simp only [Nat.zero_mul, Nat.add_zero] at c0 c1 c2
        clear hbld e0
        go_wp2_with fail
        have BL := Lib.hid (BL.out.below (below_new wr (.cells #[.int .i64 v.src, .int .i64 v.dst, .int .i64 v.limit] 58)))
        have L0 := Lib.hid (below_step HB.out (below_new wr (.cells #[.int .i64 v.src, .int .i64 v.dst, .int .i64 v.limit] 58)))
        have T0 := Lib.hid (TR.out.below (below_new wr (.cells #[.int .i64 v.src, .int .i64 v.dst, .int .i64 v.limit] 58)))
        have HZ := Lib.hid (Nat.le_of_lt (show wr.heap.size < (wr.alloc (.cells #[.int .i64 v.src, .int .i64 v.dst, .int .i64 v.limit] 58)).heap.size by simp))
        refine (CL.out _ T0.out).mono ?_; rintro e w1 ⟨rfl, g1⟩
        have B1 := Lib.hid (BL.out.below g1); have L1 := Lib.hid (below_step L0.out g1); clear g1
        go_wp2_with fail
        refine (write_any _ _ _ _ B1.out (by have := HLS.out.2; simp only [List.length_nil, Nat.zero_add]; omega) L1.out.size).mono ?_; rintro e w2 ⟨rfl, b2, g2, -⟩
        have B2 := Lib.hid b2; have L2 := Lib.hid (L1.out.trans g2); clear b2 g2
        go_wp2_with fail
        go_roundw
        case rel => exact ⟨1, by omega, rfl, L2.out, Lib.hid (by rw [HJ.out]; exact B2.out)⟩
        case measure => simp [intOf]; omega
      · rw [if_neg (by omega)] at HJ
        have hp : decide ((0 : Int) < (k : Int)) = true := decide_eq_true (by omega)
        go_wp2_with fail
        have L0 := Lib.hid (below_step HB.out (below_new wr (.cells #[.int .i64 v.src, .int .i64 v.dst, .int .i64 v.limit] 58)))
        have bl := hbld.out.below (below_new wr (.cells #[.int .i64 v.src, .int .i64 v.dst, .int .i64 v.limit] 58))
        have hbx := heap_alloc_new wr (.cells #[.int .i64 v.src, .int .i64 v.dst, .int .i64 v.limit] 58)
        have hbs : w.heap.size < wr.heap.size := hbld.out.lt
        refine (write_any _ _ _ _ bl (by have := HLS.out.1; simp; omega) L0.out.size).mono ?_; rintro e w0 ⟨rfl, b0, g0, o0⟩
        have BM := Lib.hid b0; have L0 := Lib.hid (L0.out.trans g0); have T0 := Lib.hid (HT.out.below L0.out)
        have hk0 := o0 _ _ hbx (by intro e0; injection e0 with e0; omega) (fun cs fz e0 => by injection e0 with _ e1; exact absurd e1 (by decide))
        have y0 := box_cell hk0 0 (.int .i64 v.src) rfl
        have y1 := box_cell hk0 1 (.int .i64 v.dst) rfl
        have y2 := box_cell hk0 2 (.int .i64 v.limit) rfl
        clear b0 g0 o0 hbx hbs bl hk0
        go_wp2_with fail
        clear y0 y1 y2
        refine (CL.out _ T0.out).mono ?_; rintro e w1 ⟨rfl, g1⟩
        have B1 := Lib.hid (BM.out.below g1); have L1 := Lib.hid (below_step L0.out g1); clear g1
        go_wp2_with fail
        refine (write_any _ _ _ _ B1.out (by have := HLS.out; simp; omega) L1.out.size).mono ?_; rintro e w2 ⟨rfl, b2, g2, -⟩
        have B2 := Lib.hid b2; have L2 := Lib.hid (L1.out.trans g2); clear b2 g2
        go_wp2_with fail
        go_roundw
        case rel => exact ⟨k + 1, by omega, by go_num, L2.out, Lib.hid (by rw [HJ.out]; exact B2.out)⟩
        case measure => simp [intOf]; omega
    · have hke : k = Q.length := by omega
      subst hke
      have HB := Lib.hid hb
      have BL := Lib.hid (show BldAt w.heap.size (Q.map fun v => Fl.line (Fl.winWords v)).flatten wr by
        have := hbld.out
        rw [show (Q.map fun v => Fl.line (Fl.winWords v)).take Q.length = Q.map fun v => Fl.line (Fl.winWords v) by rw [← HN.out, List.take_length], Fl.join_flat] at this
        exact this)
      clear hb hbld
      go_wp2_with fail
      refine (build_any _ _ _ BL.out HB.out.size).mono ?_; rintro e w2 ⟨rfl, g2⟩
      have L2 := Lib.hid (HB.out.trans g2); clear g2
      go_wp2_with fail
      go_ret
      exact ⟨rfl, L2.out⟩
end Go.Proofs.YtcaclijkkbhfhaaGreatDoor
