/-
  PlanFailures walked: a failure that no main slot meets makes no difference.
-/
import Derived.Test.YtngpkipblcihaaaSc2
namespace Go.Proofs.Ytngpkipblcihaaa
open Go.RowKit

set_option maxRecDepth 100000 in
set_option maxHeartbeats 1000000 in
theorem fail_any (xa ya : Option Addr) (xc yc : Nat) (X Y : List (List Int)) (tool at_ : Int) (more : Int) (W : World) (hX : ArrsA 6 W xa xc X) (hY : ArrsA 2 W ya yc Y) (ft : Fits tool) (fa : Fits at_) (fm : Fits more) :
    Calls Try.prog 6 #[.slice xa X.length xc, .slice ya Y.length yc, .int .i64 tool, .int .i64 at_, .int .i64 more] W fun e w' => e = .returned (.bool true) ∧ Below W.heap.size W w' := by
  have HX := Lib.hid hX; have HY := Lib.hid hY; clear hX hY
  have HFi := Lib.hid (Pl.made_fine X)
  have hl := Pl.mkN_bd X
  rw [← Pl.made_len X] at hl
  obtain ⟨hl1, hl5⟩ := hl
  go_enter Try.func6, Try.ntmps6
  go_wp2_with fail
  refine (sane_any W).mono ?_; rintro e w1 ⟨rfl, g1⟩
  have G1 := Lib.hid g1; clear g1
  go_wp2_with fail
  refine (Made_any X xa xc w1 (HX.out.below G1.out)).mono ?_; rintro e w2 ⟨sa, sc, wa, wc1, rfl, s1, s2, g2⟩
  have G2 := Lib.hid (below_step G1.out g2)
  have S2 := Lib.hid (made_ok s1 s2)
  have HPM := Lib.hid (PlM.new (q := ⟨Pl.made X, sa, sc, wa, wc1⟩) s1 s2 g2.size)
  clear g2 s1 s2 G1
  go_upto_region 3 with (fail)
  have NP := Lib.hid (heap_alloc_new w2 (planObj ⟨Pl.made X, sa, sc, wa, wc1⟩))
  have G3 := Lib.hid (below_step G2.out (below_new w2 (planObj ⟨Pl.made X, sa, sc, wa, wc1⟩)))
  have S3 := Lib.hid (S2.out.below (below_new w2 (planObj ⟨Pl.made X, sa, sc, wa, wc1⟩)))
  have eL : w2.alloc (.cells #[.int .i64 (Pl.made X).entry, .int .i64 (Pl.made X).mmin, .int .i64 (Pl.made X).mmax, .slice sa (Pl.made X).st.length sc, .slice wa (Pl.made X).wn.length wc1] 28) = w2.alloc (planObj ⟨Pl.made X, sa, sc, wa, wc1⟩) := rfl
  rw [eL]
  clear eL S2 G2
  generalize w2.alloc (planObj ⟨Pl.made X, sa, sc, wa, wc1⟩) = w3 at *
  generalize w2.heap.size = n8 at *
  generalize Pl.made X = P at *
  have c0 := box_cell NP.out 0 (.int .i64 P.entry) rfl
  have c1 := box_cell NP.out 1 (.int .i64 P.mmin) rfl
  have c2 := box_cell NP.out 2 (.int .i64 P.mmax) rfl
  have c3 := box_cell NP.out 3 (.slice sa P.st.length sc) rfl
  have c4 := box_cell NP.out 4 (.slice wa P.wn.length wc1) rfl
  go_wp2_with fail
  refine (Chosen_any ⟨P, sa, sc, wa, wc1⟩ Y ya yc 0 0 w3 S3.out HFi.out (HY.out.below G3.out) ⟨by decide, by decide⟩ ⟨by decide, by decide⟩).mono ?_; rintro e w4 ⟨da, dc, ma, mc, rfl, d1, d2, g4, d3⟩
  clear c0 c1 c2 c3 c4
  have D1 := Lib.hid d1; have D2 := Lib.hid d2; have D3 := Lib.hid d3; have G4 := Lib.hid g4
  clear d1 d2 d3 g4
  have HPo := Lib.hid (Pl.chosen_poss HFi.out Y 0 0)
  go_upto_region 4 with (fail)
  obtain ⟨w5, h5⟩ : ∃ w5, w5 = w4.alloc (scenObj ⟨Pl.chosen P Y 0 0, da, dc, ma, mc⟩) := ⟨_, rfl⟩
  have eL : w4.alloc (.cells #[.slice da (Pl.chosen P Y 0 0).dur.length dc, .slice ma (Pl.chosen P Y 0 0).mv.length mc, .int .i64 (Pl.chosen P Y 0 0).det, .int .i64 (Pl.chosen P Y 0 0).tool, .int .i64 (Pl.chosen P Y 0 0).at_] 32) = w5 := h5.symm
  rw [eL]
  clear eL
  have hb5 := below_step G4.out (show Below w4.heap.size w4 w5 by rw [h5]; exact below_new _ _)
  have H5 := Lib.hid h5
  clear h5
  have NP5 := Lib.hid (box_below NP.out hb5)
  have S5 := Lib.hid (S3.out.below hb5)
  have G5 := Lib.hid (below_step G3.out hb5)
  clear hb5
  have c0 := box_cell NP5.out 0 (.int .i64 P.entry) rfl
  have c1 := box_cell NP5.out 1 (.int .i64 P.mmin) rfl
  have c2 := box_cell NP5.out 2 (.int .i64 P.mmax) rfl
  have c3 := box_cell NP5.out 3 (.slice sa P.st.length sc) rfl
  have c4 := box_cell NP5.out 4 (.slice wa P.wn.length wc1) rfl
  go_wp2_with fail
  refine (Chosen_any ⟨P, sa, sc, wa, wc1⟩ Y ya yc 0 0 w5 S5.out HFi.out (HY.out.below G5.out) ⟨by decide, by decide⟩ ⟨by decide, by decide⟩).mono ?_; rintro e w6 ⟨ga, gc, ha, hc, rfl, e1, e2, g6, e3⟩
  clear c0 c1 c2 c3 c4
  have MM := Lib.hid (Mem2.new (q := ⟨P, sa, sc, wa, wc1⟩) (r := ⟨Pl.chosen P Y 0 0, da, dc, ma, mc⟩) (t := ⟨Pl.chosen P Y 0 0, ga, gc, ha, hc⟩) HPM.out.is G3.out D1.out D2.out D3.out G4.out H5.out e1 e2 e3 g6)
  clear e1 e2 e3 g6 D1 D2 D3 G4 H5 NP NP5 S3 S5 G3 G5 HPM
  go_upto_region 5 with (fail)
  have eL : w6.alloc (.cells #[.slice ga (Pl.chosen P Y 0 0).dur.length gc, .slice ha (Pl.chosen P Y 0 0).mv.length hc, .int .i64 (Pl.chosen P Y 0 0).det, .int .i64 (Pl.chosen P Y 0 0).tool, .int .i64 (Pl.chosen P Y 0 0).at_] 32) = w6.alloc (scenObj ⟨Pl.chosen P Y 0 0, ga, gc, ha, hc⟩) := rfl
  rw [eL]
  clear eL
  generalize w6.alloc (scenObj ⟨Pl.chosen P Y 0 0, ga, gc, ha, hc⟩) = w7 at *
  generalize w4.heap.size = n9 at *
  generalize w6.heap.size = nt at *
  generalize w5.heap.size = B at *
  have HZ := Lib.hid (Pl.chosen_zero P Y)
  generalize Pl.chosen P Y 0 0 = s at *
  obtain ⟨du, mv, de, tl0, at0⟩ := s
  obtain ⟨rfl, rfl⟩ : tl0 = -1 ∧ at0 = 0 := HZ.out
  clear HZ
  have CT := Lib.hid (pick_any tool 8)
  have CA := Lib.hid (pick_any at_ 400)
  have CM := Lib.hid (pick_any more 5)
  have bt := pickZ_bd (c := tool) (n := 8) (by omega)
  have ba := pickZ_bd (c := at_) (n := 400) (by omega)
  have bm := pickZ_bd (c := more) (n := 5) (by omega)
  generalize pickZ tool 8 = tl at *
  generalize pickZ at_ 400 = a0 at *
  generalize pickZ more 5 = m0 at *
  have k3 := box_cell MM.out.t.box 3 (.int .i64 (-1)) rfl
  have z3 := box_fz MM.out.t.box 3
  have k4 := box_cell MM.out.t.box 4 (.int .i64 0) rfl
  have z4 := box_fz MM.out.t.box 4
  have hlt := lt_of_block MM.out.t.box
  go_wp2_with fail
  refine (CT.out _ ft (by omega)).mono ?_; rintro e wz ⟨rfl, rfl⟩
  go_wp2_with fail
  refine (CA.out _ fa (by omega)).mono ?_; rintro e wz ⟨rfl, rfl⟩
  go_wp2_with fail
  have M8 := Lib.hid ((MM.out.num (o := 3) (u := .int .i64 tl) (de' := de) (tl' := tl) (at' := 0) rfl).num (o := 4) (u := .int .i64 a0) (de' := de) (tl' := tl) (at' := a0) rfl)
  clear MM k3 z3 k4 z4 hlt
  generalize (w7.setCell ⟨nt, 3, none⟩ (.int .i64 tl)).setCell ⟨nt, 4, none⟩ (.int .i64 a0) = w8 at *
  go_loopg [15, 16] P.st.length (fun g ev iv wr => ∃ (k : Nat) (E : Int), k ≤ P.st.length ∧ g = P.st.length - k ∧ ev = .int .i64 E ∧ iv = .int .i64 (k : Int) ∧ (0 ≤ E ∧ E ≤ 1100) ∧ Hid (∀ i (h : i < P.st.length), i < k → P.st[i].m.tool = tl → P.st[i].m.start + du.getD i 0 ≤ E) ∧ Hid (Below w8.heap.size w8 wr))
  case atStart => exact ⟨0, 0, by omega, by omega, rfl, rfl, by omega, Lib.hid (fun i h h2 => absurd h2 (Nat.not_lt_zero i)), Lib.hid (Below.refl _ _)⟩
  case round =>
    obtain ⟨k, E, hk, rfl, rfl, rfl, hE, HE, HK⟩ := hrel
    rename World => wk
    have MK := Lib.hid (M8.out.below HK.out)
    have c3 := box_cell MK.out.p.box 3 (.slice sa P.st.length sc) rfl
    by_cases hlt : k < P.st.length
    · have hdk : k < du.length := by have : du.length = P.st.length := HPo.out.dlen; omega
      have hsm := HFi.out.s P.st[k] (List.getElem_mem hlt)
      have hdu := HPo.out.dur k hlt
      have hdg : du.getD k 0 = du[k] := by rw [List.getD_eq_getElem?_getD, List.getElem?_eq_getElem hdk]; rfl
      have HE2 := Lib.hid (show ∀ E', E ≤ E' → (P.st[k].m.tool = tl → P.st[k].m.start + du.getD k 0 ≤ E') → ∀ i (h : i < P.st.length), i < k + 1 → P.st[i].m.tool = tl → P.st[i].m.start + du.getD i 0 ≤ E' from fun E' h1 h2 i h h3 h4 => by
        by_cases e : i = k
        · subst e; exact h2 h4
        · have := HE.out i h (by omega) h4; omega)
      obtain ⟨sb, so, rfl, hsb, hsc⟩ := MK.out.p.ok.st.at (show 0 < P.st.length by omega)
      obtain ⟨db, dof, rfl, hdb, hdc⟩ := MK.out.t.ok.du.at (show 0 < du.length by omega)
      have s2 := hsc k hlt 2 (.int .i64 P.st[k].m.tool) rfl
      have s3 := hsc k hlt 3 (.int .i64 P.st[k].m.start) rfl
      have d0 := hdc k hdk 0 (.int .i64 du[k]) rfl
      have k0 := box_cell MK.out.t.box 0 (.slice (some ⟨db, dof, none⟩) du.length gc) rfl
      have k3 := box_cell MK.out.t.box 3 (.int .i64 tl) rfl
      simp only [Nat.add_zero, Nat.mul_one] at d0
      rw [hdg] at hdu HE2
      have h1 := hsm.mn; have h2 := hsm.ms; have h3 := hsm.mt
      generalize P.st[k] = x at *
      generalize du[k] = d at *
      obtain ⟨mn, mx, ⟨mt, ms⟩, ⟨st, ss⟩⟩ := x
      simp only at s2 s3 h1 h2 h3 hdu HE2
      have i1 : (0 : Int) ≤ (k : Int) := by omega
      have i2 : (k : Int) < (P.st.length : Int) := by omega
      have i3 : (k : Int) < (du.length : Int) := by omega
      have i4 : ((k : Int)).toNat = k := by omega
      have r1 : IntKind.i64.wrap (ms + d) = ms + d := IntWalk.i64_in _ (by omega)
      clear hsm hsc hdc hdg
      go_upto_region 11 with (fail)
      go_quiet (fail)
      have HD := Lib.hid (below_drewN (Below.refl wk.heap.size wk) nq)
      have HK2 := Lib.hid (below_step HK.out HD.out)
      have s3 := cell_below HD.out s3
      have d0 := cell_below HD.out d0
      have k0 := cell_below HD.out k0
      have c3 := cell_below HD.out c3
      clear HD s2 k3
      generalize wk.drewN nq = wm at *
      by_cases e : mt = tl
      · have e2 : (mt == tl) = true := by simp [e]
        have HE3 := Lib.hid (HE2.out (max E (ms + d)) (by omega) (fun _ => by omega))
        have hE3 : 0 ≤ max E (ms + d) ∧ max E (ms + d) ≤ 1100 := by omega
        clear e HE2 h1 h2 h3 hdu
        go_upto_region 12 with (fail)
        go_quiet (fail)
        go_wp2_with fail
        go_roundg (P.st.length - (k + 1))
        case rel => exact ⟨k + 1, max E (ms + d), by omega, rfl, rfl, by go_num, hE3, HE3, Lib.hid (below_drewN HK2.out _)⟩
        case measure => omega
      · have e2 : (mt == tl) = false := by simp [e]
        have HE3 := Lib.hid (HE2.out E (by omega) (fun h => absurd h e))
        clear e HE2 h1 h2 h3 hdu
        go_wp2_with fail
        go_roundg (P.st.length - (k + 1))
        case rel => exact ⟨k + 1, E, by omega, rfl, rfl, by go_num, hE, HE3, HK2⟩
        case measure => omega
    · have k1 : ¬ (k : Int) < (P.st.length : Int) := by omega
      have HE3 := Lib.hid (show ∀ i (h : i < P.st.length), P.st[i].m.tool = tl → P.st[i].m.start + du.getD i 0 ≤ E from fun i h => HE.out i h (by omega))
      have k4 := box_cell MK.out.t.box 4 (.int .i64 a0) rfl
      have z4 := box_fz MK.out.t.box 4
      have hlt := lt_of_block MK.out.t.box
      clear HE HK M8
      go_wp2_with fail
      have P5 := Lib.hid (show ∀ w, Calls Try.prog 15 #[.int .i64 more, .int .i64 5] w fun e w' => e = .returned (.int .i64 m0) ∧ w' = w from fun w => (CM.out w fm (by omega)).mono fun _ _ h => ⟨h.1, h.2.symm⟩)
      have hm0 : 0 ≤ max a0 (E + m0) ∧ max a0 (E + m0) ≤ 1200 := by omega
      have HE4 := Lib.hid (show ∀ i (h : i < P.st.length), P.st[i].m.tool = tl → P.st[i].m.start + du.getD i 0 ≤ max a0 (E + m0) from fun i h h2 => by have := HE3.out i h h2; omega)
      have r2 : IntKind.i64.wrap (E + m0) = E + m0 := IntWalk.i64_in _ (by omega)
      go_still_tail 8, (by kernel_rfl)
      repeat still_step
      still_call (P5.out _)
      repeat still_step
      refine wpStill_nil ?_
      change wpList _ _ _ _ _ (World.drew _)
      go_upto_region 14 with (fail)
      have MK2 := Lib.hid ((MK.out.num (o := 4) (u := .int .i64 (max a0 (E + m0))) (de' := de) (tl' := tl) (at' := max a0 (E + m0)) rfl).below (Below.refl _ _).drew)
      clear MK k4 z4 hlt c3 r2 HE3 CT CA CM P5 k1
      generalize max a0 (E + m0) = a1 at *
      generalize (wk.setCell ⟨nt, 4, none⟩ (.int .i64 a1)).drew = w9 at *
      have HPt := Lib.hid (Pl.fail_poss (tl := tl) (at_ := a1) HPo.out (by omega) (by omega))
      have HRt := Lib.hid (Pl.run_fail (s := ⟨du, mv, de, -1, 0⟩) (tl := tl) (at_ := a1) HFi.out.v rfl HE4.out)
      have HAs := Lib.hid (show Pl.answer P ⟨du, mv, de, -1, 0⟩ = (Pl.run P ⟨du, mv, de, -1, 0⟩, 0) by unfold Pl.answer; rw [if_pos (Pl.possible_iff.2 HPo.out)])
      have HAt := Lib.hid (show Pl.answer P ⟨du, mv, de, tl, a1⟩ = (Pl.run P ⟨du, mv, de, -1, 0⟩, 0) by unfold Pl.answer; rw [if_pos (Pl.possible_iff.2 HPt.out)]; exact congrArg (·, (0 : Int)) HRt.out)
      generalize Pl.run P ⟨du, mv, de, -1, 0⟩ = R at *
      have c0 := box_cell MK2.out.p.box 0 (.int .i64 P.entry) rfl
      have c1 := box_cell MK2.out.p.box 1 (.int .i64 P.mmin) rfl
      have c2 := box_cell MK2.out.p.box 2 (.int .i64 P.mmax) rfl
      have c3 := box_cell MK2.out.p.box 3 (.slice sa P.st.length sc) rfl
      have c4 := box_cell MK2.out.p.box 4 (.slice wa P.wn.length wc1) rfl
      have k0 := box_cell MK2.out.s.box 0 (.slice da du.length dc) rfl
      have k1 := box_cell MK2.out.s.box 1 (.slice ma mv.length mc) rfl
      have k2 := box_cell MK2.out.s.box 2 (.int .i64 de) rfl
      have k3 := box_cell MK2.out.s.box 3 (.int .i64 (-1)) rfl
      have k4 := box_cell MK2.out.s.box 4 (.int .i64 0) rfl
      go_wp2_with fail
      refine (Run_any ⟨P, sa, sc, wa, wc1⟩ ⟨⟨du, mv, de, -1, 0⟩, da, dc, ma, mc⟩ w9 MK2.out.p.ok MK2.out.s.ok).mono ?_; rintro e w10 ⟨va, vc, rfl, hv, g10⟩
      rw [HAs.out] at hv
      simp only [HAs.out]
      clear c0 c1 c2 c3 c4 k0 k1 k2 k3 k4
      obtain ⟨a6, c6, e6, hv6, -⟩ := RowO.arg visit_len hv
      injection e6 with e6 _ e6'
      subst e6; subst e6'
      go_upto_region 15 with (fail)
      have hb10 := below_step g10 (below_new w10 (lateObj R.kind R.num))
      have V1 := Lib.hid (hv6.below (below_new w10 (lateObj R.kind R.num)))
      have NL := Lib.hid (heap_alloc_new w10 (lateObj R.kind R.num))
      have MK3 := Lib.hid (MK2.out.below hb10)
      have eL : w10.alloc (.cells #[.int .i64 R.kind, .int .i64 R.num] 36) = w10.alloc (lateObj R.kind R.num) := rfl
      rw [eL]
      clear eL hb10 hv hv6 g10 MK2 HAs
      generalize w10.alloc (lateObj R.kind R.num) = w11 at *
      generalize w10.heap.size = nl at *
      have c0 := box_cell MK3.out.p.box 0 (.int .i64 P.entry) rfl
      have c1 := box_cell MK3.out.p.box 1 (.int .i64 P.mmin) rfl
      have c2 := box_cell MK3.out.p.box 2 (.int .i64 P.mmax) rfl
      have c3 := box_cell MK3.out.p.box 3 (.slice sa P.st.length sc) rfl
      have c4 := box_cell MK3.out.p.box 4 (.slice wa P.wn.length wc1) rfl
      have k0 := box_cell MK3.out.t.box 0 (.slice ga du.length gc) rfl
      have k1 := box_cell MK3.out.t.box 1 (.slice ha mv.length hc) rfl
      have k2 := box_cell MK3.out.t.box 2 (.int .i64 de) rfl
      have k3 := box_cell MK3.out.t.box 3 (.int .i64 tl) rfl
      have k4 := box_cell MK3.out.t.box 4 (.int .i64 a1) rfl
      go_wp2_with fail
      refine (Run_any ⟨P, sa, sc, wa, wc1⟩ ⟨⟨du, mv, de, tl, a1⟩, ga, gc, ha, hc⟩ w11 MK3.out.p.ok MK3.out.t.ok).mono ?_; rintro e w12 ⟨ua, uc, rfl, hu, g12⟩
      rw [HAt.out] at hu
      simp only [HAt.out]
      clear c0 c1 c2 c3 c4 k0 k1 k2 k3 k4
      obtain ⟨a6, c6, e6, hu6, -⟩ := RowO.arg visit_len hu
      injection e6 with e6 _ e6'
      subst e6; subst e6'
      go_upto_region 16 with (fail)
      have hb12 := below_step g12 (below_new w12 (lateObj R.kind R.num))
      have U2 := Lib.hid (hu6.below (below_new w12 (lateObj R.kind R.num)))
      have V2 := Lib.hid (V1.out.below hb12)
      have NL2 := Lib.hid (box_below NL.out hb12)
      have NM := Lib.hid (heap_alloc_new w12 (lateObj R.kind R.num))
      have MK4 := Lib.hid (MK3.out.below hb12)
      have eL : w12.alloc (.cells #[.int .i64 R.kind, .int .i64 R.num] 36) = w12.alloc (lateObj R.kind R.num) := rfl
      rw [eL]
      clear eL hb12 hu hu6 g12 MK3 HAt V1 NL
      generalize w12.alloc (lateObj R.kind R.num) = w13 at *
      generalize w12.heap.size = nm at *
      have k3 := box_cell MK4.out.s.box 3 (.int .i64 (-1)) rfl
      have l0 := box_cell NL2.out 0 (.int .i64 R.kind) rfl
      have l1 := box_cell NL2.out 1 (.int .i64 R.num) rfl
      have m0 := box_cell NM.out 0 (.int .i64 R.kind) rfl
      have m1 := box_cell NM.out 1 (.int .i64 R.num) rfl
      go_wp2_with fail
      refine (SameVisits_any R.V R.V va ua vc uc w13 V2.out U2.out).mono ?_; rintro e w14 ⟨rfl, g14⟩
      have G14 := Lib.hid (below_step MK4.out.bel g14)
      rw [decide_eq_true rfl]
      go_wp2_with fail
      go_ret
      exact ⟨rfl, G14.out⟩
end Go.Proofs.Ytngpkipblcihaaa
