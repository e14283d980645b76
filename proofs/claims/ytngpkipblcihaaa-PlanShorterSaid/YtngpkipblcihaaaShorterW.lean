/-
  PlanShorter walked: shorter moves do no harm.
-/
import Derived.Test.YtngpkipblcihaaaSc2
namespace Go.Proofs.Ytngpkipblcihaaa
open Go.RowKit

/-- Moves and a detour that are shorter. -/
structure Shorter (P : Pl.Plan) (s : Pl.Scen) (mv : List Int) (de : Int) : Prop where
  len : mv.length = s.mv.length
  each : ∀ i, i < P.st.length → P.mmin ≤ mv.getD i 0 ∧ mv.getD i 0 ≤ s.mv.getD i 0
  det : P.mmin ≤ de ∧ de ≤ s.det
theorem Shorter.move {P : Pl.Plan} {s : Pl.Scen} {mv : List Int} {de : Int} (h : Shorter P s mv de) {k : Nat} (hk : k < mv.length) {x : Int} (h1 : P.mmin ≤ x) (h2 : x ≤ mv[k]) : Shorter P s (mv.set k x) de := by
  refine ⟨by rw [List.length_set]; exact h.len, fun i hi => ?_, h.det⟩
  have hi' := h.each i hi
  by_cases e : i = k
  · subst e
    rw [List.getD_eq_getElem?_getD, List.getElem?_eq_getElem hk] at hi'
    rw [List.getD_eq_getElem?_getD (l := mv.set i x), List.getElem?_set_self hk]
    exact ⟨h1, Int.le_trans h2 hi'.2⟩
  · rw [List.getD_eq_getElem?_getD (l := mv.set k x), List.getElem?_set_ne (fun h => e h.symm), ← List.getD_eq_getElem?_getD]
    exact hi'
set_option maxRecDepth 100000 in
set_option maxHeartbeats 1000000 in
theorem short_any (xa ya : Option Addr) (xc yc : Nat) (X Y : List (List Int)) (tool at_ : Int) (la : Option Addr) (lc : Nat) (Ls : List Int) (W : World) (hX : ArrsA 6 W xa xc X) (hY : ArrsA 2 W ya yc Y) (ft : Fits tool) (fa : Fits at_) (hl : IntsA W la lc Ls) (hFl : ∀ x ∈ Ls, Fits x) :
    Calls Try.prog 5 #[.slice xa X.length xc, .slice ya Y.length yc, .int .i64 tool, .int .i64 at_, .slice la Ls.length lc] W fun e w' => e = .returned (.bool true) ∧ Below W.heap.size W w' := by
  have HF := Lib.hid hFl
  have HL := Lib.hid hl
  have ll := hl.len
  unfold maxLen at ll
  clear hl hFl
  have HX := Lib.hid hX; have HY := Lib.hid hY; clear hX hY
  have HFi := Lib.hid (Pl.made_fine X)
  have hlX := Pl.mkN_bd X
  rw [← Pl.made_len X] at hlX
  obtain ⟨hl1, hl5⟩ := hlX
  go_enter Try.func5, Try.ntmps5
  go_wp2_with fail
  refine (sane_any W).mono ?_; rintro e w1 ⟨rfl, g1⟩
  have G1 := Lib.hid g1; clear g1
  go_wp2_with fail
  refine (Made_any X xa xc w1 (HX.out.below G1.out)).mono ?_; rintro e w2 ⟨sa, sc, wa, wc1, rfl, s1, s2, g2⟩
  have G2 := Lib.hid (below_step G1.out g2)
  have S2 := Lib.hid (made_ok s1 s2)
  have HPM := Lib.hid (PlM.new (q := ⟨Pl.made X, sa, sc, wa, wc1⟩) s1 s2 g2.size)
  clear g2 s1 s2 G1
  go_upto_region 3 with (fail)
  have NP := Lib.hid (heap_alloc_new w2 (planObj ⟨Pl.made X, sa, sc, wa, wc1⟩))
  have G3 := Lib.hid (below_step G2.out (below_new w2 (planObj ⟨Pl.made X, sa, sc, wa, wc1⟩)))
  have S3 := Lib.hid (S2.out.below (below_new w2 (planObj ⟨Pl.made X, sa, sc, wa, wc1⟩)))
  have eL : w2.alloc (.cells #[.int .i64 (Pl.made X).entry, .int .i64 (Pl.made X).mmin, .int .i64 (Pl.made X).mmax, .slice sa (Pl.made X).st.length sc, .slice wa (Pl.made X).wn.length wc1] 28) = w2.alloc (planObj ⟨Pl.made X, sa, sc, wa, wc1⟩) := rfl
  rw [eL]
  clear eL S2 G2
  generalize w2.alloc (planObj ⟨Pl.made X, sa, sc, wa, wc1⟩) = w3 at *
  generalize w2.heap.size = n8 at *
  generalize Pl.made X = P at *
  have c0 := box_cell NP.out 0 (.int .i64 P.entry) rfl
  have c1 := box_cell NP.out 1 (.int .i64 P.mmin) rfl
  have c2 := box_cell NP.out 2 (.int .i64 P.mmax) rfl
  have c3 := box_cell NP.out 3 (.slice sa P.st.length sc) rfl
  have c4 := box_cell NP.out 4 (.slice wa P.wn.length wc1) rfl
  go_wp2_with fail
  refine (Chosen_any ⟨P, sa, sc, wa, wc1⟩ Y ya yc tool at_ w3 S3.out HFi.out (HY.out.below G3.out) ft fa).mono ?_; rintro e w4 ⟨da, dc, ma, mc, rfl, d1, d2, g4, d3⟩
  clear c0 c1 c2 c3 c4
  have D1 := Lib.hid d1; have D2 := Lib.hid d2; have D3 := Lib.hid d3; have G4 := Lib.hid g4
  clear d1 d2 d3 g4
  have HPo := Lib.hid (Pl.chosen_poss HFi.out Y tool at_)
  go_upto_region 4 with (fail)
  obtain ⟨w5, h5⟩ : ∃ w5, w5 = w4.alloc (scenObj ⟨Pl.chosen P Y tool at_, da, dc, ma, mc⟩) := ⟨_, rfl⟩
  have eL : w4.alloc (.cells #[.slice da (Pl.chosen P Y tool at_).dur.length dc, .slice ma (Pl.chosen P Y tool at_).mv.length mc, .int .i64 (Pl.chosen P Y tool at_).det, .int .i64 (Pl.chosen P Y tool at_).tool, .int .i64 (Pl.chosen P Y tool at_).at_] 32) = w5 := h5.symm
  rw [eL]
  clear eL
  have hb5 := below_step G4.out (show Below w4.heap.size w4 w5 by rw [h5]; exact below_new _ _)
  have H5 := Lib.hid h5
  clear h5
  have NP5 := Lib.hid (box_below NP.out hb5)
  have S5 := Lib.hid (S3.out.below hb5)
  have G5 := Lib.hid (below_step G3.out hb5)
  clear hb5
  have c0 := box_cell NP5.out 0 (.int .i64 P.entry) rfl
  have c1 := box_cell NP5.out 1 (.int .i64 P.mmin) rfl
  have c2 := box_cell NP5.out 2 (.int .i64 P.mmax) rfl
  have c3 := box_cell NP5.out 3 (.slice sa P.st.length sc) rfl
  have c4 := box_cell NP5.out 4 (.slice wa P.wn.length wc1) rfl
  go_wp2_with fail
  refine (Chosen_any ⟨P, sa, sc, wa, wc1⟩ Y ya yc tool at_ w5 S5.out HFi.out (HY.out.below G5.out) ft fa).mono ?_; rintro e w6 ⟨ga, gc, ha, hc, rfl, e1, e2, g6, e3⟩
  clear c0 c1 c2 c3 c4
  have MM := Lib.hid (Mem2.new (q := ⟨P, sa, sc, wa, wc1⟩) (r := ⟨Pl.chosen P Y tool at_, da, dc, ma, mc⟩) (t := ⟨Pl.chosen P Y tool at_, ga, gc, ha, hc⟩) HPM.out.is G3.out D1.out D2.out D3.out G4.out H5.out e1 e2 e3 g6)
  clear e1 e2 e3 g6 D1 D2 D3 G4 H5 NP NP5 S3 S5 G3 G5 HPM
  go_upto_region 5 with (fail)
  have eL : w6.alloc (.cells #[.slice ga (Pl.chosen P Y tool at_).dur.length gc, .slice ha (Pl.chosen P Y tool at_).mv.length hc, .int .i64 (Pl.chosen P Y tool at_).det, .int .i64 (Pl.chosen P Y tool at_).tool, .int .i64 (Pl.chosen P Y tool at_).at_] 32) = w6.alloc (scenObj ⟨Pl.chosen P Y tool at_, ga, gc, ha, hc⟩) := rfl
  rw [eL]
  clear eL
  generalize w6.alloc (scenObj ⟨Pl.chosen P Y tool at_, ga, gc, ha, hc⟩) = w7 at *
  generalize w4.heap.size = n9 at *
  generalize w6.heap.size = nt at *
  generalize w5.heap.size = B at *
  generalize Pl.chosen P Y tool at_ = s at *
  obtain ⟨du, mv, de, tl, at0⟩ := s
  have HSh := Lib.hid (show Shorter P ⟨du, mv, de, tl, at0⟩ mv de from ⟨rfl, fun i hi => ⟨(HPo.out.mv i hi).1, Int.le_refl _⟩, ⟨HPo.out.det.1, Int.le_refl _⟩⟩)
  go_wp2_with fail
  go_loopg [15] Ls.length (fun g iv wr => ∃ (k : Nat) (mv' : List Int) (de' : Int), k ≤ Ls.length ∧ g = Ls.length - k ∧ iv = .int .i64 (k : Int) ∧ Hid (Shorter P ⟨du, mv, de, tl, at0⟩ mv' de') ∧ Hid (Mem2 W B n8 n9 nt ⟨P, sa, sc, wa, wc1⟩ ⟨⟨du, mv, de, tl, at0⟩, da, dc, ma, mc⟩ ⟨⟨du, mv', de', tl, at0⟩, ga, gc, ha, hc⟩ wr))
  case atStart => exact ⟨0, mv, de, by omega, by omega, rfl, HSh, MM⟩
  case round =>
    clear HSh MM
    obtain ⟨k, mv', de', hk, rfl, rfl, HSh, MM⟩ := hrel
    rename World => wk
    have k1 := box_cell MM.out.t.box 1 (.slice ha mv'.length hc) rfl
    have k2 := box_cell MM.out.t.box 2 (.int .i64 de') rfl
    have c1 := box_cell MM.out.p.box 1 (.int .i64 P.mmin) rfl
    have hlm : mv'.length = P.st.length := HSh.out.len.trans HPo.out.mlen
    have b1 := HPo.out.v.mmin; have b2 := HPo.out.v.mmax
    by_cases hlt : k < Ls.length
    · obtain ⟨lb, lo, rfl, hlb, hlc⟩ := (HL.out.below MM.out.bel).at (show 0 < Ls.length by omega)
      have l0 := hlc k hlt 0 (.int .i64 Ls[k]) rfl
      simp only [Nat.add_zero, Nat.mul_one] at l0
      have hfk := HF.out Ls[k] (List.getElem_mem hlt)
      generalize Ls[k] = y at *
      have i1 : (0 : Int) ≤ (k : Int) := by omega
      have i2 : (k : Int) < (Ls.length : Int) := by omega
      have i4 : ((k : Int)).toNat = k := by omega
      clear hlc
      by_cases h1 : k < mv'.length
      · obtain ⟨hb, ho, rfl, hhb, hhc⟩ := MM.out.t.ok.mv.at (show 0 < mv'.length by omega)
        obtain ⟨g, cs, e, hgB, hcs⟩ := MM.out.t.mr _ rfl
        injection e with e1 e2
        subst e1; subst e2
        have m0 := hhc k h1 0 (.int .i64 mv'[k]) rfl
        simp only [Nat.add_zero, Nat.mul_one, Nat.zero_add] at m0
        have z0 := box_fz hcs k
        have hge := HSh.out.each k (by omega)
        have hgd : mv'.getD k 0 = mv'[k] := by rw [List.getD_eq_getElem?_getD, List.getElem?_eq_getElem h1]; rfl
        rw [hgd] at hge
        have hms := HPo.out.mv k (by omega)
        simp only at hms hge
        have bz := pickZ_bd (c := y) (n := mv'[k] - P.mmin + 1) (by omega)
        have PM := Lib.hid (MM.out.move h1 (mv'[k] - pickZ y (mv'[k] - P.mmin + 1)) rfl)
        simp only [Nat.add_zero, Nat.mul_one, Nat.zero_add] at PM
        have PS := Lib.hid (HSh.out.move h1 (x := mv'[k] - pickZ y (mv'[k] - P.mmin + 1)) (by omega) (by omega))
        have P5 := Lib.hid (show ∀ w, Calls Try.prog 15 #[.int .i64 y, .int .i64 (mv'[k] - P.mmin + 1)] w fun e w' => e = .returned (.int .i64 (pickZ y (mv'[k] - P.mmin + 1))) ∧ w' = w from fun w => (pick_any y (mv'[k] - P.mmin + 1) w hfk (by omega)).mono fun _ _ h => ⟨h.1, h.2.symm⟩)
        generalize pickZ y (mv'[k] - P.mmin + 1) = z at *
        generalize mv'[k] = m at *
        have i3 : (k : Int) < (mv'.length : Int) := by omega
        have r1 : IntKind.i64.wrap (m - P.mmin) = m - P.mmin := IntWalk.i64_in _ (by omega)
        have r2 : IntKind.i64.wrap (m - P.mmin + 1) = m - P.mmin + 1 := IntWalk.i64_in _ (by omega)
        have r3 : IntKind.i64.wrap (m - z) = m - z := IntWalk.i64_in _ (by omega)
        clear hhc hgd hge hms bz hlm b1 b2 hcs hgB k2
        go_upto_region 9 with (fail)
        go_still_tail 24, (by kernel_rfl)
        repeat still_step
        still_call (P5.out _)
        repeat still_step
        refine wpStill_nil ?_
        change wpList _ _ _ _ _ (World.drew _)
        go_wp2_with fail
        go_roundg (Ls.length - (k + 1))
        case rel => exact ⟨k + 1, mv'.set k (m - z), de', by omega, rfl, by go_num, PS, Lib.hid (by first | exact PM.out.below (Below.refl _ _).drew | exact PM.out)⟩
        case measure => omega
      · have i5 : ¬ (k : Int) < (mv'.length : Int) := by omega
        by_cases h2 : k = mv'.length
        · have z2 := box_fz MM.out.t.box 2
          have hlt2 := lt_of_block MM.out.t.box
          have hde := HSh.out.det
          have hdx := HPo.out.det
          simp only at hde hdx
          have bz := pickZ_bd (c := y) (n := de' - P.mmin + 1) (by omega)
          have PM := Lib.hid (MM.out.num (o := 2) (u := .int .i64 (de' - pickZ y (de' - P.mmin + 1))) (de' := de' - pickZ y (de' - P.mmin + 1)) (tl' := tl) (at' := at0) rfl)
          have PS := Lib.hid (show Shorter P ⟨du, mv, de, tl, at0⟩ mv' (de' - pickZ y (de' - P.mmin + 1)) from ⟨HSh.out.len, HSh.out.each, by show P.mmin ≤ _ ∧ _ ≤ de; omega⟩)
          have P5 := Lib.hid (show ∀ w, Calls Try.prog 15 #[.int .i64 y, .int .i64 (de' - P.mmin + 1)] w fun e w' => e = .returned (.int .i64 (pickZ y (de' - P.mmin + 1))) ∧ w' = w from fun w => (pick_any y (de' - P.mmin + 1) w hfk (by omega)).mono fun _ _ h => ⟨h.1, h.2.symm⟩)
          generalize pickZ y (de' - P.mmin + 1) = z at *
          have i6 : ((k : Int) == (mv'.length : Int)) = true := by rw [beq_iff_eq]; omega
          have r1 : IntKind.i64.wrap (de' - P.mmin) = de' - P.mmin := IntWalk.i64_in _ (by omega)
          have r2 : IntKind.i64.wrap (de' - P.mmin + 1) = de' - P.mmin + 1 := IntWalk.i64_in _ (by omega)
          have r3 : IntKind.i64.wrap (de' - z) = de' - z := IntWalk.i64_in _ (by omega)
          clear hde hdx bz hlm b1 b2 h1 h2
          go_upto_region 11 with (fail)
          go_still_tail 15, (by kernel_rfl)
          repeat still_step
          still_call (P5.out _)
          repeat still_step
          refine wpStill_nil ?_
          change wpList _ _ _ _ _ (World.drew _)
          go_wp2_with fail
          go_roundg (Ls.length - (k + 1))
          case rel => exact ⟨k + 1, mv', de' - z, by omega, rfl, by go_num, PS, Lib.hid (by first | exact PM.out.below (Below.refl _ _).drew | exact PM.out)⟩
          case measure => omega
        · have i6 : ((k : Int) == (mv'.length : Int)) = false := by rw [beq_eq_false_iff_ne]; omega
          clear hlm b1 b2 h1 h2
          go_wp2_with fail
          go_roundg (Ls.length - (k + 1))
          case rel => exact ⟨k + 1, mv', de', by omega, rfl, by go_num, HSh, MM⟩
          case measure => omega
    · have q1 : ¬ (k : Int) < (Ls.length : Int) := by omega
      clear hlm b1 b2 k1 k2 c1
      go_upto_region 12 with (fail)
      clear q1
      have HPt := Lib.hid (Pl.short_poss (s := ⟨du, mv, de, tl, at0⟩) (mv := mv') (de := de') HPo.out HSh.out.len HSh.out.each HSh.out.det)
      have HRt := Lib.hid (Pl.run_short (p := P) (s := ⟨du, mv, de, tl, at0⟩) (mv := mv') (de := de') (fun i hi => (HSh.out.each i hi).2) HSh.out.det.2)
      have HAs := Lib.hid (show Pl.answer P ⟨du, mv, de, tl, at0⟩ = (Pl.run P ⟨du, mv, de, tl, at0⟩, 0) by unfold Pl.answer; rw [if_pos (Pl.possible_iff.2 HPo.out)])
      have HAt := Lib.hid (show Pl.answer P ⟨du, mv', de', tl, at0⟩ = (Pl.run P ⟨du, mv', de', tl, at0⟩, 0) by unfold Pl.answer; rw [if_pos (Pl.possible_iff.2 HPt.out)])
      simp only at HRt
      generalize Pl.run P ⟨du, mv', de', tl, at0⟩ = R2 at *
      generalize Pl.run P ⟨du, mv, de, tl, at0⟩ = R at *
      have c0 := box_cell MM.out.p.box 0 (.int .i64 P.entry) rfl
      have c1 := box_cell MM.out.p.box 1 (.int .i64 P.mmin) rfl
      have c2 := box_cell MM.out.p.box 2 (.int .i64 P.mmax) rfl
      have c3 := box_cell MM.out.p.box 3 (.slice sa P.st.length sc) rfl
      have c4 := box_cell MM.out.p.box 4 (.slice wa P.wn.length wc1) rfl
      have k0 := box_cell MM.out.s.box 0 (.slice da du.length dc) rfl
      have k1 := box_cell MM.out.s.box 1 (.slice ma mv.length mc) rfl
      have k2 := box_cell MM.out.s.box 2 (.int .i64 de) rfl
      have k3 := box_cell MM.out.s.box 3 (.int .i64 tl) rfl
      have k4 := box_cell MM.out.s.box 4 (.int .i64 at0) rfl
      go_wp2_with fail
      refine (Run_any ⟨P, sa, sc, wa, wc1⟩ ⟨⟨du, mv, de, tl, at0⟩, da, dc, ma, mc⟩ wk MM.out.p.ok MM.out.s.ok).mono ?_; rintro e w10 ⟨va, vc, rfl, hv, g10⟩
      rw [HAs.out] at hv
      simp only [HAs.out]
      clear c0 c1 c2 c3 c4 k0 k1 k2 k3 k4
      obtain ⟨a6, c6, e6, hv6, -⟩ := RowO.arg visit_len hv
      injection e6 with e6 _ e6'
      subst e6; subst e6'
      go_upto_region 13 with (fail)
      have hb10 := below_step g10 (below_new w10 (lateObj R.kind R.num))
      have V1 := Lib.hid (hv6.below (below_new w10 (lateObj R.kind R.num)))
      have NL := Lib.hid (heap_alloc_new w10 (lateObj R.kind R.num))
      have MK3 := Lib.hid (MM.out.below hb10)
      have eL : w10.alloc (.cells #[.int .i64 R.kind, .int .i64 R.num] 36) = w10.alloc (lateObj R.kind R.num) := rfl
      rw [eL]
      clear eL hb10 hv hv6 g10 MM HAs
      generalize w10.alloc (lateObj R.kind R.num) = w11 at *
      generalize w10.heap.size = nl at *
      have c0 := box_cell MK3.out.p.box 0 (.int .i64 P.entry) rfl
      have c1 := box_cell MK3.out.p.box 1 (.int .i64 P.mmin) rfl
      have c2 := box_cell MK3.out.p.box 2 (.int .i64 P.mmax) rfl
      have c3 := box_cell MK3.out.p.box 3 (.slice sa P.st.length sc) rfl
      have c4 := box_cell MK3.out.p.box 4 (.slice wa P.wn.length wc1) rfl
      have k0 := box_cell MK3.out.t.box 0 (.slice ga du.length gc) rfl
      have k1 := box_cell MK3.out.t.box 1 (.slice ha mv'.length hc) rfl
      have k2 := box_cell MK3.out.t.box 2 (.int .i64 de') rfl
      have k3 := box_cell MK3.out.t.box 3 (.int .i64 tl) rfl
      have k4 := box_cell MK3.out.t.box 4 (.int .i64 at0) rfl
      go_wp2_with fail
      refine (Run_any ⟨P, sa, sc, wa, wc1⟩ ⟨⟨du, mv', de', tl, at0⟩, ga, gc, ha, hc⟩ w11 MK3.out.p.ok MK3.out.t.ok).mono ?_; rintro e w12 ⟨ua, uc, rfl, hu, g12⟩
      rw [HAt.out] at hu
      simp only [HAt.out]
      clear c0 c1 c2 c3 c4 k0 k1 k2 k3 k4
      obtain ⟨a6, c6, e6, hu6, -⟩ := RowO.arg visit_len hu
      injection e6 with e6 _ e6'
      subst e6; subst e6'
      go_upto_region 14 with (fail)
      have hb12 := below_step g12 (below_new w12 (lateObj R2.kind R2.num))
      have U2 := Lib.hid (hu6.below (below_new w12 (lateObj R2.kind R2.num)))
      have V2 := Lib.hid (V1.out.below hb12)
      have NL2 := Lib.hid (box_below NL.out hb12)
      have NM := Lib.hid (heap_alloc_new w12 (lateObj R2.kind R2.num))
      have MK4 := Lib.hid (MK3.out.below hb12)
      have eL : w12.alloc (.cells #[.int .i64 R2.kind, .int .i64 R2.num] 36) = w12.alloc (lateObj R2.kind R2.num) := rfl
      rw [eL]
      clear eL hb12 hu hu6 g12 MK3 HAt V1 NL
      generalize w12.alloc (lateObj R2.kind R2.num) = w13 at *
      generalize w12.heap.size = nm at *
      have l0 := box_cell NL2.out 0 (.int .i64 R.kind) rfl
      have m0 := box_cell NM.out 0 (.int .i64 R2.kind) rfl
      by_cases hk0 : R.kind = 0
      · obtain rfl : R2 = R := HRt.out hk0
        rw [hk0] at l0 m0
        clear hk0
        go_wp2_with fail
        refine (SameVisits_any R2.V R2.V va ua vc uc w13 V2.out U2.out).mono ?_; rintro e w14 ⟨rfl, g14⟩
        have G14 := Lib.hid (below_step MK4.out.bel g14)
        rw [decide_eq_true rfl]
        go_wp2_with fail
        go_ret
        exact ⟨rfl, G14.out⟩
      · have n0 : ¬ R.kind = (0 : Int) := hk0
        go_wp2_with fail
        go_ret
        exact ⟨rfl, MK4.out.bel⟩
end Go.Proofs.Ytngpkipblcihaaa
