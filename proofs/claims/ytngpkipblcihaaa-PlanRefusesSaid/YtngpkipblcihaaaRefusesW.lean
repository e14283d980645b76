/-
  PlanRefuses walked: what is out of bounds is refused.
-/
import Derived.Test.YtngpkipblcihaaaRf
import Derived.Deep.CutBlock
namespace Go.Proofs.Ytngpkipblcihaaa
open Go.RowKit

set_option maxRecDepth 100000 in
set_option maxHeartbeats 1000000 in
theorem refuses_any (xa ya : Option Addr) (xc yc : Nat) (X Y : List (List Int)) (what which : Int) (W : World) (hX : ArrsA 6 W xa xc X) (hY : ArrsA 2 W ya yc Y) (ft : Fits what) (fa : Fits which) :
    Calls Try.prog 9 #[.slice xa X.length xc, .slice ya Y.length yc, .int .i64 what, .int .i64 which] W fun e w' => e = .returned (.bool true) ∧ Below W.heap.size W w' := by
  have HX := Lib.hid hX; have HY := Lib.hid hY; clear hX hY
  have HFi := Lib.hid (Pl.made_fine X)
  have hl := Pl.mkN_bd X
  rw [← Pl.made_len X] at hl
  obtain ⟨hl1, hl5⟩ := hl
  go_enter Try.func9, Try.ntmps9
  go_wp2_with fail
  refine (sane_any W).mono ?_; rintro e w1 ⟨rfl, g1⟩
  have G1 := Lib.hid g1; clear g1
  go_wp2_with fail
  refine (Made_any X xa xc w1 (HX.out.below G1.out)).mono ?_; rintro e w2 ⟨sa, sc, wa, wc1, rfl, s1, s2, g2⟩
  have G2 := Lib.hid (below_step G1.out g2)
  have S2 := Lib.hid (made_ok s1 s2)
  have HPM := Lib.hid (PlM.new (q := ⟨Pl.made X, sa, sc, wa, wc1⟩) s1 s2 g2.size)
  have HB1 := Lib.hid (G1.out.size)
  clear g2 s1 s2 G1
  go_upto_region 3 with (fail)
  have NP := Lib.hid (heap_alloc_new w2 (planObj ⟨Pl.made X, sa, sc, wa, wc1⟩))
  have G3 := Lib.hid (below_step G2.out (below_new w2 (planObj ⟨Pl.made X, sa, sc, wa, wc1⟩)))
  have S3 := Lib.hid (S2.out.below (below_new w2 (planObj ⟨Pl.made X, sa, sc, wa, wc1⟩)))
  have eL : w2.alloc (.cells #[.int .i64 (Pl.made X).entry, .int .i64 (Pl.made X).mmin, .int .i64 (Pl.made X).mmax, .slice sa (Pl.made X).st.length sc, .slice wa (Pl.made X).wn.length wc1] 28) = w2.alloc (planObj ⟨Pl.made X, sa, sc, wa, wc1⟩) := rfl
  rw [eL]
  clear eL S2 G2
  generalize w2.alloc (planObj ⟨Pl.made X, sa, sc, wa, wc1⟩) = w3 at *
  generalize w2.heap.size = n8 at *
  generalize Pl.made X = P at *
  have c0 := box_cell NP.out 0 (.int .i64 P.entry) rfl
  have c1 := box_cell NP.out 1 (.int .i64 P.mmin) rfl
  have c2 := box_cell NP.out 2 (.int .i64 P.mmax) rfl
  have c3 := box_cell NP.out 3 (.slice sa P.st.length sc) rfl
  have c4 := box_cell NP.out 4 (.slice wa P.wn.length wc1) rfl
  go_wp2_with fail
  refine (Chosen_any ⟨P, sa, sc, wa, wc1⟩ Y ya yc 0 0 w3 S3.out HFi.out (HY.out.below G3.out) ⟨by decide, by decide⟩ ⟨by decide, by decide⟩).mono ?_; rintro e w4 ⟨da, dc, ma, mc, rfl, d1, d2, g4, d3⟩
  clear c0 c1 c2 c3 c4
  have HPo := Lib.hid (Pl.chosen_poss HFi.out Y 0 0)
  have HZ := Lib.hid (Pl.chosen_zero P Y)
  go_upto_region 4 with (fail)
  have hsc := ScM.new (r := ⟨Pl.chosen P Y 0 0, da, dc, ma, mc⟩) d1 d2 d3 g4.size
  have MM := Lib.hid (show MemR W n8 w4.heap.size ⟨P, sa, sc, wa, wc1⟩ ⟨Pl.chosen P Y 0 0, da, dc, ma, mc⟩ (w4.alloc (scenObj ⟨Pl.chosen P Y 0 0, da, dc, ma, mc⟩)) from
    ⟨(HPM.out.lower HB1.out).below (below_step g4 (below_new _ _)), hsc.lower G3.out.size, below_step G3.out (below_step g4 (below_new _ _))⟩)
  clear hsc
  have eL : w4.alloc (.cells #[.slice da (Pl.chosen P Y 0 0).dur.length dc, .slice ma (Pl.chosen P Y 0 0).mv.length mc, .int .i64 (Pl.chosen P Y 0 0).det, .int .i64 (Pl.chosen P Y 0 0).tool, .int .i64 (Pl.chosen P Y 0 0).at_] 32) = w4.alloc (scenObj ⟨Pl.chosen P Y 0 0, da, dc, ma, mc⟩) := rfl
  rw [eL]
  clear eL d1 d2 d3 g4 HPM HB1 NP G3 S3
  generalize w4.alloc (scenObj ⟨Pl.chosen P Y 0 0, da, dc, ma, mc⟩) = w5 at *
  generalize w4.heap.size = n9 at *
  generalize Pl.chosen P Y 0 0 = s at *
  obtain ⟨du, mv, de, tl0, at0⟩ := s
  obtain ⟨rfl, rfl⟩ : tl0 = -1 ∧ at0 = 0 := HZ.out
  clear HZ
  have CI := Lib.hid (pick_any which P.st.length)
  have C8 := Lib.hid (pick_any what 8)
  have hwi := pickZ_bd (c := which) (n := P.st.length) (by omega)
  have hwa := pickZ_bd (c := what) (n := 8) (by omega)
  generalize hpi : pickZ which P.st.length = pi at *
  generalize pickZ what 8 = c at *
  clear hpi
  obtain ⟨i, rfl⟩ := Int.eq_ofNat_of_zero_le hwi.1
  have hil : i < P.st.length := by omega
  clear hwi
  have c0 := box_cell MM.out.p.box 0 (.int .i64 P.entry) rfl
  have c1 := box_cell MM.out.p.box 1 (.int .i64 P.mmin) rfl
  have c2 := box_cell MM.out.p.box 2 (.int .i64 P.mmax) rfl
  have c3 := box_cell MM.out.p.box 3 (.slice sa P.st.length sc) rfl
  have c4 := box_cell MM.out.p.box 4 (.slice wa P.wn.length wc1) rfl
  have k0 := box_cell MM.out.s.box 0 (.slice da du.length dc) rfl
  have k1 := box_cell MM.out.s.box 1 (.slice ma mv.length mc) rfl
  have k2 := box_cell MM.out.s.box 2 (.int .i64 de) rfl
  have k3 := box_cell MM.out.s.box 3 (.int .i64 (-1)) rfl
  have k4 := box_cell MM.out.s.box 4 (.int .i64 0) rfl
  go_wp2_with fail
  refine (CI.out _ fa (by omega)).mono ?_; rintro e wz ⟨rfl, rfl⟩
  go_wp2_with fail
  refine (Possible_any ⟨P, sa, sc, wa, wc1⟩ ⟨⟨du, mv, de, -1, 0⟩, da, dc, ma, mc⟩ w5 MM.out.p.ok MM.out.s.ok).mono ?_; rintro e w6 ⟨rfl, g6⟩
  simp only [Pl.possible_iff.2 HPo.out]
  have M6 := Lib.hid (MM.out.below g6)
  clear c0 c1 c2 c3 c4 k0 k1 k2 k3 k4 MM g6 CI
  have MM := Lib.hid M6.out
  clear M6
  go_wp2_with fail
  refine (C8.out _ ft (by omega)).mono ?_; rintro e wz ⟨rfl, rfl⟩
  clear C8
  go_upto_block 0 with (fail)
  go_cut [] (fun wx => ∃ q r, Hid (Refd W n8 n9 q r wx))
  case first => as_aux_lemma =>
    have c3 := box_cell MM.out.p.box 3 (.slice sa P.st.length sc) rfl
    have k0 := box_cell MM.out.s.box 0 (.slice da du.length dc) rfl
    have k1 := box_cell MM.out.s.box 1 (.slice ma mv.length mc) rfl
    have k2 := box_cell MM.out.s.box 2 (.int .i64 de) rfl
    have k3 := box_cell MM.out.s.box 3 (.int .i64 (-1)) rfl
    have k4 := box_cell MM.out.s.box 4 (.int .i64 0) rfl
    rcases Classical.em (c = 0) with hc0 | hc0
    · subst hc0
      have b1 := HPo.out.v.mmin; have b2 := HPo.out.v.mmax
      have hdl : du.length = P.st.length := HPo.out.dlen
      have hml : mv.length = P.st.length := HPo.out.mlen
      have ok := HPo.out.v.st P.st[i] (List.getElem_mem hil)
      have o1 := ok.mn; have o2 := ok.mx; have o3 := ok.top
      have k10 : ((0 : Int) == 0) = true := by decide
      have k11 : ((0 : Int) == 1) = false := by decide
      have k12 : ((0 : Int) == 2) = false := by decide
      have k13 : ((0 : Int) == 3) = false := by decide
      have k14 : ((0 : Int) == 4) = false := by decide
      have k15 : ((0 : Int) == 5) = false := by decide
      have k16 : ((0 : Int) == 6) = false := by decide
      have i1 : (0 : Int) ≤ (i : Int) := by omega
      have i4 : ((i : Int)).toNat = i := by omega
      obtain ⟨gd, gdo, rfl, hgd, hgc⟩ := MM.out.s.ok.du.at (show 0 < du.length by omega)
      obtain ⟨g, cs, e, hgB, hcs⟩ := MM.out.s.dr _ rfl
      injection e with e1 e2
      subst e1; subst e2
      have hidl : i < du.length := by omega
      have d0 := hgc i hidl 0 (.int .i64 (du[i]'hidl)) rfl
      simp only [Nat.zero_add, Nat.add_zero, Nat.mul_one] at d0
      generalize du[i]'hidl = old at d0
      have z0 := box_fz hcs i
      have hlt := lt_of_block hcs
      have i5 : (i : Int) < (du.length : Int) := by omega
      obtain ⟨sb, so, rfl, hsb, hsc⟩ := MM.out.p.ok.st.at (show 0 < P.st.length by omega)
      obtain ⟨g2, cs2, e, hgB2, hcs2⟩ := MM.out.p.sr _ rfl
      injection e with e1 e2
      subst e1; subst e2
      have i3 : (i : Int) < (P.st.length : Int) := by omega
      have s1 := hsc i hil 1 (.int .i64 P.st[i].mx) rfl
      simp only [Nat.zero_add] at s1
      have NO := Lib.hid (Pl.no_dur (p := P) (s := ⟨du, mv, de, -1, 0⟩) (x := P.st[i].mx + 1) hil (show i < du.length by omega) (by omega))
      have AP := Lib.hid (MM.out.scen (MM.out.s.dura (i := i) (show i < du.length by omega) (P.st[i].mx + 1) rfl) hcs hgB (by decide) (by decide) (by decide))
      simp only [Nat.zero_add, Nat.add_zero, Nat.mul_one] at AP
      simp only at NO
      have r1 : IntKind.i64.wrap (P.st[i].mx + 1) = P.st[i].mx + 1 := IntWalk.i64_in _ (by omega)
      clear hgc hsc hdl hml ok b1 b2 o1 o2 o3 hcs hcs2 hgB hgB2
      generalize P.st[i].mx = yy at *
      go_upto_region 9 with (fail)
      go_still_tail 11, (by kernel_rfl)
      change wpList _ _ _ _ _ (World.drew _)
      go_wp2_with fail
      go_meet
      exact ⟨_, _, Lib.hid (by first | exact ⟨AP.out.below (Below.refl _ _).drew, NO.out⟩ | exact ⟨AP.out, NO.out⟩)⟩
    rcases Classical.em (c = 1) with hc1 | hc1
    · subst hc1
      have b1 := HPo.out.v.mmin; have b2 := HPo.out.v.mmax
      have hdl : du.length = P.st.length := HPo.out.dlen
      have hml : mv.length = P.st.length := HPo.out.mlen
      have ok := HPo.out.v.st P.st[i] (List.getElem_mem hil)
      have o1 := ok.mn; have o2 := ok.mx; have o3 := ok.top
      have k10 : ((1 : Int) == 0) = false := by decide
      have k11 : ((1 : Int) == 1) = true := by decide
      have k12 : ((1 : Int) == 2) = false := by decide
      have k13 : ((1 : Int) == 3) = false := by decide
      have k14 : ((1 : Int) == 4) = false := by decide
      have k15 : ((1 : Int) == 5) = false := by decide
      have k16 : ((1 : Int) == 6) = false := by decide
      have i1 : (0 : Int) ≤ (i : Int) := by omega
      have i4 : ((i : Int)).toNat = i := by omega
      obtain ⟨gd, gdo, rfl, hgd, hgc⟩ := MM.out.s.ok.du.at (show 0 < du.length by omega)
      obtain ⟨g, cs, e, hgB, hcs⟩ := MM.out.s.dr _ rfl
      injection e with e1 e2
      subst e1; subst e2
      have hidl : i < du.length := by omega
      have d0 := hgc i hidl 0 (.int .i64 (du[i]'hidl)) rfl
      simp only [Nat.zero_add, Nat.add_zero, Nat.mul_one] at d0
      generalize du[i]'hidl = old at d0
      have z0 := box_fz hcs i
      have hlt := lt_of_block hcs
      have i5 : (i : Int) < (du.length : Int) := by omega
      obtain ⟨sb, so, rfl, hsb, hsc⟩ := MM.out.p.ok.st.at (show 0 < P.st.length by omega)
      obtain ⟨g2, cs2, e, hgB2, hcs2⟩ := MM.out.p.sr _ rfl
      injection e with e1 e2
      subst e1; subst e2
      have i3 : (i : Int) < (P.st.length : Int) := by omega
      have s1 := hsc i hil 0 (.int .i64 P.st[i].mn) rfl
      simp only [Nat.zero_add, Nat.add_zero] at s1
      have NO := Lib.hid (Pl.no_dur (p := P) (s := ⟨du, mv, de, -1, 0⟩) (x := P.st[i].mn - 1) hil (show i < du.length by omega) (by omega))
      have AP := Lib.hid (MM.out.scen (MM.out.s.dura (i := i) (show i < du.length by omega) (P.st[i].mn - 1) rfl) hcs hgB (by decide) (by decide) (by decide))
      simp only [Nat.zero_add, Nat.add_zero, Nat.mul_one] at AP
      simp only at NO
      have r1 : IntKind.i64.wrap (P.st[i].mn - 1) = P.st[i].mn - 1 := IntWalk.i64_in _ (by omega)
      clear hgc hsc hdl hml ok b1 b2 o1 o2 o3 hcs hcs2 hgB hgB2
      generalize P.st[i].mn = yy at *
      go_upto_region 11 with (fail)
      go_still_tail 11, (by kernel_rfl)
      change wpList _ _ _ _ _ (World.drew _)
      go_wp2_with fail
      go_meet
      exact ⟨_, _, Lib.hid (by first | exact ⟨AP.out.below (Below.refl _ _).drew, NO.out⟩ | exact ⟨AP.out, NO.out⟩)⟩
    rcases Classical.em (c = 2) with hc2 | hc2
    · subst hc2
      have b1 := HPo.out.v.mmin; have b2 := HPo.out.v.mmax
      have hdl : du.length = P.st.length := HPo.out.dlen
      have hml : mv.length = P.st.length := HPo.out.mlen
      have ok := HPo.out.v.st P.st[i] (List.getElem_mem hil)
      have o1 := ok.mn; have o2 := ok.mx; have o3 := ok.top
      have k10 : ((2 : Int) == 0) = false := by decide
      have k11 : ((2 : Int) == 1) = false := by decide
      have k12 : ((2 : Int) == 2) = true := by decide
      have k13 : ((2 : Int) == 3) = false := by decide
      have k14 : ((2 : Int) == 4) = false := by decide
      have k15 : ((2 : Int) == 5) = false := by decide
      have k16 : ((2 : Int) == 6) = false := by decide
      have i1 : (0 : Int) ≤ (i : Int) := by omega
      have i4 : ((i : Int)).toNat = i := by omega
      obtain ⟨gd, gdo, rfl, hgd, hgc⟩ := MM.out.s.ok.mv.at (show 0 < mv.length by omega)
      obtain ⟨g, cs, e, hgB, hcs⟩ := MM.out.s.mr _ rfl
      injection e with e1 e2
      subst e1; subst e2
      have hidl : i < mv.length := by omega
      have d0 := hgc i hidl 0 (.int .i64 (mv[i]'hidl)) rfl
      simp only [Nat.zero_add, Nat.add_zero, Nat.mul_one] at d0
      generalize mv[i]'hidl = old at d0
      have z0 := box_fz hcs i
      have hlt := lt_of_block hcs
      have i5 : (i : Int) < (mv.length : Int) := by omega
      have c2 := box_cell MM.out.p.box 2 (.int .i64 P.mmax) rfl
      have c1 := box_cell MM.out.p.box 1 (.int .i64 P.mmin) rfl
      have NO := Lib.hid (Pl.no_mv (p := P) (s := ⟨du, mv, de, -1, 0⟩) (x := P.mmax + 1) hil (show i < mv.length by omega) (by omega))
      have AP := Lib.hid (MM.out.scen (MM.out.s.move (i := i) (show i < mv.length by omega) (P.mmax + 1) rfl) hcs hgB (by decide) (by decide) (by decide))
      simp only [Nat.zero_add, Nat.add_zero, Nat.mul_one] at AP
      simp only at NO
      have r1 : IntKind.i64.wrap (P.mmax + 1) = P.mmax + 1 := IntWalk.i64_in _ (by omega)
      clear hgc hdl hml ok b1 b2 o1 o2 o3 hcs hgB
      go_wp2_with fail
      go_meet
      exact ⟨_, _, Lib.hid (by first | exact ⟨AP.out.below (Below.refl _ _).drew, NO.out⟩ | exact ⟨AP.out, NO.out⟩)⟩
    rcases Classical.em (c = 3) with hc3 | hc3
    · subst hc3
      have b1 := HPo.out.v.mmin; have b2 := HPo.out.v.mmax
      have hdl : du.length = P.st.length := HPo.out.dlen
      have hml : mv.length = P.st.length := HPo.out.mlen
      have ok := HPo.out.v.st P.st[i] (List.getElem_mem hil)
      have o1 := ok.mn; have o2 := ok.mx; have o3 := ok.top
      have k10 : ((3 : Int) == 0) = false := by decide
      have k11 : ((3 : Int) == 1) = false := by decide
      have k12 : ((3 : Int) == 2) = false := by decide
      have k13 : ((3 : Int) == 3) = true := by decide
      have k14 : ((3 : Int) == 4) = false := by decide
      have k15 : ((3 : Int) == 5) = false := by decide
      have k16 : ((3 : Int) == 6) = false := by decide
      have i1 : (0 : Int) ≤ (i : Int) := by omega
      have i4 : ((i : Int)).toNat = i := by omega
      obtain ⟨gd, gdo, rfl, hgd, hgc⟩ := MM.out.s.ok.mv.at (show 0 < mv.length by omega)
      obtain ⟨g, cs, e, hgB, hcs⟩ := MM.out.s.mr _ rfl
      injection e with e1 e2
      subst e1; subst e2
      have hidl : i < mv.length := by omega
      have d0 := hgc i hidl 0 (.int .i64 (mv[i]'hidl)) rfl
      simp only [Nat.zero_add, Nat.add_zero, Nat.mul_one] at d0
      generalize mv[i]'hidl = old at d0
      have z0 := box_fz hcs i
      have hlt := lt_of_block hcs
      have i5 : (i : Int) < (mv.length : Int) := by omega
      have c2 := box_cell MM.out.p.box 2 (.int .i64 P.mmax) rfl
      have c1 := box_cell MM.out.p.box 1 (.int .i64 P.mmin) rfl
      have NO := Lib.hid (Pl.no_mv (p := P) (s := ⟨du, mv, de, -1, 0⟩) (x := P.mmin - 1) hil (show i < mv.length by omega) (by omega))
      have AP := Lib.hid (MM.out.scen (MM.out.s.move (i := i) (show i < mv.length by omega) (P.mmin - 1) rfl) hcs hgB (by decide) (by decide) (by decide))
      simp only [Nat.zero_add, Nat.add_zero, Nat.mul_one] at AP
      simp only at NO
      have r1 : IntKind.i64.wrap (P.mmin - 1) = P.mmin - 1 := IntWalk.i64_in _ (by omega)
      clear hgc hdl hml ok b1 b2 o1 o2 o3 hcs hgB
      go_wp2_with fail
      go_meet
      exact ⟨_, _, Lib.hid (by first | exact ⟨AP.out.below (Below.refl _ _).drew, NO.out⟩ | exact ⟨AP.out, NO.out⟩)⟩
    rcases Classical.em (c = 4) with hc4 | hc4
    · subst hc4
      have b1 := HPo.out.v.mmin; have b2 := HPo.out.v.mmax
      have hdl : du.length = P.st.length := HPo.out.dlen
      have hml : mv.length = P.st.length := HPo.out.mlen
      have ok := HPo.out.v.st P.st[i] (List.getElem_mem hil)
      have o1 := ok.mn; have o2 := ok.mx; have o3 := ok.top
      have k10 : ((4 : Int) == 0) = false := by decide
      have k11 : ((4 : Int) == 1) = false := by decide
      have k12 : ((4 : Int) == 2) = false := by decide
      have k13 : ((4 : Int) == 3) = false := by decide
      have k14 : ((4 : Int) == 4) = true := by decide
      have k15 : ((4 : Int) == 5) = false := by decide
      have k16 : ((4 : Int) == 6) = false := by decide
      have i1 : (0 : Int) ≤ (i : Int) := by omega
      have i4 : ((i : Int)).toNat = i := by omega
      have z2 := box_fz MM.out.s.box 2
      have hlt := lt_of_block MM.out.s.box
      have c2 := box_cell MM.out.p.box 2 (.int .i64 P.mmax) rfl
      have NO := Lib.hid (Pl.no_det (p := P) (s := ⟨du, mv, de, -1, 0⟩) (x := P.mmax + 1) (by omega))
      have AP := Lib.hid (MM.out.scen (MM.out.s.num (o := 2) (u := .int .i64 (P.mmax + 1)) (de' := P.mmax + 1) (tl' := -1) (at' := 0) rfl) MM.out.s.box MM.out.s.hi (by decide) (by decide) (by decide))
      simp only at NO
      have r1 : IntKind.i64.wrap (P.mmax + 1) = P.mmax + 1 := IntWalk.i64_in _ (by omega)
      clear hdl hml ok b1 b2 o1 o2 o3
      go_wp2_with fail
      go_meet
      exact ⟨_, _, Lib.hid (by first | exact ⟨AP.out.below (Below.refl _ _).drew, NO.out⟩ | exact ⟨AP.out, NO.out⟩)⟩
    rcases Classical.em (c = 5) with hc5 | hc5
    · subst hc5
      have b1 := HPo.out.v.mmin; have b2 := HPo.out.v.mmax
      have hdl : du.length = P.st.length := HPo.out.dlen
      have hml : mv.length = P.st.length := HPo.out.mlen
      have ok := HPo.out.v.st P.st[i] (List.getElem_mem hil)
      have o1 := ok.mn; have o2 := ok.mx; have o3 := ok.top
      have k10 : ((5 : Int) == 0) = false := by decide
      have k11 : ((5 : Int) == 1) = false := by decide
      have k12 : ((5 : Int) == 2) = false := by decide
      have k13 : ((5 : Int) == 3) = false := by decide
      have k14 : ((5 : Int) == 4) = false := by decide
      have k15 : ((5 : Int) == 5) = true := by decide
      have k16 : ((5 : Int) == 6) = false := by decide
      have i1 : (0 : Int) ≤ (i : Int) := by omega
      have i4 : ((i : Int)).toNat = i := by omega
      have z1 := box_fz MM.out.s.box 1
      have hlt := lt_of_block MM.out.s.box
      have hlen : (mv.take (mv.length - 1)).length = mv.length - 1 := by rw [List.length_take]; omega
      have NO := Lib.hid (Pl.no_cut (p := P) (s := ⟨du, mv, de, -1, 0⟩) hml hl1)
      have AP := Lib.hid (MM.out.scen (MM.out.s.cut (mv.length - 1)) MM.out.s.box MM.out.s.hi (by decide) (by decide) (by decide))
      rw [hlen] at AP
      simp only at NO
      have hcap : mv.length ≤ mc := MM.out.s.ok.mv.1
      have h5 : ((mv.length - 1 : Nat) : Int) ≤ (mc : Int) := by omega
      have h6 : (0 : Int) ≤ ((mv.length - 1 : Nat) : Int) := by omega
      have h7 : (((mv.length - 1 : Nat) : Int)).toNat = mv.length - 1 := by omega
      have r1 : IntKind.i64.wrap ((mv.length : Int) - 1) = ((mv.length - 1 : Nat) : Int) := by rw [IntWalk.i64_in _ (by omega)]; omega
      clear hlen hdl hml ok b1 b2 o1 o2 o3 hcap
      go_wp2_with fail
      go_meet
      exact ⟨_, _, Lib.hid (by first | exact ⟨AP.out.below (Below.refl _ _).drew, NO.out⟩ | exact ⟨AP.out, NO.out⟩)⟩
    rcases Classical.em (c = 6) with hc6 | hc6
    · subst hc6
      have b1 := HPo.out.v.mmin; have b2 := HPo.out.v.mmax
      have hdl : du.length = P.st.length := HPo.out.dlen
      have hml : mv.length = P.st.length := HPo.out.mlen
      have ok := HPo.out.v.st P.st[i] (List.getElem_mem hil)
      have o1 := ok.mn; have o2 := ok.mx; have o3 := ok.top
      have k10 : ((6 : Int) == 0) = false := by decide
      have k11 : ((6 : Int) == 1) = false := by decide
      have k12 : ((6 : Int) == 2) = false := by decide
      have k13 : ((6 : Int) == 3) = false := by decide
      have k14 : ((6 : Int) == 4) = false := by decide
      have k15 : ((6 : Int) == 5) = false := by decide
      have k16 : ((6 : Int) == 6) = true := by decide
      have i1 : (0 : Int) ≤ (i : Int) := by omega
      have i4 : ((i : Int)).toNat = i := by omega
      have z4 := box_fz MM.out.s.box 4
      have hlt := lt_of_block MM.out.s.box
      have NO := Lib.hid (Pl.no_at (p := P) (s := ⟨du, mv, de, -1, 0⟩) rfl)
      have AP := Lib.hid (MM.out.scen (MM.out.s.num (o := 4) (u := .int .i64 1) (de' := de) (tl' := -1) (at' := 1) rfl) MM.out.s.box MM.out.s.hi (by decide) (by decide) (by decide))
      simp only at NO
      clear hdl hml ok b1 b2 o1 o2 o3
      go_wp2_with fail
      go_meet
      exact ⟨_, _, Lib.hid (by first | exact ⟨AP.out.below (Below.refl _ _).drew, NO.out⟩ | exact ⟨AP.out, NO.out⟩)⟩
    obtain rfl : c = 7 := by omega
    have b1 := HPo.out.v.mmin; have b2 := HPo.out.v.mmax
    have hdl : du.length = P.st.length := HPo.out.dlen
    have hml : mv.length = P.st.length := HPo.out.mlen
    have ok := HPo.out.v.st P.st[i] (List.getElem_mem hil)
    have o1 := ok.mn; have o2 := ok.mx; have o3 := ok.top
    have k10 : ((7 : Int) == 0) = false := by decide
    have k11 : ((7 : Int) == 1) = false := by decide
    have k12 : ((7 : Int) == 2) = false := by decide
    have k13 : ((7 : Int) == 3) = false := by decide
    have k14 : ((7 : Int) == 4) = false := by decide
    have k15 : ((7 : Int) == 5) = false := by decide
    have k16 : ((7 : Int) == 6) = false := by decide
    have i1 : (0 : Int) ≤ (i : Int) := by omega
    have i4 : ((i : Int)).toNat = i := by omega
    obtain ⟨sb, so, rfl, hsb, hsc⟩ := MM.out.p.ok.st.at (show 0 < P.st.length by omega)
    obtain ⟨g2, cs2, e, hgB2, hcs2⟩ := MM.out.p.sr _ rfl
    injection e with e1 e2
    subst e1; subst e2
    have i3 : (i : Int) < (P.st.length : Int) := by omega
    obtain ⟨en, mi, mx, st, wn⟩ := P
    simp only at *
    have s2 := hsc i hil 2 (.int .i64 st[i].m.tool) rfl
    have s4 := hsc i hil 4 (.int .i64 st[i].s.tool) rfl
    simp only [Nat.zero_add] at s2 s4
    have z4 := box_fz hcs2 (i * 6 + 4)
    have hlt := lt_of_block hcs2
    have NO := Lib.hid (Pl.no_tool (p := ⟨en, mi, mx, st, wn⟩) (s := ⟨du, mv, de, -1, 0⟩) hil)
    have AP := Lib.hid (MM.out.plan (MM.out.p.field (i := i) (o := 4) (u := .int .i64 st[i].m.tool) (x := ⟨st[i].mn, st[i].mx, st[i].m, ⟨st[i].m.tool, st[i].s.start⟩⟩) hil (by decide) rfl rfl) hcs2 hgB2 (by decide) (by decide))
    simp only [Nat.zero_add] at AP
    simp only at NO
    clear hsc hdl hml ok b1 b2 o1 o2 o3 hcs2 hgB2
    generalize st[i].s.tool = y4 at s4
    have HY2 : Hid (st[i].m.tool = st[i].m.tool) := Lib.hid rfl
    generalize st[i].m.tool = y2 at *
    go_upto_region 7 with (fail)
    go_still_tail 13, (by kernel_rfl)
    change wpList _ _ _ _ _ (World.drew _)
    go_wp2_with fail
    go_meet
    exact ⟨_, _, Lib.hid (by first | exact ⟨AP.out.below (Below.refl _ _).drew, NO.out⟩ | exact ⟨AP.out, NO.out⟩)⟩
  case rest =>
    obtain ⟨⟨⟨en, mi, mx, st, wn⟩, ra, rc, qa, qc⟩, ⟨⟨du', mv', de', tl, at0⟩, ea, ec, ha, hc⟩, HR⟩ := hcut
    rename World => w7
    clear MM
    have HAn := Lib.hid (show Pl.answer ⟨en, mi, mx, st, wn⟩ ⟨du', mv', de', tl, at0⟩ = (⟨[], 0, 0⟩, 80) by unfold Pl.answer; rw [HR.out.no]; rfl)
    have HB0 := Lib.hid (Pl.no_books (p := ⟨en, mi, mx, st, wn⟩) (o := 0) (by omega))
    have HB1 := Lib.hid (Pl.no_books (p := ⟨en, mi, mx, st, wn⟩) (o := 1000001) (by omega))
    have c0 := box_cell HR.out.m.p.box 0 (.int .i64 en) rfl
    have c1 := box_cell HR.out.m.p.box 1 (.int .i64 mi) rfl
    have c2 := box_cell HR.out.m.p.box 2 (.int .i64 mx) rfl
    have c3 := box_cell HR.out.m.p.box 3 (.slice ra st.length rc) rfl
    have c4 := box_cell HR.out.m.p.box 4 (.slice qa wn.length qc) rfl
    have k0 := box_cell HR.out.m.s.box 0 (.slice ea du'.length ec) rfl
    have k1 := box_cell HR.out.m.s.box 1 (.slice ha mv'.length hc) rfl
    have k2 := box_cell HR.out.m.s.box 2 (.int .i64 de') rfl
    have k3 := box_cell HR.out.m.s.box 3 (.int .i64 tl) rfl
    have k4 := box_cell HR.out.m.s.box 4 (.int .i64 at0) rfl
    go_wp2_with fail
    refine (Run_any ⟨⟨en, mi, mx, st, wn⟩, ra, rc, qa, qc⟩ ⟨⟨du', mv', de', tl, at0⟩, ea, ec, ha, hc⟩ w7 HR.out.m.p.ok HR.out.m.s.ok).mono ?_; rintro e w8 ⟨va, vc, rfl, hv, g8⟩
    simp only [HAn.out]
    clear c0 c1 c2 c3 c4 k0 k1 k2 k3 k4 hv
    go_upto_region 23 with (fail)
    have NL := Lib.hid (heap_alloc_new w8 (lateObj 0 0))
    have M9 := Lib.hid (HR.out.m.below (below_step g8 (below_new w8 (lateObj 0 0))))
    have eL : w8.alloc (.cells #[.int .i64 0, .int .i64 0] 36) = w8.alloc (lateObj 0 0) := rfl
    rw [eL]
    clear eL g8
    generalize w8.alloc (lateObj 0 0) = w9 at *
    generalize w8.heap.size = nl at *
    have c0 := box_cell M9.out.p.box 0 (.int .i64 en) rfl
    have c1 := box_cell M9.out.p.box 1 (.int .i64 mi) rfl
    have c2 := box_cell M9.out.p.box 2 (.int .i64 mx) rfl
    have c3 := box_cell M9.out.p.box 3 (.slice ra st.length rc) rfl
    have c4 := box_cell M9.out.p.box 4 (.slice qa wn.length qc) rfl
    have k0 := box_cell M9.out.s.box 0 (.slice ea du'.length ec) rfl
    have k1 := box_cell M9.out.s.box 1 (.slice ha mv'.length hc) rfl
    have k2 := box_cell M9.out.s.box 2 (.int .i64 de') rfl
    have k3 := box_cell M9.out.s.box 3 (.int .i64 tl) rfl
    have k4 := box_cell M9.out.s.box 4 (.int .i64 at0) rfl
    have l0 := box_cell NL.out 0 (.int .i64 0) rfl
    have l1 := box_cell NL.out 1 (.int .i64 0) rfl
    go_wp2_with fail
    refine (Possible_any ⟨⟨en, mi, mx, st, wn⟩, ra, rc, qa, qc⟩ ⟨⟨du', mv', de', tl, at0⟩, ea, ec, ha, hc⟩ w9 M9.out.p.ok M9.out.s.ok).mono ?_; rintro e w10 ⟨rfl, g10⟩
    rw [show Pl.possible (PlanP.p ⟨⟨en, mi, mx, st, wn⟩, ra, rc, qa, qc⟩) (ScenP.s ⟨⟨du', mv', de', tl, at0⟩, ea, ec, ha, hc⟩) = false from HR.out.no]
    clear c0 c1 c2 c3 c4 k0 k1 k2 k3 k4 l0 l1
    have NL2 := Lib.hid (box_below NL.out g10)
    have M10 := Lib.hid (M9.out.below g10)
    clear g10 M9 NL
    have c0 := box_cell M10.out.p.box 0 (.int .i64 en) rfl
    have c1 := box_cell M10.out.p.box 1 (.int .i64 mi) rfl
    have c2 := box_cell M10.out.p.box 2 (.int .i64 mx) rfl
    have c3 := box_cell M10.out.p.box 3 (.slice ra st.length rc) rfl
    have c4 := box_cell M10.out.p.box 4 (.slice qa wn.length qc) rfl
    have k0 := box_cell M10.out.s.box 0 (.slice ea du'.length ec) rfl
    have k1 := box_cell M10.out.s.box 1 (.slice ha mv'.length hc) rfl
    have k2 := box_cell M10.out.s.box 2 (.int .i64 de') rfl
    have k3 := box_cell M10.out.s.box 3 (.int .i64 tl) rfl
    have k4 := box_cell M10.out.s.box 4 (.int .i64 at0) rfl
    have l0 := box_cell NL2.out 0 (.int .i64 0) rfl
    have l1 := box_cell NL2.out 1 (.int .i64 0) rfl
    go_wp2_with fail
    refine (Bookings_any ⟨⟨en, mi, mx, st, wn⟩, ra, rc, qa, qc⟩ 0 w10 M10.out.p.ok).mono ?_; rintro e w11 ⟨ya1, yc1, rfl, -, g11⟩
    simp only [HB0.out]
    clear c0 c1 c2 c3 c4 k0 k1 k2 k3 k4 l0 l1
    have M11 := Lib.hid (M10.out.below g11)
    clear g11 M10 NL2
    have c0 := box_cell M11.out.p.box 0 (.int .i64 en) rfl
    have c1 := box_cell M11.out.p.box 1 (.int .i64 mi) rfl
    have c2 := box_cell M11.out.p.box 2 (.int .i64 mx) rfl
    have c3 := box_cell M11.out.p.box 3 (.slice ra st.length rc) rfl
    have c4 := box_cell M11.out.p.box 4 (.slice qa wn.length qc) rfl
    have k0 := box_cell M11.out.s.box 0 (.slice ea du'.length ec) rfl
    have k1 := box_cell M11.out.s.box 1 (.slice ha mv'.length hc) rfl
    have k2 := box_cell M11.out.s.box 2 (.int .i64 de') rfl
    have k3 := box_cell M11.out.s.box 3 (.int .i64 tl) rfl
    have k4 := box_cell M11.out.s.box 4 (.int .i64 at0) rfl
    go_wp2_with fail
    refine (Bookings_any ⟨⟨en, mi, mx, st, wn⟩, ra, rc, qa, qc⟩ 1000001 w11 M11.out.p.ok).mono ?_; rintro e w12 ⟨ya2, yc2, rfl, -, g12⟩
    simp only [HB1.out]
    have M12 := Lib.hid (M11.out.below g12)
    clear c0 c1 c2 c3 c4 k0 k1 k2 k3 k4 g12 M11
    go_wp2_with fail
    go_ret
    exact ⟨rfl, M12.out.bel⟩
end Go.Proofs.Ytngpkipblcihaaa
