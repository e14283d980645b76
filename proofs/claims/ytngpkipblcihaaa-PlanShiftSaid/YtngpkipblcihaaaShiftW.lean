/-
  PlanShift walked: a plan that is later by some minutes.
-/
import Derived.Test.YtngpkipblcihaaaSh
namespace Go.Proofs.Ytngpkipblcihaaa
open Go.RowKit

set_option maxRecDepth 100000 in
set_option maxHeartbeats 1000000 in
theorem shift_any (xa ya : Option Addr) (xc yc : Nat) (X Y : List (List Int)) (tool at_ by_ : Int) (W : World) (hX : ArrsA 6 W xa xc X) (hY : ArrsA 2 W ya yc Y) (ft : Fits tool) (fa : Fits at_) (fb : Fits by_) :
    Calls Try.prog 7 #[.slice xa X.length xc, .slice ya Y.length yc, .int .i64 tool, .int .i64 at_, .int .i64 by_] W fun e w' => e = .returned (.bool true) ∧ Below W.heap.size W w' := by
  have HX := Lib.hid hX; have HY := Lib.hid hY; clear hX hY
  have HFi := Lib.hid (Pl.made_fine X)
  have hl := Pl.mkN_bd X
  rw [← Pl.made_len X] at hl
  obtain ⟨hl1, hl5⟩ := hl
  go_enter Try.func7, Try.ntmps7
  go_wp2_with fail
  refine (sane_any W).mono ?_; rintro e w1 ⟨rfl, g1⟩
  have G1 := Lib.hid g1; clear g1
  go_wp2_with fail
  refine (pick_any by_ 10000 w1 fb (by omega)).mono ?_; rintro e wz ⟨rfl, rfl⟩
  have bb := pickZ_bd (c := by_) (n := 10000) (by omega)
  generalize pickZ by_ 10000 = b at *
  go_wp2_with fail
  refine (Made_any X xa xc w1 (HX.out.below G1.out)).mono ?_; rintro e w2 ⟨sa, sc, wa, wc1, rfl, s1, s2, g2⟩
  have G2 := Lib.hid (below_step G1.out g2)
  have S2 := Lib.hid (made_ok s1 s2)
  have HPM := Lib.hid (PlM.new (q := ⟨Pl.made X, sa, sc, wa, wc1⟩) s1 s2 g2.size)
  clear g2 s1 s2 G1
  go_upto_region 4 with (fail)
  have NP := Lib.hid (heap_alloc_new w2 (planObj ⟨Pl.made X, sa, sc, wa, wc1⟩))
  have G3 := Lib.hid (below_step G2.out (below_new w2 (planObj ⟨Pl.made X, sa, sc, wa, wc1⟩)))
  have S3 := Lib.hid (S2.out.below (below_new w2 (planObj ⟨Pl.made X, sa, sc, wa, wc1⟩)))
  have eL : w2.alloc (.cells #[.int .i64 (Pl.made X).entry, .int .i64 (Pl.made X).mmin, .int .i64 (Pl.made X).mmax, .slice sa (Pl.made X).st.length sc, .slice wa (Pl.made X).wn.length wc1] 28) = w2.alloc (planObj ⟨Pl.made X, sa, sc, wa, wc1⟩) := rfl
  rw [eL]
  clear eL S2 G2
  generalize w2.alloc (planObj ⟨Pl.made X, sa, sc, wa, wc1⟩) = w3 at *
  generalize w2.heap.size = n8 at *
  go_wp2_with fail
  refine (Made_any X xa xc w3 (HX.out.below G3.out)).mono ?_; rintro e w4 ⟨sb, sd, wb, wd, rfl, s3, s4, g4⟩
  go_upto_region 5 with (fail)
  have MM := Lib.hid (show Mem1 W w3.heap.size n8 w4.heap.size ⟨Pl.made X, sa, sc, wa, wc1⟩ ⟨Pl.made X, sb, sd, wb, wd⟩ (w4.alloc (planObj ⟨Pl.made X, sb, sd, wb, wd⟩)) from
    ⟨HPM.out.is.below (below_step g4 (below_new _ _)), PlM.new (q := ⟨Pl.made X, sb, sd, wb, wd⟩) s3 s4 g4.size, below_step G3.out (below_step g4 (below_new _ _)), G3.out.size⟩)
  have eL : w4.alloc (.cells #[.int .i64 (Pl.made X).entry, .int .i64 (Pl.made X).mmin, .int .i64 (Pl.made X).mmax, .slice sb (Pl.made X).st.length sd, .slice wb (Pl.made X).wn.length wd] 28) = w4.alloc (planObj ⟨Pl.made X, sb, sd, wb, wd⟩) := rfl
  rw [eL]
  clear eL s3 s4 g4 HPM NP G3 S3
  generalize w4.alloc (planObj ⟨Pl.made X, sb, sd, wb, wd⟩) = w5 at *
  generalize w4.heap.size = nq at *
  generalize w3.heap.size = B at *
  have he := Pl.fine_entry X
  have HVs := Lib.hid (Pl.sh_valid (b := b) HFi.out he (by omega))
  generalize Pl.made X = P at *
  obtain ⟨en, mi, ma, st, wn⟩ := P
  have hen := HFi.out.v.entry
  simp only at hl1 hl5 he hen
  have q0 := box_cell MM.out.q.box 0 (.int .i64 en) rfl
  have z0 := box_fz MM.out.q.box 0
  have hlt := lt_of_block MM.out.q.box
  have r0 : IntKind.i64.wrap (en + b) = en + b := IntWalk.i64_in _ (by omega)
  go_upto_region 6 with (fail)
  have M6 := Lib.hid (MM.out.num (o := 0) (u := .int .i64 (en + b)) (en' := en + b) (mi' := mi) (ma' := ma) rfl)
  clear MM q0 z0 hlt r0
  generalize w5.setCell ⟨nq, 0, none⟩ (.int .i64 (en + b)) = w6 at *
  have M6 := Lib.hid (show Mem1 W B n8 nq ⟨⟨en, mi, ma, st, wn⟩, sa, sc, wa, wc1⟩ ⟨⟨en + b, mi, ma, Pl.shTo b st 0, wn⟩, sb, sd, wb, wd⟩ w6 by rw [Pl.shTo_zero]; exact M6.out)
  have HSt := Lib.hid (Pl.shTo_len b st)
  go_wp2_with fail
  go_loopg [14] st.length (fun g iv wr => ∃ k : Nat, k ≤ st.length ∧ g = st.length - k ∧ iv = .int .i64 (k : Int) ∧ Hid (Mem1 W B n8 nq ⟨⟨en, mi, ma, st, wn⟩, sa, sc, wa, wc1⟩ ⟨⟨en + b, mi, ma, Pl.shTo b st k, wn⟩, sb, sd, wb, wd⟩ wr))
  case atStart => exact ⟨0, by omega, by omega, rfl, M6⟩
  case round =>
    clear M6
    obtain ⟨k, hk, rfl, rfl, MM⟩ := hrel
    rename World => wk
    have q3 := box_cell MM.out.q.box 3 (.slice sb (Pl.shTo b st k).length sd) rfl
    rw [HSt.out k] at q3
    by_cases hlt : k < st.length
    · have hks : k < (Pl.shTo b st k).length := by rw [HSt.out]; exact hlt
      obtain ⟨gb, go, rfl, hgb, hgc⟩ := MM.out.q.ok.st.at (show 0 < (Pl.shTo b st k).length by omega)
      obtain ⟨g, cs, e, hgB, hcs⟩ := MM.out.q.sr _ rfl
      injection e with e1 e2
      subst e1; subst e2
      have HX0 := Lib.hid (Pl.shTo_at b st k hlt)
      have s3 := hgc k hks 3 (.int .i64 (Pl.shTo b st k)[k].m.start) rfl
      have s5 := hgc k hks 5 (.int .i64 (Pl.shTo b st k)[k].s.start) rfl
      rw [HX0.out] at s3 s5
      simp only [Nat.zero_add] at s3 s5
      have hsm := HFi.out.s st[k] (List.getElem_mem hlt)
      have z3 := box_fz hcs (k * 6 + 3)
      have hglt := lt_of_block hcs
      have PM := Lib.hid (MM.out.field (i := k) (o := 3) (u := .int .i64 (st[k].m.start + b)) (x := ⟨st[k].mn, st[k].mx, ⟨st[k].m.tool, st[k].m.start + b⟩, st[k].s⟩) hks (by decide) (by rw [HX0.out]; rfl) rfl)
      have HQ := Lib.hid (show ((Pl.shTo b st k).set k ⟨st[k].mn, st[k].mx, ⟨st[k].m.tool, st[k].m.start + b⟩, st[k].s⟩).set k (Pl.shStage b st[k]) = Pl.shTo b st (k + 1) by rw [List.set_set, Pl.shTo_set b st k hlt])
      have HN := Lib.hid (show ((Pl.shTo b st k).set k (⟨st[k].mn, st[k].mx, ⟨st[k].m.tool, st[k].m.start + b⟩, st[k].s⟩ : Pl.Stage)).length = st.length by rw [List.length_set, HSt.out])
      simp only [Nat.zero_add] at PM
      have h1 := hsm.ms; have h2 := hsm.ss
      generalize st[k] = x at *
      obtain ⟨mn, mx, ⟨mt, ms⟩, ⟨tt, ss⟩⟩ := x
      simp only at s3 s5 h1 h2 PM HQ HN
      have i1 : (0 : Int) ≤ (k : Int) := by omega
      have i2 : (k : Int) < (st.length : Int) := by omega
      have i4 : ((k : Int)).toNat = k := by omega
      have r1 : IntKind.i64.wrap (ms + b) = ms + b := IntWalk.i64_in _ (by omega)
      clear hgc hsm hks hgB hcs
      go_upto_region 9 with (fail)
      go_still_tail 15, (by kernel_rfl)
      change wpList _ _ _ _ _ (World.drew _)
      go_upto_region 10 with (fail)
      have PM2 := Lib.hid (PM.out.below (Below.refl _ _).drew)
      clear MM PM q3 s3 s5 z3 hglt r1
      generalize (wk.setCell ⟨gb, k * 6 + 3, none⟩ (.int .i64 (ms + b))).drew = wl at *
      generalize hL2 : (Pl.shTo b st k).set k ⟨mn, mx, ⟨mt, ms + b⟩, ⟨tt, ss⟩⟩ = L2 at *
      have hk2 : k < L2.length := by rw [HN.out]; exact hlt
      have HX1 := Lib.hid (show L2[k] = (⟨mn, mx, ⟨mt, ms + b⟩, ⟨tt, ss⟩⟩ : Pl.Stage) by subst hL2; exact List.getElem_set_self _)
      clear hL2
      have q3 := box_cell PM2.out.q.box 3 (.slice (some ⟨gb, 0, none⟩) L2.length sd) rfl
      rw [HN.out] at q3
      obtain ⟨gb2, go2, e, hgb2, hgc⟩ := PM2.out.q.ok.st.at (show 0 < L2.length by omega)
      injection e with e; injection e with e1 e2
      subst e1; subst e2
      obtain ⟨g', cs, e, hgB, hcs⟩ := PM2.out.q.sr _ rfl
      injection e with e1 _
      subst e1
      have s5 := hgc k hk2 5 (.int .i64 L2[k].s.start) rfl
      rw [HX1.out] at s5
      simp only [Nat.zero_add] at s5
      have z5 := box_fz hcs (k * 6 + 5)
      have hglt := lt_of_block hcs
      have PM := Lib.hid (PM2.out.field (i := k) (o := 5) (u := .int .i64 (ss + b)) (x := Pl.shStage b ⟨mn, mx, ⟨mt, ms⟩, ⟨tt, ss⟩⟩) hk2 (by decide) (by rw [HX1.out]; rfl) rfl)
      rw [HQ.out] at PM
      simp only [Nat.zero_add] at PM
      have r1 : IntKind.i64.wrap (ss + b) = ss + b := IntWalk.i64_in _ (by omega)
      clear hgc hgB hcs
      go_still_tail 15, (by kernel_rfl)
      change wpList _ _ _ _ _ (World.drew _)
      go_wp2_with fail
      go_roundg (st.length - (k + 1))
      case rel => exact ⟨k + 1, by omega, rfl, by go_num, Lib.hid (by first | exact PM.out.below (Below.refl _ _).drew | exact PM.out)⟩
      case measure => omega
    · have k1 : ¬ (k : Int) < (st.length : Int) := by omega
      obtain rfl : k = st.length := by omega
      have MM := Lib.hid (show Mem1 W B n8 nq ⟨⟨en, mi, ma, st, wn⟩, sa, sc, wa, wc1⟩ ⟨Pl.shPlan b ⟨en, mi, ma, st, wn⟩, sb, sd, wb, wd⟩ wk by have := MM.out; rw [Pl.shTo_all] at this; exact this)
      go_upto_region 11 with (fail)
      clear k1 q3
      have S5 := MM.out.p.ok
      have c0 := box_cell MM.out.p.box 0 (.int .i64 en) rfl
      have c1 := box_cell MM.out.p.box 1 (.int .i64 mi) rfl
      have c2 := box_cell MM.out.p.box 2 (.int .i64 ma) rfl
      have c3 := box_cell MM.out.p.box 3 (.slice sa st.length sc) rfl
      have c4 := box_cell MM.out.p.box 4 (.slice wa wn.length wc1) rfl
      have HYk := Lib.hid (HY.out.below MM.out.bel)
      have HPo := Lib.hid (Pl.chosen_poss HFi.out Y tool at_)
      have HAb := Lib.hid (Pl.chAt_bd HFi.out Y tool at_)
      go_wp2_with fail
      refine (Chosen_any ⟨⟨en, mi, ma, st, wn⟩, sa, sc, wa, wc1⟩ Y ya yc tool at_ wk S5 HFi.out HYk.out ft fa).mono ?_; rintro e w7 ⟨da, dc, ma', mc, rfl, d1, d2, g7, d3⟩
      clear c0 c1 c2 c3 c4 S5
      have D1 := Lib.hid d1; have D2 := Lib.hid d2; have D3 := Lib.hid d3; have G7 := Lib.hid g7
      clear d1 d2 d3 g7
      go_upto_region 12 with (fail)
      obtain ⟨w8, h8⟩ : ∃ w8, w8 = w7.alloc (scenObj ⟨Pl.chosen ⟨en, mi, ma, st, wn⟩ Y tool at_, da, dc, ma', mc⟩) := ⟨_, rfl⟩
      have eL : w7.alloc (.cells #[.slice da (Pl.chosen ⟨en, mi, ma, st, wn⟩ Y tool at_).dur.length dc, .slice ma' (Pl.chosen ⟨en, mi, ma, st, wn⟩ Y tool at_).mv.length mc, .int .i64 (Pl.chosen ⟨en, mi, ma, st, wn⟩ Y tool at_).det, .int .i64 (Pl.chosen ⟨en, mi, ma, st, wn⟩ Y tool at_).tool, .int .i64 (Pl.chosen ⟨en, mi, ma, st, wn⟩ Y tool at_).at_] 32) = w8 := h8.symm
      rw [eL]
      clear eL
      have hb8 := below_step G7.out (show Below w7.heap.size w7 w8 by rw [h8]; exact below_new _ _)
      have H8 := Lib.hid h8
      clear h8
      have NP8 := Lib.hid (box_below MM.out.p.box hb8)
      have S8 := Lib.hid (MM.out.p.ok.below hb8)
      have HY8 := Lib.hid (HYk.out.below hb8)
      have c0 := box_cell NP8.out 0 (.int .i64 en) rfl
      have c1 := box_cell NP8.out 1 (.int .i64 mi) rfl
      have c2 := box_cell NP8.out 2 (.int .i64 ma) rfl
      have c3 := box_cell NP8.out 3 (.slice sa st.length sc) rfl
      have c4 := box_cell NP8.out 4 (.slice wa wn.length wc1) rfl
      go_wp2_with fail
      refine (Chosen_any ⟨⟨en, mi, ma, st, wn⟩, sa, sc, wa, wc1⟩ Y ya yc tool at_ w8 S8.out HFi.out HY8.out ft fa).mono ?_; rintro e w9 ⟨ga, gc, ha, hc, rfl, e1, e2, g9, e3⟩
      clear c0 c1 c2 c3 c4
      have M9 := Lib.hid (show Mem3 W w8.heap.size n8 nq w7.heap.size w9.heap.size ⟨⟨en, mi, ma, st, wn⟩, sa, sc, wa, wc1⟩ ⟨Pl.shPlan b ⟨en, mi, ma, st, wn⟩, sb, sd, wb, wd⟩ ⟨Pl.chosen ⟨en, mi, ma, st, wn⟩ Y tool at_, da, dc, ma', mc⟩ ⟨Pl.chosen ⟨en, mi, ma, st, wn⟩ Y tool at_, ga, gc, ha, hc⟩ (w9.alloc (scenObj ⟨Pl.chosen ⟨en, mi, ma, st, wn⟩ Y tool at_, ga, gc, ha, hc⟩)) from
        ⟨Mem2.new (w3 := wk) ((MM.out.p.mono (Nat.le_of_lt (Nat.lt_of_le_of_lt MM.out.q.hi (lt_of_block MM.out.q.box))))) MM.out.bel D1.out D2.out D3.out G7.out H8.out e1 e2 e3 g9,
          (MM.out.q.is.below (below_step (below_step G7.out (show Below w7.heap.size w7 w8 by rw [H8.out]; exact below_new _ _)) (below_step g9 (below_new _ _)))).mono (below_step G7.out (show Below w7.heap.size w7 w8 by rw [H8.out]; exact below_new _ _)).size⟩)
      clear e1 e2 e3 g9 D1 D2 D3 G7 H8 NP8 S8 HY8 HYk MM
      go_upto_region 13 with (fail)
      have eL : w9.alloc (.cells #[.slice ga (Pl.chosen ⟨en, mi, ma, st, wn⟩ Y tool at_).dur.length gc, .slice ha (Pl.chosen ⟨en, mi, ma, st, wn⟩ Y tool at_).mv.length hc, .int .i64 (Pl.chosen ⟨en, mi, ma, st, wn⟩ Y tool at_).det, .int .i64 (Pl.chosen ⟨en, mi, ma, st, wn⟩ Y tool at_).tool, .int .i64 (Pl.chosen ⟨en, mi, ma, st, wn⟩ Y tool at_).at_] 32) = w9.alloc (scenObj ⟨Pl.chosen ⟨en, mi, ma, st, wn⟩ Y tool at_, ga, gc, ha, hc⟩) := rfl
      rw [eL]
      clear eL
      generalize w9.alloc (scenObj ⟨Pl.chosen ⟨en, mi, ma, st, wn⟩ Y tool at_, ga, gc, ha, hc⟩) = w10 at *
      generalize w7.heap.size = ns at *
      generalize w9.heap.size = nt at *
      generalize w8.heap.size = B2 at *
      generalize Pl.chosen ⟨en, mi, ma, st, wn⟩ Y tool at_ = s at *
      obtain ⟨du, mv, de, tl, at0⟩ := s
      have hfl := HPo.out.fail
      simp only at hfl
      have k3 := box_cell M9.out.m.t.box 3 (.int .i64 tl) rfl
      have k4 := box_cell M9.out.m.t.box 4 (.int .i64 at0) rfl
      have z4 := box_fz M9.out.m.t.box 4
      have hlt := lt_of_block M9.out.m.t.box
      go_upto_if 85 with (fail)
      go_cut [] (fun wx => ∃ a1, ((tl = -1 ∧ a1 = 0) ∨ (0 ≤ tl ∧ a1 = at0 + b ∧ 0 ≤ a1 ∧ a1 ≤ 1000000)) ∧ Hid (Mem3 W B2 n8 nq ns nt ⟨⟨en, mi, ma, st, wn⟩, sa, sc, wa, wc1⟩ ⟨Pl.shPlan b ⟨en, mi, ma, st, wn⟩, sb, sd, wb, wd⟩ ⟨⟨du, mv, de, tl, at0⟩, da, dc, ma', mc⟩ ⟨⟨du, mv, de, tl, a1⟩, ga, gc, ha, hc⟩ wx))
      case first =>
        have hab := HAb.out
        by_cases ht : tl ≥ 0
        · have q1 : 0 ≤ at0 := by omega
          have PM := Lib.hid (M9.out.num (o := 4) (u := .int .i64 (at0 + b)) (de' := de) (tl' := tl) (at' := at0 + b) rfl)
          have r1 : IntKind.i64.wrap (at0 + b) = at0 + b := IntWalk.i64_in _ (by omega)
          clear hfl
          go_wp2_with fail
          go_meet
          exact ⟨at0 + b, .inr ⟨ht, rfl, by omega, by omega⟩, PM⟩
        · have q1 : tl = -1 ∧ at0 = 0 := by omega
          obtain ⟨rfl, rfl⟩ := q1
          clear hfl ht
          go_wp2_with fail
          go_meet
          exact ⟨0, by simp, M9⟩
      case rest =>
        obtain ⟨a1, ha1, MM⟩ := hcut
        rename World => w11x
        clear k3 k4 z4 hlt M9 hfl
        have HPt := Lib.hid (Pl.sh_poss (a := a1) HPo.out HVs.out (by rcases ha1 with h | h; exact .inl h; exact .inr ⟨h.1, h.2.2⟩))
        have HRt := Lib.hid (Pl.sh_run (b := b) (a := a1) HPo.out (by rcases ha1 with h | h; exact .inl h.1; exact .inr h.2.1))
        have HAs := Lib.hid (show Pl.answer ⟨en, mi, ma, st, wn⟩ ⟨du, mv, de, tl, at0⟩ = (Pl.run ⟨en, mi, ma, st, wn⟩ ⟨du, mv, de, tl, at0⟩, 0) by unfold Pl.answer; rw [if_pos (Pl.possible_iff.2 HPo.out)])
        have HAt := Lib.hid (show Pl.answer (Pl.shPlan b ⟨en, mi, ma, st, wn⟩) ⟨du, mv, de, tl, a1⟩ = (⟨(Pl.run ⟨en, mi, ma, st, wn⟩ ⟨du, mv, de, tl, at0⟩).V.map (Pl.shVisit b), (Pl.run ⟨en, mi, ma, st, wn⟩ ⟨du, mv, de, tl, at0⟩).kind, (Pl.run ⟨en, mi, ma, st, wn⟩ ⟨du, mv, de, tl, at0⟩).num⟩, 0) by unfold Pl.answer; rw [if_pos (Pl.possible_iff.2 HPt.out)]; exact congrArg (·, (0 : Int)) HRt.out)
        have HEn := Lib.hid (Pl.ended (s := ⟨du, mv, de, tl, at0⟩) HFi.out.v)
        clear ha1 HPt HRt HVs
        generalize Pl.run ⟨en, mi, ma, st, wn⟩ ⟨du, mv, de, tl, at0⟩ = R at *
        generalize Pl.shPlan b ⟨en, mi, ma, st, wn⟩ = Q at *
        obtain ⟨V', hV'⟩ : ∃ V', V' = R.V.map (Pl.shVisit b) := ⟨_, rfl⟩
        rw [← hV'] at HAt
        have HV := Lib.hid hV'
        clear hV'
        have c0 := box_cell MM.out.m.p.box 0 (.int .i64 en) rfl
        have c1 := box_cell MM.out.m.p.box 1 (.int .i64 mi) rfl
        have c2 := box_cell MM.out.m.p.box 2 (.int .i64 ma) rfl
        have c3 := box_cell MM.out.m.p.box 3 (.slice sa st.length sc) rfl
        have c4 := box_cell MM.out.m.p.box 4 (.slice wa wn.length wc1) rfl
        have k0 := box_cell MM.out.m.s.box 0 (.slice da du.length dc) rfl
        have k1 := box_cell MM.out.m.s.box 1 (.slice ma' mv.length mc) rfl
        have k2 := box_cell MM.out.m.s.box 2 (.int .i64 de) rfl
        have k3 := box_cell MM.out.m.s.box 3 (.int .i64 tl) rfl
        have k4 := box_cell MM.out.m.s.box 4 (.int .i64 at0) rfl
        go_wp2_with fail
        refine (Run_any ⟨⟨en, mi, ma, st, wn⟩, sa, sc, wa, wc1⟩ ⟨⟨du, mv, de, tl, at0⟩, da, dc, ma', mc⟩ w11x MM.out.m.p.ok MM.out.m.s.ok).mono ?_; rintro e w12x ⟨va, vc, rfl, hv, g10⟩
        rw [HAs.out] at hv
        simp only [HAs.out]
        clear c0 c1 c2 c3 c4 k0 k1 k2 k3 k4
        obtain ⟨a6, c6, e6, hv6, -⟩ := RowO.arg visit_len hv
        injection e6 with e6 _ e6'
        subst e6; subst e6'
        go_upto_region 16 with (fail)
        have hb10 := below_step g10 (below_new w12x (lateObj R.kind R.num))
        have V1 := Lib.hid (hv6.below (below_new w12x (lateObj R.kind R.num)))
        have NL := Lib.hid (heap_alloc_new w12x (lateObj R.kind R.num))
        have MK3 := Lib.hid (MM.out.below hb10)
        have eL : w12x.alloc (.cells #[.int .i64 R.kind, .int .i64 R.num] 36) = w12x.alloc (lateObj R.kind R.num) := rfl
        rw [eL]
        clear eL hb10 hv hv6 g10 MM HAs
        generalize w12x.alloc (lateObj R.kind R.num) = w13x at *
        generalize w12x.heap.size = nl at *
        have c0 := box_cell MK3.out.q.box 0 (.int .i64 Q.entry) rfl
        have c1 := box_cell MK3.out.q.box 1 (.int .i64 Q.mmin) rfl
        have c2 := box_cell MK3.out.q.box 2 (.int .i64 Q.mmax) rfl
        have c3 := box_cell MK3.out.q.box 3 (.slice sb Q.st.length sd) rfl
        have c4 := box_cell MK3.out.q.box 4 (.slice wb Q.wn.length wd) rfl
        have k0 := box_cell MK3.out.m.t.box 0 (.slice ga du.length gc) rfl
        have k1 := box_cell MK3.out.m.t.box 1 (.slice ha mv.length hc) rfl
        have k2 := box_cell MK3.out.m.t.box 2 (.int .i64 de) rfl
        have k3 := box_cell MK3.out.m.t.box 3 (.int .i64 tl) rfl
        have k4 := box_cell MK3.out.m.t.box 4 (.int .i64 a1) rfl
        go_wp2_with fail
        refine (Run_any ⟨Q, sb, sd, wb, wd⟩ ⟨⟨du, mv, de, tl, a1⟩, ga, gc, ha, hc⟩ w13x MK3.out.q.ok MK3.out.m.t.ok).mono ?_; rintro e w14x ⟨ua, uc, rfl, hu, g12⟩
        rw [HAt.out] at hu
        simp only [HAt.out]
        clear c0 c1 c2 c3 c4 k0 k1 k2 k3 k4
        obtain ⟨a6, c6, e6, hu6, -⟩ := RowO.arg visit_len hu
        injection e6 with e6 _ e6'
        subst e6; subst e6'
        go_upto_region 17 with (fail)
        have hb12 := below_step g12 (below_new w14x (lateObj R.kind R.num))
        have U2 := Lib.hid (hu6.below (below_new w14x (lateObj R.kind R.num)))
        have V2 := Lib.hid (V1.out.below hb12)
        have NL2 := Lib.hid (box_below NL.out hb12)
        have NM := Lib.hid (heap_alloc_new w14x (lateObj R.kind R.num))
        have MK4 := Lib.hid (MK3.out.below hb12)
        have eL : w14x.alloc (.cells #[.int .i64 R.kind, .int .i64 R.num] 36) = w14x.alloc (lateObj R.kind R.num) := rfl
        rw [eL]
        clear eL hb12 hu hu6 g12 MK3 HAt V1 NL
        generalize w14x.alloc (lateObj R.kind R.num) = w15x at *
        generalize w14x.heap.size = nm at *

        have HVl := Lib.hid (show V'.length = R.V.length by rw [HV.out, List.length_map])
        have l0 := box_cell NL2.out 0 (.int .i64 R.kind) rfl
        have l1 := box_cell NL2.out 1 (.int .i64 R.num) rfl
        have m0 := box_cell NM.out 0 (.int .i64 R.kind) rfl
        have m1 := box_cell NM.out 1 (.int .i64 R.num) rfl
        have n0 : ((R.V.length : Int) != (V'.length : Int)) = false := by rw [HVl.out]; simp
        have hlen := (Pl.ended_steps HEn.out).2
        have hlb : R.V.length ≤ 5 := Nat.le_trans hlen hl5
        clear hlen
        go_wp2_with fail
        clear l0 l1 m0 m1 n0
        go_loopg [23] R.V.length (fun g iv wr => ∃ k : Nat, k ≤ R.V.length ∧ g = R.V.length - k ∧ iv = .int .i64 (k : Int) ∧ Hid (Below w15x.heap.size w15x wr))
        case atStart => exact ⟨0, by omega, by omega, rfl, Lib.hid (Below.refl _ _)⟩
        case round =>
          obtain ⟨k, hk, rfl, rfl, HK⟩ := hrel
          rename World => wk
          by_cases hlt : k < R.V.length
          · have hlt2 : k < V'.length := by rw [HVl.out]; exact hlt
            have hb1 := Pl.ended_bd HPo.out HEn.out hlt
            rw [Pl.nth_lt hlt] at hb1
            obtain ⟨vb, vo, rfl, hvb, hvc⟩ := V2.out.at (show 0 < R.V.length by omega)
            obtain ⟨ub, uo, rfl, hub, huc⟩ := U2.out.at (show 0 < V'.length by omega)
            have v1 := cell_below HK.out (hvc k hlt 1 (.int .i64 R.V[k].tool) rfl)
            have v2 := cell_below HK.out (hvc k hlt 2 (.int .i64 R.V[k].start) rfl)
            have v3 := cell_below HK.out (hvc k hlt 3 (.int .i64 R.V[k].fin) rfl)
            have u1 := cell_below HK.out (huc k hlt2 1 (.int .i64 V'[k].tool) rfl)
            have u2 := cell_below HK.out (huc k hlt2 2 (.int .i64 V'[k].start) rfl)
            have u3 := cell_below HK.out (huc k hlt2 3 (.int .i64 V'[k].fin) rfl)
            have hvk : V'[k] = Pl.shVisit b R.V[k] := by simp only [HV.out, List.getElem_map]
            rw [hvk] at u1 u2 u3
            simp only [Pl.shVisit] at u1 u2 u3
            clear hvk hvc huc
            generalize R.V[k] = x at *
            obtain ⟨x0, x1, x2, x3⟩ := x
            simp only at v1 v2 v3 u1 u2 u3 hb1
            have i1 : (0 : Int) ≤ (k : Int) := by omega
            have i2 : (k : Int) < (R.V.length : Int) := by omega
            have i3 : (k : Int) < (V'.length : Int) := by omega
            have i4 : ((k : Int)).toNat = k := by omega
            have r1 : IntKind.i64.wrap (x2 + b) = x2 + b := IntWalk.i64_in _ (by omega)
            have r2 : IntKind.i64.wrap (x3 + b) = x3 + b := IntWalk.i64_in _ (by omega)
            clear hb1 hlt2
            go_upto_region 22 with (fail)
            go_quiet (fail)
            go_wp2_with fail
            go_roundg (R.V.length - (k + 1))
            case rel => exact ⟨k + 1, by omega, rfl, by go_num, Lib.hid (below_drewN HK.out _)⟩
            case measure => omega
          · have k1 : ¬ (k : Int) < (R.V.length : Int) := by omega
            have G8 := Lib.hid (below_step MK4.out.m.bel HK.out)
            go_wp2_with fail
            go_ret
            exact ⟨rfl, G8.out⟩
end Go.Proofs.Ytngpkipblcihaaa
