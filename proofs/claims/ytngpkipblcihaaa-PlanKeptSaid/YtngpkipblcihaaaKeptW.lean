/-
  PlanKept walked: what is not late keeps every slot and every window.
-/
import Derived.Test.YtngpkipblcihaaaSt
import Derived.Test.YtngpkipblcihaaaVb
namespace Go.Proofs.Ytngpkipblcihaaa
open Go.RowKit

theorem leave_succ (P : Pl.Plan) (V : List Pl.Visit) (k : Nat) : Pl.leave P V (k + 1) = (Pl.nth V k).fin := by
  unfold Pl.leave; rw [if_neg (by omega)]; rfl
set_option maxRecDepth 100000 in
set_option maxHeartbeats 4000000 in
theorem kept_any (xa ya : Option Addr) (xc yc : Nat) (X Y : List (List Int)) (tool at_ : Int) (W : World) (hX : ArrsA 6 W xa xc X) (hY : ArrsA 2 W ya yc Y) (ft : Fits tool) (fa : Fits at_) :
    Calls Try.prog 3 #[.slice xa X.length xc, .slice ya Y.length yc, .int .i64 tool, .int .i64 at_] W fun e w' => e = .returned (.bool true) ∧ Below W.heap.size W w' := by
  have HX := Lib.hid hX; have HY := Lib.hid hY; clear hX hY
  have HFi := Lib.hid (Pl.made_fine X)
  have hl := Pl.mkN_bd X
  rw [← Pl.made_len X] at hl
  obtain ⟨hl1, hl5⟩ := hl
  go_enter Try.func3, Try.ntmps3
  go_wp2_with fail
  refine (sane_any W).mono ?_; rintro e w1 ⟨rfl, g1⟩
  have G1 := Lib.hid g1; clear g1
  go_wp2_with fail
  refine (Made_any X xa xc w1 (HX.out.below G1.out)).mono ?_; rintro e w2 ⟨sa, sc, wa, wc1, rfl, s1, s2, g2⟩
  have G2 := Lib.hid (below_step G1.out g2)
  have S2 := Lib.hid (made_ok s1 s2)
  clear g2 s1 s2 G1
  go_upto_region 3 with (fail)
  have NP := Lib.hid (heap_alloc_new w2 (planObj ⟨Pl.made X, sa, sc, wa, wc1⟩))
  have G3 := Lib.hid (below_step G2.out (below_new w2 (planObj ⟨Pl.made X, sa, sc, wa, wc1⟩)))
  have S3 := Lib.hid (S2.out.below (below_new w2 (planObj ⟨Pl.made X, sa, sc, wa, wc1⟩)))
  have eL : w2.alloc (.cells #[.int .i64 (Pl.made X).entry, .int .i64 (Pl.made X).mmin, .int .i64 (Pl.made X).mmax, .slice sa (Pl.made X).st.length sc, .slice wa (Pl.made X).wn.length wc1] 28) = w2.alloc (planObj ⟨Pl.made X, sa, sc, wa, wc1⟩) := rfl
  rw [eL]
  clear eL S2 G2
  generalize w2.alloc (planObj ⟨Pl.made X, sa, sc, wa, wc1⟩) = w3 at *
  generalize w2.heap.size = n8 at *
  generalize Pl.made X = P at *
  have c0 := box_cell NP.out 0 (.int .i64 P.entry) rfl
  have c1 := box_cell NP.out 1 (.int .i64 P.mmin) rfl
  have c2 := box_cell NP.out 2 (.int .i64 P.mmax) rfl
  have c3 := box_cell NP.out 3 (.slice sa P.st.length sc) rfl
  have c4 := box_cell NP.out 4 (.slice wa P.wn.length wc1) rfl
  go_wp2_with fail
  refine (Chosen_any ⟨P, sa, sc, wa, wc1⟩ Y ya yc tool at_ w3 S3.out HFi.out (HY.out.below G3.out) ft fa).mono ?_; rintro e w4 ⟨da, dc, ma, mc, rfl, d1, d2, g4, -⟩
  clear c0 c1 c2 c3 c4
  have D4 := Lib.hid (scen_ok d1 d2)
  have NP4 := Lib.hid (box_below NP.out g4)
  have G4 := Lib.hid (below_step G3.out g4)
  have S4 := Lib.hid (S3.out.below g4)
  have HPo := Lib.hid (Pl.chosen_poss HFi.out Y tool at_)
  clear d1 d2 g4 NP G3 S3
  go_upto_region 4 with (fail)
  have NS := Lib.hid (heap_alloc_new w4 (scenObj ⟨Pl.chosen P Y tool at_, da, dc, ma, mc⟩))
  have hb5 := below_new w4 (scenObj ⟨Pl.chosen P Y tool at_, da, dc, ma, mc⟩)
  have NP5 := Lib.hid (box_below NP4.out hb5)
  have G5 := Lib.hid (below_step G4.out hb5)
  have S5 := Lib.hid (S4.out.below hb5)
  have D5 := Lib.hid (D4.out.below hb5)
  have eL : w4.alloc (.cells #[.slice da (Pl.chosen P Y tool at_).dur.length dc, .slice ma (Pl.chosen P Y tool at_).mv.length mc, .int .i64 (Pl.chosen P Y tool at_).det, .int .i64 (Pl.chosen P Y tool at_).tool, .int .i64 (Pl.chosen P Y tool at_).at_] 32) = w4.alloc (scenObj ⟨Pl.chosen P Y tool at_, da, dc, ma, mc⟩) := rfl
  rw [eL]
  clear eL hb5 NP4 G4 S4 D4
  generalize w4.alloc (scenObj ⟨Pl.chosen P Y tool at_, da, dc, ma, mc⟩) = w5 at *
  generalize w4.heap.size = n9 at *
  have HEn := Lib.hid (Pl.ended (s := Pl.chosen P Y tool at_) HFi.out.v)
  have HAn := Lib.hid (show Pl.answer P (Pl.chosen P Y tool at_) = (Pl.run P (Pl.chosen P Y tool at_), 0) by unfold Pl.answer; rw [if_pos (Pl.possible_iff.2 HPo.out)])
  generalize Pl.chosen P Y tool at_ = s at *
  have c0 := box_cell NP5.out 0 (.int .i64 P.entry) rfl
  have c1 := box_cell NP5.out 1 (.int .i64 P.mmin) rfl
  have c2 := box_cell NP5.out 2 (.int .i64 P.mmax) rfl
  have c3 := box_cell NP5.out 3 (.slice sa P.st.length sc) rfl
  have c4 := box_cell NP5.out 4 (.slice wa P.wn.length wc1) rfl
  have k0 := box_cell NS.out 0 (.slice da s.dur.length dc) rfl
  have k1 := box_cell NS.out 1 (.slice ma s.mv.length mc) rfl
  have k2 := box_cell NS.out 2 (.int .i64 s.det) rfl
  have k3 := box_cell NS.out 3 (.int .i64 s.tool) rfl
  have k4 := box_cell NS.out 4 (.int .i64 s.at_) rfl
  go_wp2_with fail
  refine (Run_any ⟨P, sa, sc, wa, wc1⟩ ⟨s, da, dc, ma, mc⟩ w5 S5.out D5.out).mono ?_; rintro e w6 ⟨va, vc, rfl, hv, g6⟩
  rw [HAn.out] at hv
  simp only [HAn.out]
  clear c0 c1 c2 c3 c4 k0 k1 k2 k3 k4
  obtain ⟨a6, c6, e6, hv6, -⟩ := RowO.arg visit_len hv
  injection e6 with e6 _ e6'
  subst e6; subst e6'
  have V6 := Lib.hid (show VsA w6 va vc (Pl.run P s).V from hv6)
  have NP6 := Lib.hid (box_below NP5.out g6)
  have NS6 := Lib.hid (box_below NS.out g6)
  have S6 := Lib.hid (S5.out.below g6)
  have G6 := Lib.hid (below_step G5.out g6)
  have D6 := Lib.hid (D5.out.below g6)
  clear hv hv6 g6 NP5 NS S5 D5 G5
  generalize hR : Pl.run P s = R at *
  go_upto_region 5 with (fail)
  have NL := Lib.hid (heap_alloc_new w6 (lateObj R.kind R.num))
  have hb7 := below_new w6 (lateObj R.kind R.num)
  have V7 := Lib.hid (V6.out.below hb7)
  have NP7 := Lib.hid (box_below NP6.out hb7)
  have NS7 := Lib.hid (box_below NS6.out hb7)
  have D7 := Lib.hid (D6.out.below hb7)
  have S7 := Lib.hid (S6.out.below hb7)
  have G7 := Lib.hid (below_step G6.out hb7)
  have eL : w6.alloc (.cells #[.int .i64 R.kind, .int .i64 R.num] 36) = w6.alloc (lateObj R.kind R.num) := rfl
  rw [eL]
  clear eL hb7 V6 NP6 NS6 S6 G6 D6
  generalize w6.alloc (lateObj R.kind R.num) = w7 at *
  generalize w6.heap.size = n10 at *
  have l0 := box_cell NL.out 0 (.int .i64 R.kind) rfl
  have l1 := box_cell NL.out 1 (.int .i64 R.num) rfl
  have c3 := box_cell NP7.out 3 (.slice sa P.st.length sc) rfl
  have c4 := box_cell NP7.out 4 (.slice wa P.wn.length wc1) rfl
  by_cases hs : R.kind = 0
  · obtain ⟨hn, hst, hkp⟩ : R.num = 0 ∧ Pl.Steps P s P.st.length R.V ∧ Pl.Kept P P.st.length R.V := by
      rcases HEn.out with ⟨h1, h2, h3, h4⟩ | ⟨j, h1, h2, hj, h3, h4⟩ | ⟨j, k, hk, h1, h2, hj, h3, h4, h5, h6, h7⟩
      · exact ⟨h2, h3, h4⟩
      · omega
      · omega
    have HSt := Lib.hid hst; have HKp := Lib.hid hkp
    have HVl := Lib.hid hst.len
    have q3 : ((R.V.length : Nat) : Int) = (P.st.length : Int) := by have := hst.len; omega
    rw [hs] at l0
    rw [hn] at l1
    clear hs hn hst hkp
    have c0 := box_cell NP7.out 0 (.int .i64 P.entry) rfl
    go_wp2_with fail
    clear q3 c0 c3 c4 l0 l1
    go_loopg [15, 16] R.V.length (fun g bv iv wr => ∃ k : Nat, k ≤ R.V.length ∧ g = R.V.length - k ∧ bv = .int .i64 (Pl.leave P R.V k) ∧ iv = .int .i64 (k : Int) ∧ Hid (Below w7.heap.size w7 wr))
    case atStart => exact ⟨0, by omega, by omega, rfl, rfl, Lib.hid (Below.refl _ _)⟩
    case round =>
      obtain ⟨k, hk, rfl, rfl, rfl, HK⟩ := hrel
      rename World => wk
      by_cases hlt : k < R.V.length
      · have hkl : k < P.st.length := by have := HVl.out; omega
        have hdk : k < s.dur.length := by have := HPo.out.dlen; omega
        have hDo := Pl.done_of HPo.out hkl (HSt.out.each k hkl hkl)
        have hSp := (HSt.out.each k hkl hkl).step
        have ok := HPo.out.v.st P.st[k] (List.getElem_mem hkl)
        have hdu := HPo.out.dur k hkl
        have hmm := HPo.out.v.mmin; have hmx := HPo.out.v.mmax
        have hlv : 0 ≤ Pl.leave P R.V k ∧ Pl.leave P R.V k ≤ 1010000 := by
          cases k with
          | zero => have := HPo.out.v.entry; have e0 : Pl.leave P R.V 0 = P.entry := rfl; omega
          | succ j => rw [leave_succ]; have := Pl.ended_bd HPo.out HEn.out (show j < R.V.length by omega); omega
        obtain ⟨vb, vo, rfl, hvb, hvc⟩ := V7.out.at (show 0 < R.V.length by omega)
        obtain ⟨sb, so, rfl, hsb, hsc⟩ := S7.out.st.at (show 0 < P.st.length by omega)
        obtain ⟨db, dof, rfl, hdb, hdc⟩ := D7.out.du.at (show 0 < s.dur.length by omega)
        have V0 := Lib.hid (cell_below HK.out (hvc k hlt 0 (.int .i64 R.V[k].step) rfl))
        have V1 := Lib.hid (cell_below HK.out (hvc k hlt 1 (.int .i64 R.V[k].tool) rfl))
        have V2 := Lib.hid (cell_below HK.out (hvc k hlt 2 (.int .i64 R.V[k].start) rfl))
        have V3 := Lib.hid (cell_below HK.out (hvc k hlt 3 (.int .i64 R.V[k].fin) rfl))
        have S2 := Lib.hid (cell_below HK.out (hsc k hkl 2 (.int .i64 P.st[k].m.tool) rfl))
        have S3 := Lib.hid (cell_below HK.out (hsc k hkl 3 (.int .i64 P.st[k].m.start) rfl))
        have S4 := Lib.hid (cell_below HK.out (hsc k hkl 4 (.int .i64 P.st[k].s.tool) rfl))
        have S5 := Lib.hid (cell_below HK.out (hsc k hkl 5 (.int .i64 P.st[k].s.start) rfl))
        have DU := Lib.hid (cell_below HK.out (hdc k hdk 0 (.int .i64 s.dur[k]) rfl))
        have hdg : s.dur.getD k 0 = s.dur[k] := by rw [List.getD_eq_getElem?_getD, List.getElem?_eq_getElem hdk]; rfl
        have HLs := Lib.hid (leave_succ P R.V k)
        rw [hdg] at hDo hdu
        rw [Pl.nth_lt hlt] at hDo hSp HLs
        generalize P.st[k] = x at *
        generalize R.V[k] = v at *
        generalize s.dur[k] = d at *
        generalize hle : Pl.leave P R.V k = t at *
        obtain ⟨mn, mx, ⟨mt, ms⟩, ⟨st, ss⟩⟩ := x
        obtain ⟨vs, vt, vst, vf⟩ := v
        obtain ⟨o1, o2, o3, o4, o5, o6, o7, o8⟩ := ok
        simp only at *
        subst hSp
        obtain ⟨d1, d2, d3⟩ := hDo
        subst d2
        clear hvc hsc hdc hdg hle
        have c1 := cell_below HK.out (box_cell NP7.out 1 (.int .i64 P.mmin) rfl)
        have c3 := cell_below HK.out (box_cell NP7.out 3 (.slice (some ⟨sb, so, none⟩) P.st.length sc) rfl)
        have k0 := cell_below HK.out (box_cell NS7.out 0 (.slice (some ⟨db, dof, none⟩) s.dur.length dc) rfl)
        have k3 := cell_below HK.out (box_cell NS7.out 3 (.int .i64 s.tool) rfl)
        have k4 := cell_below HK.out (box_cell NS7.out 4 (.int .i64 s.at_) rfl)
        have i1 : (0 : Int) ≤ (k : Int) := by omega
        have i2 : (k : Int) < (R.V.length : Int) := by omega
        have i3 : (k : Int) < (P.st.length : Int) := by omega
        have i5 : (k : Int) < (s.dur.length : Int) := by omega
        have i4 : ((k : Int)).toNat = k := by omega
        have v1 := V1.out
        have v2 := V2.out
        go_upto_region 15 with (fail)
        have hdr : Below wk.heap.size wk wk.drew := (Below.refl _ _).drew
        go_region_held3 (fun v => v.cell? ⟨vb, vo + k * 4 + 1, none⟩ = some (.int .i64 vt) ∧ v.cell? ⟨vb, vo + k * 4 + 2, none⟩ = some (.int .i64 vst)) (go_keep) (fail)
        have NW := Lib.hid (show (wk.alloc (.cells #[.int .i64 vt, .int .i64 vst] 43)).drew.heap[wk.heap.size]? = some (.cells #[.int .i64 vt, .int .i64 vst] 43) from heap_alloc_new wk (.cells #[.int .i64 vt, .int .i64 vst] 43))
        have hb8 : Below wk.heap.size wk (wk.alloc (.cells #[.int .i64 vt, .int .i64 vst] 43)).drew := (below_new wk (.cells #[.int .i64 vt, .int .i64 vst] 43)).drew
        have HK2 := Lib.hid (below_step HK.out hb8)
        have V0 := cell_below hb8 V0.out; have V1 := cell_below hb8 V1.out; have V2 := cell_below hb8 V2.out; have V3 := cell_below hb8 V3.out
        have S2 := cell_below hb8 S2.out; have S3 := cell_below hb8 S3.out; have S4 := cell_below hb8 S4.out; have S5 := cell_below hb8 S5.out
        have DU := cell_below hb8 DU.out
        have c1 := cell_below hb8 c1; have c3 := cell_below hb8 c3; have k0 := cell_below hb8 k0; have k3 := cell_below hb8 k3; have k4 := cell_below hb8 k4
        clear hb8 hdr v1 v2
        generalize (wk.alloc (.cells #[.int .i64 vt, .int .i64 vst] 43)).drew = wl at *
        generalize wk.heap.size = n17 at *
        have b0 := box_cell NW.out 0 (.int .i64 vt) rfl
        have b1 := box_cell NW.out 1 (.int .i64 vst) rfl
        simp only [Nat.add_zero, Nat.mul_one] at V0 DU
        have r3 : ¬ vst < t + P.mmin := by omega
        have r1 : IntKind.i64.wrap (vst + d) = vst + d := IntWalk.i64_in _ (by omega)
        have r2 : IntKind.i64.wrap (t + P.mmin) = t + P.mmin := IntWalk.i64_in _ (by omega)
        clear o1 o2 o3 o5 o6 o7 o8 d1 hdu hmm hmx hlv
        go_upto_region 16 with (fail)
        go_cut [128] (fun s128 wx => s128 = .bool false ∧ ∃ n, wx = wl.drewN n)
        case first => as_aux_lemma =>
          rcases d3 with ⟨e1, e2, hfa⟩ | ⟨e1, e2⟩
          · subst e1
            subst e2
            clear hfa o4
            go_quiet (fail)
            go_wp2_with fail
            go_meet
            exact ⟨rfl, _, rfl⟩
          · subst e1
            subst e2
            have n1 : ¬ vt = mt := fun e => o4 e.symm
            clear o4
            go_quiet (fail)
            go_wp2_with fail
            go_meet
            exact ⟨rfl, _, rfl⟩
        case rest =>
          obtain ⟨rfl, nq, rfl⟩ := hcut
          have HD := Lib.hid (below_drewN (Below.refl wl.heap.size wl) nq)
          have HK3 := Lib.hid (below_step HK2.out HD.out)
          have V1 := cell_below HD.out V1; have V2 := cell_below HD.out V2; have V3 := cell_below HD.out V3
          have S2 := cell_below HD.out S2; have S3 := cell_below HD.out S3
          have c3 := cell_below HD.out c3; have k3 := cell_below HD.out k3; have k4 := cell_below HD.out k4
          have b0 := cell_below HD.out b0; have b1 := cell_below HD.out b1
          clear HD V0 S4 S5 DU c1 k0
          generalize wl.drewN nq = wm at *
          go_upto_region 18 with (fail)
          go_cut [156] (fun s156 wx => s156 = .bool false ∧ ∃ n, wx = wm.drewN n)
          case first => as_aux_lemma =>
            rcases d3 with ⟨e1, e2, hfa⟩ | ⟨e1, e2⟩
            · subst e1
              subst e2
              clear o4
              by_cases ht : s.tool = vt
              · have n2 : ¬ s.at_ < vst + d := by have := hfa ht; omega
                have n3 : (s.tool == vt) = true := by simp [ht]
                clear hfa ht
                go_quiet (fail)
                go_wp2_with fail
                go_meet
                exact ⟨rfl, _, rfl⟩
              · have n3 : (s.tool == vt) = false := by simp [ht]
                clear hfa ht
                go_quiet (fail)
                go_wp2_with fail
                go_meet
                exact ⟨rfl, _, rfl⟩
            · subst e1
              subst e2
              have n1 : ¬ vt = mt := fun e => o4 e.symm
              clear o4
              by_cases ht : s.tool = vt
              · have n3 : (s.tool == vt) = true := by simp [ht]
                clear ht
                go_quiet (fail)
                go_wp2_with fail
                go_meet
                exact ⟨rfl, _, rfl⟩
              · have n3 : (s.tool == vt) = false := by simp [ht]
                clear ht
                go_quiet (fail)
                go_wp2_with fail
                go_meet
                exact ⟨rfl, _, rfl⟩
          case rest =>
            obtain ⟨rfl, nr, rfl⟩ := hcut
            have HD := Lib.hid (below_drewN (Below.refl wm.heap.size wm) nr)
            have HK4 := Lib.hid (below_step HK3.out HD.out)
            have V3 := cell_below HD.out V3
            clear HD V1 V2 S2 S3 c3 k3 k4 b0 b1
            generalize wm.drewN nr = wn at *
            go_wp2_with fail
            go_roundg (R.V.length - (k + 1))
            case rel => exact ⟨k + 1, by omega, rfl, by rw [HLs.out], by go_num, HK4⟩
            case measure => omega
      · have k1 : ¬ (k : Int) < (R.V.length : Int) := by omega
        go_wp2_with fail
        clear k1
        have hwl : P.wn.length ≤ 20 := HFi.out.v.wlen
        go_loopg [18] P.wn.length (fun g iv wr => ∃ i : Nat, i ≤ P.wn.length ∧ g = P.wn.length - i ∧ iv = .int .i64 (i : Int) ∧ Hid (Below w7.heap.size w7 wr))
        case atStart => exact ⟨0, by omega, by omega, rfl, HK⟩
        case round =>
          obtain ⟨i, hi, rfl, rfl, HM⟩ := hrel
          rename World => wm
          have c4 := cell_below HM.out (box_cell NP7.out 4 (.slice wa P.wn.length wc1) rfl)
          by_cases hil : i < P.wn.length
          · obtain ⟨b, off, rfl, hb, hc⟩ := S7.out.wn.2.2 i hil
            have f0 := cell_below HM.out (hc 0 (.int .i64 P.wn[i].f) rfl)
            have f1 := cell_below HM.out (hc 1 (.int .i64 P.wn[i].t) rfl)
            have f2 := cell_below HM.out (hc 2 (.int .i64 P.wn[i].lim) rfl)
            have hw := HFi.out.v.wn P.wn[i] (List.getElem_mem hil)
            have hmk := HKp.out P.wn[i] (List.getElem_mem hil) hw.t
            generalize P.wn[i] = x at *
            obtain ⟨xf, xt, xl⟩ := x
            obtain ⟨w1, w2, w3, w4⟩ := hw
            simp only at f0 f1 f2 hmk w1 w2 w3 w4
            obtain ⟨tn, rfl⟩ := Int.eq_ofNat_of_zero_le (show 0 ≤ xt by omega)
            obtain ⟨fn, rfl⟩ := Int.eq_ofNat_of_zero_le w1
            have hvl := HVl.out
            have ht1 : tn < R.V.length := by omega
            have hf1 : fn < R.V.length := by omega
            clear hvl
            have B1 := Pl.ended_bd HPo.out HEn.out ht1
            have B2 := Pl.ended_bd HPo.out HEn.out hf1
            obtain ⟨vb, vo, rfl, hvb, hvc⟩ := V7.out.at (show 0 < R.V.length by omega)
            have v2 := cell_below HM.out (hvc tn ht1 2 (.int .i64 R.V[tn].start) rfl)
            have u3 := cell_below HM.out (hvc fn hf1 3 (.int .i64 R.V[fn].fin) rfl)
            unfold Pl.missed at hmk
            simp only at hmk
            rw [Pl.nth_lt ht1] at hmk B1
            rw [Pl.nth_lt hf1] at hmk B2
            have hmk := of_decide_eq_false hmk
            generalize R.V[tn].start = vs at *
            generalize R.V[fn].fin = u at *
            have q1 : ¬ vs - u > xl := hmk
            have i1 : (0 : Int) ≤ (i : Int) := by omega
            have i2 : (i : Int) < (P.wn.length : Int) := by omega
            have i3 : ((i : Int)).toNat = i := by omega
            have i4 : (tn : Int) < (R.V.length : Int) := by omega
            have i5 : (fn : Int) < (R.V.length : Int) := by omega
            have q2 : IntKind.i64.wrap (vs - u) = vs - u := IntWalk.i64_in _ (by omega)
            clear hvc hc hmk B1 B2
            simp only [Nat.add_zero] at f0
            go_upto_region 25 with (fail)
            have NW := Lib.hid (heap_alloc_new wm (.cells #[.int .i64 (fn : Int), .int .i64 (tn : Int), .int .i64 xl] 47))
            have hb9 := below_new wm (.cells #[.int .i64 (fn : Int), .int .i64 (tn : Int), .int .i64 xl] 47)
            have HM2 := Lib.hid (below_step HM.out hb9)
            have v2 := cell_below hb9 v2
            have u3 := cell_below hb9 u3
            clear hb9 f0 f1 f2 c4
            generalize wm.alloc (.cells #[.int .i64 (fn : Int), .int .i64 (tn : Int), .int .i64 xl] 47) = wl at *
            generalize wm.heap.size = n11 at *
            have f0 := box_cell NW.out 0 (.int .i64 (fn : Int)) rfl
            have f1 := box_cell NW.out 1 (.int .i64 (tn : Int)) rfl
            have f2 := box_cell NW.out 2 (.int .i64 xl) rfl
            go_quiet (fail)
            go_wp2_with fail
            go_roundg (P.wn.length - (i + 1))
            case rel => exact ⟨i + 1, by omega, rfl, by go_num, Lib.hid (below_drewN HM2.out _)⟩
            case measure => omega
          · have k2 : ¬ (i : Int) < (P.wn.length : Int) := by omega
            have G8 := Lib.hid (below_step G7.out HM.out)
            go_wp2_with fail
            go_ret
            exact ⟨rfl, G8.out⟩
  · have hs2 : ¬ R.kind = (0 : Int) := hs
    go_wp2_with fail
    go_ret
    exact ⟨rfl, G7.out⟩
end Go.Proofs.Ytngpkipblcihaaa
