/-
  CertifyUnsafe walked.
  The reference's Shorter: all windows shorter by a number.
  Slack on paper: with all windows shorter by it the plan is safe, with one minute more it is not.
  CertifySlack walked.
  CertifySlack: for every input that can be read the call returns true and leaves the input as it was; the row, and its card, whose table is tied to the program's text. No condition beside what the row says.
-/
import Derived.Test.YtihohjgjklcnlaaDoorQCf
import Derived.Test.YtihohjgjklcnlaaDoorQCg
import Derived.Test.YtihohjgjklcnlaaDoorQBz
import Derived.Deep.LoopGhost
import Derived.Deep.DeepCutAuto
import Derived.Test.YtihohjgjklcnlaaDoorQBw
import Derived.Test.YtihohjgjklcnlaaDoorQBx
import Derived.Test.YtihohjgjklcnlaaDoorQCh9
namespace Go.Proofs.YtihohjgjklcnlaaDoor
open Go.RowKit Go.Shelf
attribute [local go_sem] Oper.semAt_some
theorem check_is (q : PlanP) (w : World) (h : q.ok w) {s : Pl.Scen} {b : Bool} (hR : Pl.checkR q.p = (s, b)) : Calls Tryd.prog 12 #[q.val] w (ChkEx s b w) := by
  refine (Check_any q w h).mono fun e w' ⟨r, h1, h2, h3, h4⟩ => ?_
  obtain ⟨s', da, dc, ma, mc⟩ := r
  rw [hR] at h1 h2
  simp only at h1
  subst h1
  exact ⟨da, dc, ma, mc, h2, h3.ok, h4⟩
set_option maxRecDepth 100000 in
set_option maxHeartbeats 4000000 in
theorem unsafe_any (xa : Option Addr) (xc : Nat) (X : List (List Int)) (t : Bool) (W : World) (ht : Wb.Tab W) (hX : ArrsA 6 W xa xc X) :
    Calls Tryd.prog 4 #[.slice xa X.length xc, .bool t] W fun e w' => e = .returned (.bool true) ∧ Below W.heap.size W w' := by
  have HX := Lib.hid hX; have HT := Lib.hid ht; clear hX ht
  have HFi := Lib.hid (Pl.made9_fine X t)
  go_enter Tryd.func4, Tryd.ntmps4
  go_wp2_with fail
  refine (sane_any W HT.out).mono ?_; rintro e w1 ⟨rfl, g1⟩
  have G1 := Lib.hid g1; clear g1
  go_wp2_with fail
  refine (made_any X t xa xc w1 (HX.out.below G1.out)).mono ?_; rintro e w2 ⟨sa, sc, wa, wc, rfl, s1, s2, g2⟩
  have G2 := Lib.hid (below_step G1.out g2)
  have O2 := Lib.hid (show StO w2 W.heap.size (.slice sa (Pl.made9 X t).st.length sc) (Pl.made9 X t).st ∧ WnO w2 W.heap.size (.slice wa (Pl.made9 X t).wn.length wc) (Pl.made9 X t).wn from ⟨s1.mono G1.out.size, s2.mono G1.out.size⟩)
  clear g2 s1 s2 G1
  obtain ⟨P, hP⟩ : ∃ P, Pl.made9 X t = P := ⟨_, rfl⟩
  rw [hP] at O2 HFi
  rw [hP]
  have HP := Lib.hid hP
  clear hP
  go_upto_region 3 with (fail)
  have hb := below_new w2 (.cells #[.int .i64 P.entry, .int .i64 P.mmin, .int .i64 P.mmax, .slice sa P.st.length sc, .slice wa P.wn.length wc] 28)
  have NP := Lib.hid (heap_alloc_new w2 (.cells #[.int .i64 P.entry, .int .i64 P.mmin, .int .i64 P.mmax, .slice sa P.st.length sc, .slice wa P.wn.length wc] 28))
  have G3 := Lib.hid (below_step G2.out hb)
  have O3 := Lib.hid (show StO (w2.alloc (.cells #[.int .i64 P.entry, .int .i64 P.mmin, .int .i64 P.mmax, .slice sa P.st.length sc, .slice wa P.wn.length wc] 28)) W.heap.size (.slice sa P.st.length sc) P.st ∧ WnO (w2.alloc (.cells #[.int .i64 P.entry, .int .i64 P.mmin, .int .i64 P.mmax, .slice sa P.st.length sc, .slice wa P.wn.length wc] 28)) W.heap.size (.slice wa P.wn.length wc) P.wn from ⟨RowO.below O2.out.1 hb, RowO.below O2.out.2 hb⟩)
  have S3 := Lib.hid (made_ok O3.out.1 O3.out.2 : PlanP.ok ⟨P, sa, sc, wa, wc⟩ _)
  clear hb O2 G2
  generalize w2.alloc (.cells #[.int .i64 P.entry, .int .i64 P.mmin, .int .i64 P.mmax, .slice sa P.st.length sc, .slice wa P.wn.length wc] 28) = w3 at *
  generalize w2.heap.size = n8 at *
  have c0 := box_cell NP.out 0 (.int .i64 P.entry) rfl
  have c1 := box_cell NP.out 1 (.int .i64 P.mmin) rfl
  have c2 := box_cell NP.out 2 (.int .i64 P.mmax) rfl
  have c3 := box_cell NP.out 3 (.slice sa P.st.length sc) rfl
  have c4 := box_cell NP.out 4 (.slice wa P.wn.length wc) rfl
  by_cases hs : Pl.SafeC P
  · have CK := Lib.hid (check_is ⟨P, sa, sc, wa, wc⟩ w3 S3.out (Pl.check_safe HFi.out.v hs))
    clear hs
    go_wp2_with fail
    refine CK.out.mono ?_; rintro e w4 ⟨da, dc, ma, mc, rfl, -, g⟩
    have G4 := Lib.hid (below_step (below_step G3.out g) (below_new w4 (.cells #[.slice da 0 dc, .slice ma 0 mc, .int .i64 0, .int .i64 0, .int .i64 0] 32)))
    have NS := Lib.hid (heap_alloc_new w4 (.cells #[.slice da 0 dc, .slice ma 0 mc, .int .i64 0, .int .i64 0, .int .i64 0] 32))
    clear g CK c0 c1 c2 c3 c4
    simp only [Pl.scen0, List.length_nil]
    go_upto_region 4 with (fail)
    generalize w4.alloc (.cells #[.slice da 0 dc, .slice ma 0 mc, .int .i64 0, .int .i64 0, .int .i64 0] 32) = w5 at *
    have k0 := box_cell NS.out 0 (.slice da 0 dc) rfl
    have k1 := box_cell NS.out 1 (.slice ma 0 mc) rfl
    have k3 := box_cell NS.out 3 (.int .i64 0) rfl
    go_wp2_with fail
    go_ret
    exact ⟨rfl, G4.out⟩
  · obtain ⟨s, hR, hPo, hk⟩ := Pl.check_unsafe HFi.out.v hs
    have CK := Lib.hid (check_is ⟨P, sa, sc, wa, wc⟩ w3 S3.out hR)
    have HPo := Lib.hid hPo
    have HKi := Lib.hid hk
    clear hs hR hPo hk
    go_wp2_with fail
    refine CK.out.mono ?_; rintro e w4 ⟨da, dc, ma, mc, rfl, ok, g⟩
    have hb := below_new w4 (.cells #[.slice da s.dur.length dc, .slice ma s.mv.length mc, .int .i64 s.det, .int .i64 s.tool, .int .i64 s.at_] 32)
    have G5 := Lib.hid (below_step (below_step G3.out g) hb)
    have NS := Lib.hid (heap_alloc_new w4 (.cells #[.slice da s.dur.length dc, .slice ma s.mv.length mc, .int .i64 s.det, .int .i64 s.tool, .int .i64 s.at_] 32))
    have NP5 := Lib.hid (box_below (box_below NP.out g) hb)
    have S5 := Lib.hid ((S3.out.below g).below hb)
    have D5 := Lib.hid (ok.below hb)
    clear g CK c0 c1 c2 c3 c4 hb ok G3 NP S3 O3
    go_upto_region 6 with (fail)
    generalize w4.alloc (.cells #[.slice da s.dur.length dc, .slice ma s.mv.length mc, .int .i64 s.det, .int .i64 s.tool, .int .i64 s.at_] 32) = w5 at *
    generalize w4.heap.size = n9 at *
    have RN := run_ends ⟨P, sa, sc, wa, wc⟩ ⟨s, da, dc, ma, mc⟩ w5 S5.out D5.out
    rw [answer_of HPo.out] at RN
    have RN := Lib.hid RN
    have HPs := Lib.hid (Pl.possible_iff.2 HPo.out)
    generalize Pl.run P s = R at *
    have c0 := box_cell NP5.out 0 (.int .i64 P.entry) rfl
    have c1 := box_cell NP5.out 1 (.int .i64 P.mmin) rfl
    have c2 := box_cell NP5.out 2 (.int .i64 P.mmax) rfl
    have c3 := box_cell NP5.out 3 (.slice sa P.st.length sc) rfl
    have c4 := box_cell NP5.out 4 (.slice wa P.wn.length wc) rfl
    have k0 := box_cell NS.out 0 (.slice da s.dur.length dc) rfl
    have k1 := box_cell NS.out 1 (.slice ma s.mv.length mc) rfl
    have k2 := box_cell NS.out 2 (.int .i64 s.det) rfl
    have k3 := box_cell NS.out 3 (.int .i64 s.tool) rfl
    have k4 := box_cell NS.out 4 (.int .i64 s.at_) rfl
    go_wp2_with fail
    refine RN.out.mono ?_; rintro e w6 ⟨va, vc, rfl, -, g, -⟩
    clear c0 c1 c2 c3 c4 k0 k1 k2 k3 k4 RN
    have hb := below_new w6 (.cells #[.int .i64 R.kind, .int .i64 R.num] 38)
    have NL := Lib.hid (heap_alloc_new w6 (.cells #[.int .i64 R.kind, .int .i64 R.num] 38))
    have G7 := Lib.hid (below_step (below_step G5.out g) hb)
    have NS7 := Lib.hid (box_below (box_below NS.out g) hb)
    have NP7 := Lib.hid (box_below (box_below NP5.out g) hb)
    have S7 := Lib.hid ((S5.out.below g).below hb)
    have D7 := Lib.hid ((D5.out.below g).below hb)
    clear g hb NS NP5 S5 D5 G5
    go_upto_region 7 with (fail)
    generalize w6.alloc (.cells #[.int .i64 R.kind, .int .i64 R.num] 38) = w7 at *
    generalize w6.heap.size = n10 at *
    have PS := Possible_any ⟨P, sa, sc, wa, wc⟩ ⟨s, da, dc, ma, mc⟩ w7 S7.out D7.out
    rw [show Pl.possible P s = true from HPs.out] at PS
    have PS := Lib.hid PS
    have c0 := box_cell NP7.out 0 (.int .i64 P.entry) rfl
    have c1 := box_cell NP7.out 1 (.int .i64 P.mmin) rfl
    have c2 := box_cell NP7.out 2 (.int .i64 P.mmax) rfl
    have c3 := box_cell NP7.out 3 (.slice sa P.st.length sc) rfl
    have c4 := box_cell NP7.out 4 (.slice wa P.wn.length wc) rfl
    have k0 := box_cell NS7.out 0 (.slice da s.dur.length dc) rfl
    have k1 := box_cell NS7.out 1 (.slice ma s.mv.length mc) rfl
    have k2 := box_cell NS7.out 2 (.int .i64 s.det) rfl
    have k3 := box_cell NS7.out 3 (.int .i64 s.tool) rfl
    have k4 := box_cell NS7.out 4 (.int .i64 s.at_) rfl
    go_wp2_with fail
    refine PS.out.mono ?_; rintro e w8 ⟨rfl, g⟩
    have l0 := box_cell (box_below NL.out g) 0 (.int .i64 R.kind) rfl
    have n1 : (R.kind != 0) = true := by simpa using HKi.out
    have G8 := Lib.hid (below_step G7.out g)
    clear c0 c1 c2 c3 c4 k0 k1 k2 k3 k4 g PS
    go_wp2_with fail
    go_ret
    exact ⟨rfl, G8.out⟩
end Go.Proofs.YtihohjgjklcnlaaDoor

namespace Go.Proofs.YtihohjgjklcnlaaDoor
open Go.RowKit Go.Shelf
attribute [local go_sem] Oper.semAt_some
namespace Pl
def shortW (k : Int) (x : Win) : Win := ⟨x.f, x.t, x.lim - k⟩
def shortP (p : Plan) (k : Int) : Plan := ⟨p.entry, p.mmin, p.mmax, p.st, p.wn.map (shortW k)⟩
end Pl
set_option maxRecDepth 100000 in
set_option maxHeartbeats 2000000 in
theorem Shorter_any (p : Pl.Plan) (sa wa : Option Addr) (sc wc : Nat) (k : Int) (w : World) (h : PlanP.ok ⟨p, sa, sc, wa, wc⟩ w) (hb : ∀ x ∈ p.wn, 0 ≤ x.lim ∧ x.lim ≤ 1000000) (hk : -10000000 ≤ k ∧ k ≤ 10000000) (hl : p.wn.length ≤ 100) :
    Calls Tryd.prog 19 #[PlanP.val ⟨p, sa, sc, wa, wc⟩, .int .i64 k] w fun e w' => ∃ wb wd, e = .returned (PlanP.val ⟨Pl.shortP p k, sa, sc, wb, wd⟩) ∧ PlanP.ok ⟨Pl.shortP p k, sa, sc, wb, wd⟩ w' ∧ Below w.heap.size w w' := by
  have hb1 := below_new w (planObj ⟨p, sa, sc, wa, wc⟩)
  have hb2 := below_new (w.alloc (planObj ⟨p, sa, sc, wa, wc⟩)) ow0
  have HQ := Lib.hid ((h.below hb1).below hb2)
  have H0 := Lib.hid h
  have BL := Lib.hid (below_step hb1 hb2)
  have A1 := Lib.hid (box_below (heap_alloc_new w (planObj ⟨p, sa, sc, wa, wc⟩)) hb2)
  have B1 := heap_alloc_new (w.alloc (planObj ⟨p, sa, sc, wa, wc⟩)) ow0
  rw [show (w.alloc (planObj ⟨p, sa, sc, wa, wc⟩)).heap.size = w.heap.size + 1 by simp] at B1
  have HR := Lib.hid B1
  have HBd := Lib.hid hb
  clear B1 hb1 hb2 h hb
  obtain ⟨en, mi, ma, st, wn⟩ := p
  simp only at hl
  dsimp only [planObj, ow0] at HQ BL A1 HR
  go_enter Tryd.func19, Tryd.ntmps19
  go_upto_region 1 with (fail)
  generalize (w.alloc (.cells #[.int .i64 en, .int .i64 mi, .int .i64 ma, .slice sa st.length sc, .slice wa wn.length wc] 28)).alloc (.cells #[.int .i64 0, .int .i64 0, .int .i64 0, .slice none 0 0, .slice none 0 0] 28) = w1 at *
  have SZ := Lib.hid (show w.heap.size + 1 < w1.heap.size from lt_of_block HR.out)
  obtain ⟨n0, hn0⟩ : ∃ n, w.heap.size = n := ⟨_, rfl⟩
  rw [hn0] at A1 HR SZ
  rw [hn0]
  have HN0 := Lib.hid hn0
  clear hn0
  go_wp2_with fail
  obtain ⟨i0, hi0, hz0, hz1, hz2⟩ := info_parts rl_info_W
  go_loopg [5, 6] wn.length (fun g lv iv wr => ∃ (T : List Pl.Win) (j : Nat) (sb : Option Addr) (sd : Nat), j ≤ wn.length ∧ g = wn.length - j ∧ lv = .slice sb T.length sd ∧ iv = .int .i64 (j : Int) ∧ Hid (T.length = j ∧ T = (wn.take j).map (Pl.shortW k) ∧ WnO wr w1.heap.size (.slice sb T.length sd) T ∧ Below w1.heap.size w1 wr))
  case atStart => exact ⟨[], 0, none, 0, by omega, by omega, rfl, rfl, Lib.hid ⟨rfl, rfl, RowO.nil _ _ _ _ _, Below.refl _ _⟩⟩
  case round =>
    obtain ⟨T, j, sb, sd, hj, rfl, rfl, rfl, HK⟩ := hrel
    rename World => wr
    have hT : T.length ≤ 100 := by have := HK.out.1; omega
    have P1 := Lib.hid (box_below A1.out HK.out.2.2.2)
    have d4 := box_cell P1.out 4 (.slice wa wn.length wc) rfl
    by_cases hlt : j < wn.length
    · obtain ⟨b1, o1, rfl, hb1, hc1⟩ := (HQ.out.wn.below HK.out.2.2.2).at (show 0 < wn.length by omega)
      have s0 := hc1 j hlt 0 (.int .i64 wn[j].f) rfl
      have s1 := hc1 j hlt 1 (.int .i64 wn[j].t) rfl
      have s2 := hc1 j hlt 2 (.int .i64 wn[j].lim) rfl
      simp only [Nat.add_zero] at s0
      have hbd := HBd.out wn[j] (List.getElem_mem hlt)
      have HTk := Lib.hid (show (wn.take (j + 1)).map (Pl.shortW k) = T ++ [(⟨wn[j].f, wn[j].t, wn[j].lim - k⟩ : Pl.Win)] by
        rw [HK.out.2.1, List.take_succ_eq_append_getElem hlt, List.map_append]; rfl)
      clear hc1
      generalize wn[j] = x at *
      have i1 : (0 : Int) ≤ (j : Int) := by omega
      have i2 : (j : Int) < (wn.length : Int) := by omega
      have i4 : ((j : Int)).toNat = j := by omega
      have e1 : IntKind.i64.wrap (x.lim - k) = x.lim - k := IntWalk.i64_in _ (by omega)
      go_upto_region 6 with (fail)
      have hbn := below_new wr (.cells #[.int .i64 x.f, .int .i64 x.t, .int .i64 x.lim] 49)
      have X2 := Lib.hid (heap_alloc_new wr (.cells #[.int .i64 x.f, .int .i64 x.t, .int .i64 x.lim] 49))
      have B2 := Lib.hid hbn
      clear s0 s1 s2 d4 hbn
      generalize wr.alloc (.cells #[.int .i64 x.f, .int .i64 x.t, .int .i64 x.lim] 49) = w2 at *
      obtain ⟨nx, hnx⟩ : ∃ nx, wr.heap.size = nx := ⟨_, rfl⟩
      rw [hnx] at X2
      rw [hnx]
      have HNx := Lib.hid hnx
      clear hnx
      have x2 := box_cell X2.out 2 (.int .i64 x.lim) rfl
      have z2 := box_fz X2.out 2
      have lz := lt_of_block X2.out
      have X3 := Lib.hid (show (w2.setCell ⟨nx, 2, none⟩ (.int .i64 (x.lim - k))).heap[nx]? = some (.cells #[.int .i64 x.f, .int .i64 x.t, .int .i64 (x.lim - k)] 49) from block_set X2.out (o := 2) _)
      have B3 := Lib.hid (show Below wr.heap.size wr (w2.setCell ⟨nx, 2, none⟩ (.int .i64 (x.lim - k))) from B2.out.setCell (p := ⟨nx, 2, none⟩) (Nat.le_of_eq HNx.out) _)
      go_upto_region 7 with (fail)
      clear x2 z2 lz X2 B2 e1
      generalize w2.setCell ⟨nx, 2, none⟩ (.int .i64 (x.lim - k)) = w3 at *
      have x0 := box_cell X3.out 0 (.int .i64 x.f) rfl
      have x1 := box_cell X3.out 1 (.int .i64 x.t) rfl
      have x2 := box_cell X3.out 2 (.int .i64 (x.lim - k)) rfl
      have hbn := below_new w3 (.cells #[.int .i64 x.f, .int .i64 x.t, .int .i64 (x.lim - k)] 49)
      have B4 := Lib.hid (below_step B3.out hbn)
      have HOwn := Lib.hid (show (w3.alloc (.cells #[.int .i64 x.f, .int .i64 x.t, .int .i64 (x.lim - k)] 49)).ownsRow w1.heap.size 49 3 (.slice sb T.length sd) T.length (T.flatMap winCells) from own_below HK.out.2.2.1 B4.out)
      have HNW := Lib.hid (World.news_of_block (w := w3.alloc (.cells #[.int .i64 x.f, .int .i64 x.t, .int .i64 (x.lim - k)] 49)) (B := w3.heap.size) (cs := #[.int .i64 x.f, .int .i64 x.t, .int .i64 (x.lim - k)]) (t := 49) (fr := (0, 0)) (heap_alloc_new w3 _))
      have hsw : w1.heap.size ≤ w3.heap.size := Nat.le_trans HK.out.2.2.2.size B3.out.size
      clear hbn
      go_wp2_with (at_builtin; refine wpList_append_own _ rfl _ _ 26 rfl w1.heap.size 49 i0 _ 3 24 Tryd.underlying26 hi0 hz0 hz1 hz2 rfl (by decide) _ _ _ rfl HOwn.out ⟨w3.heap.size, 0, none⟩ 1 1 [.int .i64 x.f, .int .i64 x.t, .int .i64 (x.lim - k)] rfl rfl HNW.out ?c2 ?c3 ?c4 ?c5 ?_)
      case c2 => simp [Value.oneCell']
      case c3 => unfold maxLen; omega
      case c4 => omega
      case c5 => first | omega | (rw [World.size_alloc]; omega)
      intro v' w5 hown' hgrow _
      obtain ⟨a', c', rfl, -⟩ := own_slice hown'
      have BF := Lib.hid (show Below w1.heap.size w1 w5 from (below_step HK.out.2.2.2 B4.out).grown hgrow (below_step HK.out.2.2.2 B4.out).size (fun b hb => (HOwn.out.lt b hb).1))
      have RF := Lib.hid (show WnO w5 w1.heap.size (.slice a' (T ++ [(⟨x.f, x.t, x.lim - k⟩ : Pl.Win)]).length c') (T ++ [(⟨x.f, x.t, x.lim - k⟩ : Pl.Win)]) by rw [List.length_append]; exact RowO.snoc hown')
      clear hown' hgrow HOwn HNW x0 x1 x2 B3 B4 X3
      go_wp2_with fail
      go_roundg (wn.length - (j + 1))
      case rel => exact ⟨T ++ [⟨x.f, x.t, x.lim - k⟩], j + 1, a', c', by omega, rfl, by rw [List.length_append]; rfl, by go_num, Lib.hid ⟨by rw [List.length_append, HK.out.1]; rfl, HTk.out.symm, RF.out, BF.out⟩⟩
      case measure => omega
    · have i5 : ¬ (j : Int) < (wn.length : Int) := by omega
      have HE := Lib.hid (show T = wn.map (Pl.shortW k) by rw [HK.out.2.1, List.take_of_length_le (by omega)])
      have R1 := Lib.hid (box_below HR.out HK.out.2.2.2)
      have hne : ¬ n0 + 1 = n0 := by omega
      have hne2 : ¬ n0 = n0 + 1 := by omega
      have z4 := box_fz P1.out 4
      have lp := lt_of_block P1.out
      have O4 := one_ch wr n0 4 (.slice sb T.length sd)
      have P2 := Lib.hid (show (wr.setCell ⟨n0, 4, none⟩ (.slice sb T.length sd)).heap[n0]? = some (.cells #[.int .i64 en, .int .i64 mi, .int .i64 ma, .slice sa st.length sc, .slice sb T.length sd] 28) from block_set P1.out (o := 4) _)
      have R2 := Lib.hid ((O4.block _ (lt_of_block R1.out) (by omega)).trans R1.out)
      have W2 := Lib.hid (own_ch HK.out.2.2.1 O4 (fun i hi e => by have h1 := (HK.out.2.2.1.lt i hi).1; have h2 := SZ.out; omega))
      have hB2 : Below n0 w (wr.setCell ⟨n0, 4, none⟩ (.slice sb T.length sd)) := by
        have h1 := BL.out.trans (HK.out.2.2.2.mono BL.out.size)
        rw [HN0.out] at h1
        exact h1.setCell (p := ⟨n0, 4, none⟩) (Nat.le_refl _) _
      have HB2 := Lib.hid hB2
      have ST2 := Lib.hid (show StA (wr.setCell ⟨n0, 4, none⟩ (.slice sb T.length sd)) sa sc st from H0.out.st.below (by rw [HN0.out]; exact hB2))
      clear hB2 O4
      go_upto_region 9 with (fail)
      clear d4 z4 lp P1 R1
      generalize wr.setCell ⟨n0, 4, none⟩ (.slice sb T.length sd) = w4 at *
      have c0 := box_cell P2.out 0 (.int .i64 en) rfl
      have c1 := box_cell P2.out 1 (.int .i64 mi) rfl
      have c2 := box_cell P2.out 2 (.int .i64 ma) rfl
      have c3 := box_cell P2.out 3 (.slice sa st.length sc) rfl
      have c4 := box_cell P2.out 4 (.slice sb T.length sd) rfl
      have r0 := box_cell R2.out 0 (.int .i64 0) rfl
      have r1 := box_cell R2.out 1 (.int .i64 0) rfl
      have r2 := box_cell R2.out 2 (.int .i64 0) rfl
      have r3 := box_cell R2.out 3 (.slice none 0 0) rfl
      have r4 := box_cell R2.out 4 (.slice none 0 0) rfl
      have z := fun i => box_fz R2.out i
      have z0 := z 0; have z1 := z 1; have z2 := z 2; have z3 := z 3; have z4 := z 4
      have hlr := lt_of_block R2.out
      obtain ⟨P5, O5⟩ := put5 R2.out (.int .i64 en) (.int .i64 mi) (.int .i64 ma) (.slice sa st.length sc) (.slice sb T.length sd)
      have P5 := Lib.hid P5
      have FB := HB2.out.trans (O5.below (B := n0) (by have := lt_of_block P2.out; omega) (fun i e => by omega))
      have FW := Lib.hid (own_ch W2.out O5 (fun i hi e => by have h1 := (W2.out.lt i hi).1; have h2 := SZ.out; omega))
      have FS := Lib.hid (H0.out.st.below (by rw [HN0.out]; exact FB))
      have FB := Lib.hid FB
      clear z O5
      go_wp2_with fail
      clear c0 c1 c2 c3 c4 r0 r1 r2 r3 r4 z0 z1 z2 z3 z4 hlr
      generalize ((((w4.setCell ⟨n0 + 1, 0, none⟩ (.int .i64 en)).setCell ⟨n0 + 1, 1, none⟩ (.int .i64 mi)).setCell ⟨n0 + 1, 2, none⟩ (.int .i64 ma)).setCell ⟨n0 + 1, 3, none⟩ (.slice sa st.length sc)).setCell ⟨n0 + 1, 4, none⟩ (.slice sb T.length sd) = we at *
      have r0 := box_cell P5.out 0 (.int .i64 en) rfl
      have r1 := box_cell P5.out 1 (.int .i64 mi) rfl
      have r2 := box_cell P5.out 2 (.int .i64 ma) rfl
      have r3 := box_cell P5.out 3 (.slice sa st.length sc) rfl
      have r4 := box_cell P5.out 4 (.slice sb T.length sd) rfl
      have HSP := Lib.hid (show Pl.shortP ⟨en, mi, ma, st, wn⟩ k = ⟨en, mi, ma, st, T⟩ by unfold Pl.shortP; rw [HE.out])
      refine bodyPost_ret (v := PlanP.val ⟨⟨en, mi, ma, st, T⟩, sa, sc, sb, sd⟩) (by simp [results, Tryd.results19, go_sem, r0, r1, r2, r3, r4]) rfl ?_
      rw [HSP.out]
      refine ⟨sb, sd, rfl, ⟨FS.out, ?_⟩, by first | exact FB.out | (rw [HN0.out]; exact FB.out)⟩
      obtain ⟨a2, c2, e2, hA, -⟩ := RowO.arg win_len (L := T) (B := w1.heap.size) (v := .slice sb T.length sd) FW.out
      injection e2 with e2 _ e3
      subst e2; subst e3
      exact hA
end Go.Proofs.YtihohjgjklcnlaaDoor

namespace Go.Proofs.YtihohjgjklcnlaaDoor.Pl
theorem fmin_le (f : Win → Int) : ∀ (l : List Win) (a : Int), l.foldl (fun m w => min m (f w)) a ≤ a ∧ ∀ w ∈ l, l.foldl (fun m w => min m (f w)) a ≤ f w
  | [], _ => ⟨Int.le_refl _, fun w hw => by cases hw⟩
  | x :: l, a => by
    obtain ⟨h1, h2⟩ := fmin_le f l (min a (f x))
    simp only [List.foldl_cons]
    refine ⟨by omega, fun w hw => ?_⟩
    rcases List.mem_cons.1 hw with rfl | hw
    · omega
    · exact h2 w hw
theorem fmin_eq (f : Win → Int) : ∀ (l : List Win) (a : Int), l.foldl (fun m w => min m (f w)) a = a ∨ ∃ w ∈ l, l.foldl (fun m w => min m (f w)) a = f w
  | [], _ => .inl rfl
  | x :: l, a => by
    simp only [List.foldl_cons]
    rcases fmin_eq f l (min a (f x)) with h | ⟨w, hw, h⟩
    · rw [h]
      by_cases e : a ≤ f x
      · exact .inl (by omega)
      · exact .inr ⟨x, by simp, by omega⟩
    · exact .inr ⟨w, List.mem_cons_of_mem _ hw, h⟩
theorem fmin_ge (f : Win → Int) {b : Int} : ∀ (l : List Win) (a : Int), b ≤ a → (∀ w ∈ l, b ≤ f w) → b ≤ l.foldl (fun m w => min m (f w)) a
  | [], _, h, _ => h
  | x :: l, a, h, hl => by
    simp only [List.foldl_cons]
    exact fmin_ge f l _ (by have := hl x (by simp); omega) (fun w hw => hl w (List.mem_cons_of_mem _ hw))
/-- The least limit. -/
def leastL (l : List Win) : Int := l.foldl (fun m w => min m w.lim) 1000000
theorem leastL_snoc (l : List Win) (w : Win) : leastL (l ++ [w]) = min (leastL l) w.lim := by simp [leastL, List.foldl_append]
theorem short_valid {p : Plan} {k : Int} (hv : Valid p) (h : ∀ w ∈ p.wn, 0 ≤ w.lim - k ∧ w.lim - k ≤ 1000000) : Valid (shortP p k) := by
  have hw : ∀ w ∈ (shortP p k).wn, OkWin (shortP p k).st.length w := fun w hw => by
    obtain ⟨u, hu, rfl⟩ := List.mem_map.1 hw
    have ok := hv.wn u hu
    exact ⟨ok.f, ok.ft, ok.t, h u hu⟩
  refine ⟨hv.entry, hv.mmin, hv.mmax, hv.len, hv.st, by show (List.map _ _).length ≤ 20; rw [List.length_map]; exact hv.wlen, hw, okFrom_asc ?_ hw (fun u hu => by cases hu)⟩
  show Asc (List.map _ _)
  unfold Asc
  rw [List.pairwise_map]
  exact (asc_of hv.asc).1
theorem short_safe {p : Plan} {k : Int} (hs : SafeC p) : SafeC (shortP p k) ↔ ∀ w ∈ p.wn, gap p w ≤ w.lim - k := by
  constructor
  · intro h w hw
    exact h.w (shortW k w) (List.mem_map_of_mem hw)
  · intro h
    refine ⟨hs.g, fun w hw => ?_⟩
    obtain ⟨u, hu, rfl⟩ := List.mem_map.1 hw
    exact h u hu
theorem slack_facts {p : Plan} (hv : Valid p) (hs : SafeC p) : 0 ≤ leastM p p.wn ∧ leastM p p.wn ≤ 1000000 ∧ (∀ w ∈ p.wn, gap p w ≤ w.lim - leastM p p.wn) ∧ (leastM p p.wn = 1000000 ∨ ∃ w ∈ p.wn, leastM p p.wn = w.lim - gap p w) := by
  have hg : ∀ w ∈ p.wn, gap p w ≤ w.lim := fun w hw => hs.w w hw
  refine ⟨fmin_ge (margin p) p.wn _ (by omega) (fun w hw => by rw [margin_is hv hs hw]; have := hg w hw; omega), (fmin_le (margin p) p.wn _).1, fun w hw => ?_, ?_⟩
  · have := (fmin_le (margin p) p.wn 1000000).2 w hw
    rw [margin_is hv hs hw] at this
    show gap p w ≤ w.lim - leastM p p.wn
    unfold leastM; omega
  · rcases fmin_eq (margin p) p.wn 1000000 with h | ⟨w, hw, h⟩
    · exact .inl h
    · exact .inr ⟨w, hw, by show leastM p p.wn = _; rw [← margin_is hv hs hw]; exact h⟩
theorem slack_one {p : Plan} (hv : Valid p) (hs : SafeC p) : (checkR (shortP p (leastM p p.wn))).2 = decide (leastM p p.wn ≤ leastL p.wn) := by
  obtain ⟨h1, h2, h3, -⟩ := slack_facts hv hs
  by_cases h : leastM p p.wn ≤ leastL p.wn
  · have hl := (fmin_le (·.lim) p.wn 1000000).2
    have hv2 := short_valid (k := leastM p p.wn) hv (fun w hw => by
      have a := hl w hw
      have b := (hv.wn w hw).l
      have c : leastL p.wn ≤ w.lim := a
      omega)
    rw [check_safe hv2 ((short_safe hs).2 h3), decide_eq_true h]
  · rw [decide_eq_false h]
    by_cases hv2 : Valid (shortP p (leastM p p.wn))
    · exfalso
      apply h
      have : ∀ w ∈ p.wn, leastM p p.wn ≤ w.lim := fun w hw => by
        have := (hv2.wn (shortW _ w) (List.mem_map_of_mem hw)).l.1
        have e : (shortW (leastM p p.wn) w).lim = w.lim - leastM p p.wn := rfl
        omega
      exact fmin_ge (·.lim) p.wn _ h2 this
    · rw [check_not hv2]
theorem slack_two {p : Plan} (hv : Valid p) (hs : SafeC p) (hne : p.wn ≠ []) : (checkR (shortP p (leastM p p.wn + 1))).2 = false := by
  obtain ⟨h1, h2, -, h4⟩ := slack_facts hv hs
  by_cases hv2 : Valid (shortP p (leastM p p.wn + 1))
  · have hn : ¬ SafeC (shortP p (leastM p p.wn + 1)) := fun hc => by
      have h5 := (short_safe hs).1 hc
      rcases h4 with e | ⟨w, hw, e⟩
      · obtain ⟨w, l, ew⟩ := List.exists_cons_of_ne_nil hne
        have hw : w ∈ p.wn := by rw [ew]; simp
        have := (hv2.wn (shortW _ w) (List.mem_map_of_mem hw)).l.1
        have b := (hv.wn w hw).l
        have e2 : (shortW (leastM p p.wn + 1) w).lim = w.lim - (leastM p p.wn + 1) := rfl
        omega
      · have := h5 w hw
        omega
    obtain ⟨s, e, -⟩ := check_unsafe hv2 hn
    rw [e]
  · rw [check_not hv2]
end Go.Proofs.YtihohjgjklcnlaaDoor.Pl

namespace Go.Proofs.YtihohjgjklcnlaaDoor
open Go.RowKit Go.Shelf
attribute [local go_sem] Oper.semAt_some
set_option maxRecDepth 100000 in
set_option maxHeartbeats 4000000 in
theorem slack_any (xa : Option Addr) (xc : Nat) (X : List (List Int)) (t : Bool) (W : World) (ht : Wb.Tab W) (hX : ArrsA 6 W xa xc X) :
    Calls Tryd.prog 7 #[.slice xa X.length xc, .bool t] W fun e w' => e = .returned (.bool true) ∧ Below W.heap.size W w' := by
  have HX := Lib.hid hX; have HT := Lib.hid ht; clear hX ht
  have HFi := Lib.hid (Pl.made9_fine X t)
  go_enter Tryd.func7, Tryd.ntmps7
  go_wp2_with fail
  refine (sane_any W HT.out).mono ?_; rintro e w1 ⟨rfl, g1⟩
  have G1 := Lib.hid g1; clear g1
  go_wp2_with fail
  refine (made_any X t xa xc w1 (HX.out.below G1.out)).mono ?_; rintro e w2 ⟨sa, sc, wa, wc, rfl, s1, s2, g2⟩
  have G2 := Lib.hid (below_step G1.out g2)
  have O2 := Lib.hid (show StO w2 W.heap.size (.slice sa (Pl.made9 X t).st.length sc) (Pl.made9 X t).st ∧ WnO w2 W.heap.size (.slice wa (Pl.made9 X t).wn.length wc) (Pl.made9 X t).wn from ⟨s1.mono G1.out.size, s2.mono G1.out.size⟩)
  clear g2 s1 s2 G1
  obtain ⟨P, hP⟩ : ∃ P, Pl.made9 X t = P := ⟨_, rfl⟩
  rw [hP] at O2 HFi
  rw [hP]
  have HP := Lib.hid hP
  clear hP
  go_upto_region 3 with (fail)
  have hb := below_new w2 (.cells #[.int .i64 P.entry, .int .i64 P.mmin, .int .i64 P.mmax, .slice sa P.st.length sc, .slice wa P.wn.length wc] 28)
  have NP := Lib.hid (heap_alloc_new w2 (.cells #[.int .i64 P.entry, .int .i64 P.mmin, .int .i64 P.mmax, .slice sa P.st.length sc, .slice wa P.wn.length wc] 28))
  have G3 := Lib.hid (below_step G2.out hb)
  have O3 := Lib.hid (show StO (w2.alloc (.cells #[.int .i64 P.entry, .int .i64 P.mmin, .int .i64 P.mmax, .slice sa P.st.length sc, .slice wa P.wn.length wc] 28)) W.heap.size (.slice sa P.st.length sc) P.st ∧ WnO (w2.alloc (.cells #[.int .i64 P.entry, .int .i64 P.mmin, .int .i64 P.mmax, .slice sa P.st.length sc, .slice wa P.wn.length wc] 28)) W.heap.size (.slice wa P.wn.length wc) P.wn from ⟨RowO.below O2.out.1 hb, RowO.below O2.out.2 hb⟩)
  have S3 := Lib.hid (made_ok O3.out.1 O3.out.2 : PlanP.ok ⟨P, sa, sc, wa, wc⟩ _)
  clear hb O2 G2
  generalize w2.alloc (.cells #[.int .i64 P.entry, .int .i64 P.mmin, .int .i64 P.mmax, .slice sa P.st.length sc, .slice wa P.wn.length wc] 28) = w3 at *
  generalize w2.heap.size = n8 at *
  have c0 := box_cell NP.out 0 (.int .i64 P.entry) rfl
  have c1 := box_cell NP.out 1 (.int .i64 P.mmin) rfl
  have c2 := box_cell NP.out 2 (.int .i64 P.mmax) rfl
  have c3 := box_cell NP.out 3 (.slice sa P.st.length sc) rfl
  have c4 := box_cell NP.out 4 (.slice wa P.wn.length wc) rfl
  have SL := Lib.hid (Slack_any ⟨P, sa, sc, wa, wc⟩ w3 S3.out)
  obtain ⟨⟨s1, B⟩, hR⟩ : ∃ x, Pl.checkR P = x := ⟨_, rfl⟩
  have HR := Lib.hid hR
  have HSl := Lib.hid (show Pl.slackR P = if B = true ∧ P.wn ≠ [] then (Pl.leastM P P.wn, true) else (0, false) by unfold Pl.slackR; rw [hR])
  clear hR
  obtain ⟨⟨n, ok⟩, hN⟩ : ∃ x, Pl.slackR P = x := ⟨_, rfl⟩
  rw [show Pl.slackR (PlanP.p ⟨P, sa, sc, wa, wc⟩) = (n, ok) from hN] at SL
  rw [hN] at HSl
  clear hN
  go_wp2_with fail
  refine SL.out.mono ?_; rintro e w4 ⟨rfl, g⟩
  clear c0 c1 c2 c3 c4 SL
  have NP4 := Lib.hid (box_below NP.out g)
  have S4 := Lib.hid (S3.out.below g)
  have G4 := Lib.hid (below_step G3.out g)
  clear g NP S3 G3 O3
  go_upto_region 4 with (fail)
  have c0 := box_cell NP4.out 0 (.int .i64 P.entry) rfl
  have c1 := box_cell NP4.out 1 (.int .i64 P.mmin) rfl
  have c2 := box_cell NP4.out 2 (.int .i64 P.mmax) rfl
  have c3 := box_cell NP4.out 3 (.slice sa P.st.length sc) rfl
  have c4 := box_cell NP4.out 4 (.slice wa P.wn.length wc) rfl
  have CK := Lib.hid (check_is ⟨P, sa, sc, wa, wc⟩ w4 S4.out HR.out)
  go_wp2_with fail
  refine CK.out.mono ?_; rintro e w5 ⟨da1, dc1, ma1, mc1, rfl, -, g⟩
  have hb := below_step g (below_new w5 (.cells #[.slice da1 s1.dur.length dc1, .slice ma1 s1.mv.length mc1, .int .i64 s1.det, .int .i64 s1.tool, .int .i64 s1.at_] 32))
  have NP6 := Lib.hid (box_below NP4.out hb)
  have S6 := Lib.hid (S4.out.below hb)
  have G6 := Lib.hid (below_step G4.out hb)
  clear g hb c0 c1 c2 c3 c4 CK NP4 S4 G4
  go_upto_region 5 with (fail)
  generalize w5.alloc (.cells #[.slice da1 s1.dur.length dc1, .slice ma1 s1.mv.length mc1, .int .i64 s1.det, .int .i64 s1.tool, .int .i64 s1.at_] 32) = w6 at *
  have hwl : P.wn.length ≤ 20 := HFi.out.v.wlen
  have d4 := box_cell NP6.out 4 (.slice wa P.wn.length wc) rfl
  cases ok with
  | false =>
    have HN0 := Lib.hid (show n = 0 ∧ (B = false ∨ P.wn.length = 0) by
      have h := HSl.out
      by_cases hc : B = true ∧ P.wn ≠ []
      · rw [if_pos hc] at h; injection h with _ h; cases h
      · rw [if_neg hc] at h
        injection h with h _
        refine ⟨h, ?_⟩
        cases B with
        | false => exact .inl rfl
        | true => exact .inr (by
            have : P.wn = [] := by
              by_cases e : P.wn = []
              · exact e
              · exact absurd ⟨rfl, e⟩ hc
            rw [this]; rfl))
    obtain ⟨hn, hor⟩ := HN0.out
    subst hn
    cases B with
    | false =>
      clear hor
      go_wp2_with fail
      go_ret
      exact ⟨rfl, G6.out⟩
    | true =>
      have hl0 : P.wn.length = 0 := by
        rcases hor with h | h
        · cases h
        · exact h
      have n1 : ((P.wn.length : Int) == 0) = true := by rw [hl0]; rfl
      have n2 : (P.wn.length == 0) = true := by rw [hl0]; rfl
      clear hor HN0
      have HL0 := Lib.hid hl0
      clear hl0
      go_wp2_with fail
      go_ret
      exact ⟨rfl, G6.out⟩
  | true =>
    have HN1 := Lib.hid (show B = true ∧ P.wn ≠ [] ∧ n = Pl.leastM P P.wn by
      have h := HSl.out
      by_cases hc : B = true ∧ P.wn ≠ []
      · rw [if_pos hc] at h; injection h with h _; exact ⟨hc.1, hc.2, h⟩
      · rw [if_neg hc] at h; injection h with _ h; cases h)
    obtain ⟨hB, hne, hn⟩ := HN1.out
    have HNe := Lib.hid hne; have HNn := Lib.hid hn
    have HSf := Lib.hid (Pl.safe_true (show (Pl.checkR P).2 = true by rw [HR.out]; exact hB)).2
    subst hB
    clear hne hn HN1 HSl
    have HFa := Lib.hid (Pl.slack_facts HFi.out.v HSf.out)
    rw [← HNn.out] at HFa
    have q1 := HFa.out.1; have q2 := HFa.out.2.1
    go_wp2_with fail
    clear d4
    have HL0 := Lib.hid (show Pl.leastL (P.wn.take 0) = 1000000 from rfl)
    go_loopg [11, 12] P.wn.length (fun g lv iv wr => ∃ (k : Nat) (L : Int), k ≤ P.wn.length ∧ g = P.wn.length - k ∧ lv = .int .i64 L ∧ iv = .int .i64 (k : Int) ∧ Hid (L = Pl.leastL (P.wn.take k) ∧ Below w6.heap.size w6 wr))
    case atStart => exact ⟨0, 1000000, by omega, by omega, rfl, rfl, Lib.hid ⟨rfl, Below.refl _ _⟩⟩
    case round =>
      obtain ⟨k, L, hk, rfl, rfl, rfl, HK⟩ := hrel
      rename World => wr
      have NPr := Lib.hid (box_below NP6.out HK.out.2)
      have d4 := box_cell NPr.out 4 (.slice wa P.wn.length wc) rfl
      by_cases hlt : k < P.wn.length
      · obtain ⟨b1, o1, rfl, hb1, hc1⟩ := (S6.out.wn.below HK.out.2).at (show 0 < P.wn.length by omega)
        have s2 := hc1 k hlt 2 (.int .i64 P.wn[k].lim) rfl
        have HLs := Lib.hid (show min L P.wn[k].lim = Pl.leastL (P.wn.take (k + 1)) by
          rw [List.take_succ_eq_append_getElem hlt, Pl.leastL_snoc, ← HK.out.1])
        clear hc1
        generalize P.wn[k].lim = x at *
        have i1 : (0 : Int) ≤ (k : Int) := by omega
        have i2 : (k : Int) < (P.wn.length : Int) := by omega
        have i4 : ((k : Int)).toNat = k := by omega
        go_wp2_with fail
        go_roundg (P.wn.length - (k + 1))
        case rel => exact ⟨k + 1, min L x, by omega, rfl, rfl, by go_num, Lib.hid ⟨HLs.out, HK.out.2⟩⟩
        case measure => omega
      · have i5 : ¬ (k : Int) < (P.wn.length : Int) := by omega
        have HLL := Lib.hid (show L = Pl.leastL P.wn by rw [HK.out.1, List.take_of_length_le (by omega)])
        have Sr := Lib.hid (S6.out.below HK.out.2)
        have Gr := Lib.hid (below_step G6.out HK.out.2)
        have HLm := Lib.hid (show ∀ x ∈ P.wn, 0 ≤ x.lim ∧ x.lim ≤ 1000000 from fun x hx => (HFi.out.v.wn x hx).l)
        have SH := Lib.hid (Shorter_any P sa wa sc wc n wr Sr.out HLm.out (by omega) (by omega))
        clear NP6 S6 G6 HK
        go_upto_region 12 with (fail)
        clear d4 i5
        have c0 := box_cell NPr.out 0 (.int .i64 P.entry) rfl
        have c1 := box_cell NPr.out 1 (.int .i64 P.mmin) rfl
        have c2 := box_cell NPr.out 2 (.int .i64 P.mmax) rfl
        have c3 := box_cell NPr.out 3 (.slice sa P.st.length sc) rfl
        have c4 := box_cell NPr.out 4 (.slice wa P.wn.length wc) rfl
        go_wp2_with fail
        refine SH.out.mono ?_; rintro e w7 ⟨wb, wd, rfl, okS, g⟩
        clear c0 c1 c2 c3 c4 SH
        have HO := Lib.hid (show (Pl.checkR (Pl.shortP P n)).2 = decide (n ≤ L) by rw [HLL.out, HNn.out]; exact Pl.slack_one HFi.out.v HSf.out)
        obtain ⟨⟨s2, b2⟩, hR2⟩ : ∃ x, Pl.checkR (Pl.shortP P n) = x := ⟨_, rfl⟩
        rw [hR2] at HO
        have CK := Lib.hid (check_is ⟨Pl.shortP P n, sa, sc, wb, wd⟩ w7 okS hR2)
        have NP7 := Lib.hid (box_below NPr.out g)
        have S7 := Lib.hid (Sr.out.below g)
        have G7 := Lib.hid (below_step Gr.out g)
        clear g okS hR2 NPr Sr Gr
        generalize Pl.shortP P n = Q at *
        go_wp2_with fail
        refine CK.out.mono ?_; rintro e w8 ⟨da2, dc2, ma2, mc2, rfl, -, g⟩
        have hb := below_step g (below_new w8 (.cells #[.slice da2 s2.dur.length dc2, .slice ma2 s2.mv.length mc2, .int .i64 s2.det, .int .i64 s2.tool, .int .i64 s2.at_] 32))
        have NP9 := Lib.hid (box_below NP7.out hb)
        have S9 := Lib.hid (S7.out.below hb)
        have G9 := Lib.hid (below_step G7.out hb)
        clear g hb CK NP7 S7 G7
        go_upto_region 13 with (fail)
        generalize w8.alloc (.cells #[.slice da2 s2.dur.length dc2, .slice ma2 s2.mv.length mc2, .int .i64 s2.det, .int .i64 s2.tool, .int .i64 s2.at_] 32) = w9 at *
        have e1 : IntKind.i64.wrap (n + 1) = n + 1 := IntWalk.i64_in _ (by omega)
        have SH := Lib.hid (Shorter_any P sa wa sc wc (n + 1) w9 S9.out HLm.out (by omega) (by omega))
        have c0 := box_cell NP9.out 0 (.int .i64 P.entry) rfl
        have c1 := box_cell NP9.out 1 (.int .i64 P.mmin) rfl
        have c2 := box_cell NP9.out 2 (.int .i64 P.mmax) rfl
        have c3 := box_cell NP9.out 3 (.slice sa P.st.length sc) rfl
        have c4 := box_cell NP9.out 4 (.slice wa P.wn.length wc) rfl
        go_wp2_with fail
        refine SH.out.mono ?_; rintro e wA ⟨we, wf, rfl, okS, g⟩
        clear c0 c1 c2 c3 c4 SH e1
        have HT2 := Lib.hid (show (Pl.checkR (Pl.shortP P (n + 1))).2 = false by rw [HNn.out]; exact Pl.slack_two HFi.out.v HSf.out HNe.out)
        obtain ⟨⟨s3, b3⟩, hR3⟩ : ∃ x, Pl.checkR (Pl.shortP P (n + 1)) = x := ⟨_, rfl⟩
        rw [hR3] at HT2
        have CK := Lib.hid (check_is ⟨Pl.shortP P (n + 1), sa, sc, we, wf⟩ wA okS hR3)
        have GA := Lib.hid (below_step G9.out g)
        clear g okS hR3 NP9 S9 G9
        generalize Pl.shortP P (n + 1) = Q2 at *
        go_wp2_with fail
        refine CK.out.mono ?_; rintro e wB ⟨da3, dc3, ma3, mc3, rfl, -, g⟩
        have GB := Lib.hid (below_step GA.out (below_step g (below_new wB (.cells #[.slice da3 s3.dur.length dc3, .slice ma3 s3.mv.length mc3, .int .i64 s3.det, .int .i64 s3.tool, .int .i64 s3.at_] 32))))
        clear g CK GA
        go_upto_region 14 with (fail)
        generalize wB.alloc (.cells #[.slice da3 s3.dur.length dc3, .slice ma3 s3.mv.length mc3, .int .i64 s3.det, .int .i64 s3.tool, .int .i64 s3.at_] 32) = wC at *
        obtain rfl : b3 = false := HT2.out
        have hb2 : b2 = decide (n ≤ L) := HO.out
        subst hb2
        have n0 : decide (0 ≤ n) = true := decide_eq_true q1
        by_cases hnl : n ≤ L
        · have n1 : decide (n ≤ L) = true := decide_eq_true hnl
          go_wp2_with fail
          go_ret
          exact ⟨rfl, GB.out⟩
        · have n1 : decide (n ≤ L) = false := decide_eq_false hnl
          go_wp2_with fail
          go_ret
          exact ⟨rfl, GB.out⟩
end Go.Proofs.YtihohjgjklcnlaaDoor

namespace Go.Proofs.YtihohjgjklcnlaaDoor.lawCertifySlack
open Go.ChangeShapes Go.WideShapes Go.ChangeAt Go.RowKit
open Go.ChangeMaps (open_string shut_string)

set_option maxRecDepth 100000 in
theorem lifted (os : Os) (started : os.Started) (H : Type) (enc : TypeId × Value → H) :
    ReturnsInHanded {} Tryd.checked os 7 .any (fun w args => (Rows.certifySlackSpec.pre enc Tryd.prog Tryd.f7 [] false w args ∧ laidMetH Tryd.prog laidList w) ∧ sizedMet enc Tryd.prog Tryd.f7 (OpenSpec.ofChange Rows.certifySlackSpec) false w args)
      (Rows.certifySlackSpec.post enc Tryd.prog Tryd.f7 false true false false) := by
  refine returnsInHanded_of_change_and (C := Tryd.checked) (X := fun w _ => laidMetH Tryd.prog laidList w) (fun _ _ _ hh h => h.of_heap hh) own started (by kernel_rfl) Tryd.func7
    (ChangeSpec.witness_shaped (enc := enc) (C := Tryd.checked) (os := os) (X := fun w _ => laidMetH Tryd.prog laidList w) false (World.doorLaid Tryd.prog 400 os) #[.slice none 0 0, .bool false] 8 rfl (World.shaped_of_RefB (by kernel_rfl) (by kernel_rfl)) (by kernel_rfl) (by kernel_rfl) (by kernel_rfl) (door_met os _)) ?_
  intro W base args ds gs before hval0 hW _ _ hL _
  have hval : ∀ (j : Nat) t v, Tryd.f7.params[j]? = some t → args[j]? = some v → Value.okWide Tryd.prog W .any base t v := hval0
  have hW' := hW
  obtain ⟨p, q, hA0, hV, rfl, hfz, hnd⟩ := hW
  have hA : DataW.TrodAll enc Tryd.prog W 0 (fun _ => true) true Tryd.f7.params.toList args.toList ds p := hA0
  rw [Tryd.params7] at hA hval
  obtain ⟨v0, vs0, d0, ds0, p0, q0, hargs, rfl, rfl, h0, r0⟩ := trodAll_cons hA
  obtain ⟨v1, vs1, d1, ds1, p1, q1, rfl, rfl, rfl, h1, r1⟩ := trodAll_cons r0
  obtain ⟨rfl, rfl, rfl⟩ := trodAll_nil r1
  obtain rfl : args = #[v0, v1] := by cases args; simp_all
  obtain ⟨rfl, rfl⟩ := trodVars_none hV
  have k0 := h0
  have lt0 : ∀ x ∈ p0, x.block < W.heap.size := by obtain ⟨m, hm⟩ := k0; exact DataW.trod_lt m _ _ _ hm
  have k1 := h1
  have lt1 : ∀ x ∈ p1, x.block < W.heap.size := by obtain ⟨m, hm⟩ := k1; exact DataW.trod_lt m _ _ _ hm
  obtain ⟨a0, c0, z0, rfl, w0⟩ := open_sixes (hval 0 22 v0 rfl rfl) h0
  obtain ⟨a1, rfl, hd1, hp1⟩ := open_bool Tryd.underlying4 (hval 1 4 v1 rfl rfl) h1
  clear hA0 hval0
  refine (slack_any a0 c0 z0 a1 W (tab_of_laid hL) w0).mono fun e W' ⟨he, bel⟩ => ?_
  subst he
  exact ⟨_, rfl, _, _, _, [], _, [], hW', trodAll_mk1 (shut_bool Tryd.underlying4 _), (trodAll_cons_mk (Below.trod laidOut (by kernel_rfl) (of_decide_eq_true (by kernel_rfl)) k0 bel lt0) (trodAll_cons_mk (Below.trod laidOut (by kernel_rfl) (of_decide_eq_true (by kernel_rfl)) k1 bel lt1) trodAll_mk0)), rfl, bel.frame _, fun h => by cases h⟩

theorem over : Rows.certifySlackRow.holds Tryd.pinned (OpenSpec.ofChange Rows.certifySlackSpec) :=
  OpenClaim.holds_of_wide 7 Tryd.f7 rfl rfl rfl rfl rfl rfl rfl ⟨rfl, rfl, rfl, rfl, rfl⟩ rfl rfl rfl rfl rfl (by kernel_rfl) Tryd.func7 (by kernel_rfl)
    (of_decide_eq_true (by kernel_rfl)) (by unfold Func.isWrapper; rw [if_neg (of_decide_eq_false (by kernel_rfl))]; exact ⟨rfl, rfl⟩)
    (fun os started H enc _ => lifted os started H enc)

theorem proved : Rows.CertifySlackCardSaid :=
  Claim7.holds_tied_plain_at .later [] [.data] true (true, "5525114c7adf425dbb03f7f3d5bfd400766d8dc32cebf7ba860010d8e3e61684") true
    over (fun _ h => by cases h) (by kernel_rfl) (fun _ h => by cases h) certifySlack_row_tie rfl ⟨rfl, rfl⟩ (by kernel_rfl) rfl
    (fun f fn hf hfn => by
      obtain rfl : f = 7 := Option.some.inj ((show Tryd.prog.funcNamed "cleanroom/cleanroomlaw09.CertifySlack" = some 7 by kernel_rfl).symm.trans hf) |>.symm
      obtain rfl : fn = Tryd.f7 := (Option.some.inj (Tryd.func7.symm.trans hfn)).symm
      exact ⟨by kernel_rfl, fun j t ht => by
        rw [Tryd.params7] at ht
        have hm : t ∈ [22, 4] := by simpa using Array.mem_of_getElem? ht
        have hall : ([22, 4].all fun u => !Tryd.prog.wantsStandIn u) = true := by kernel_rfl
        exact (show Tryd.prog.wantsStandIn t = false by simpa using List.all_eq_true.1 hall t hm)⟩)
    (by kernel_rfl)
#print axioms proved
end Go.Proofs.YtihohjgjklcnlaaDoor.lawCertifySlack
