/-
  CertifyUnsafe walked.
  CertifySafe walked.
  CertifySafe: for every input that can be read the call returns true and leaves the input as it was; the row, and its card, whose table is tied to the program's text. No condition beside what the row says.
-/
import Derived.Test.YtihohjgjklcnlaaDoorQCf
import Derived.Test.YtihohjgjklcnlaaDoorQCg
import Derived.Test.YtihohjgjklcnlaaDoorQBz
import Derived.Deep.LoopGhost
import Derived.Deep.DeepCutAuto
import Derived.Test.YtihohjgjklcnlaaDoorQCb
import Derived.Test.YtihohjgjklcnlaaDoorQCh9
namespace Go.Proofs.YtihohjgjklcnlaaDoor
open Go.RowKit Go.Shelf
attribute [local go_sem] Oper.semAt_some
theorem check_is (q : PlanP) (w : World) (h : q.ok w) {s : Pl.Scen} {b : Bool} (hR : Pl.checkR q.p = (s, b)) : Calls Tryd.prog 12 #[q.val] w (ChkEx s b w) := by
  refine (Check_any q w h).mono fun e w' ⟨r, h1, h2, h3, h4⟩ => ?_
  obtain ⟨s', da, dc, ma, mc⟩ := r
  rw [hR] at h1 h2
  simp only at h1
  subst h1
  exact ⟨da, dc, ma, mc, h2, h3.ok, h4⟩
set_option maxRecDepth 100000 in
set_option maxHeartbeats 4000000 in
theorem unsafe_any (xa : Option Addr) (xc : Nat) (X : List (List Int)) (t : Bool) (W : World) (ht : Wb.Tab W) (hX : ArrsA 6 W xa xc X) :
    Calls Tryd.prog 4 #[.slice xa X.length xc, .bool t] W fun e w' => e = .returned (.bool true) ∧ Below W.heap.size W w' := by
  have HX := Lib.hid hX; have HT := Lib.hid ht; clear hX ht
  have HFi := Lib.hid (Pl.made9_fine X t)
  go_enter Tryd.func4, Tryd.ntmps4
  go_wp2_with fail
  refine (sane_any W HT.out).mono ?_; rintro e w1 ⟨rfl, g1⟩
  have G1 := Lib.hid g1; clear g1
  go_wp2_with fail
  refine (made_any X t xa xc w1 (HX.out.below G1.out)).mono ?_; rintro e w2 ⟨sa, sc, wa, wc, rfl, s1, s2, g2⟩
  have G2 := Lib.hid (below_step G1.out g2)
  have O2 := Lib.hid (show StO w2 W.heap.size (.slice sa (Pl.made9 X t).st.length sc) (Pl.made9 X t).st ∧ WnO w2 W.heap.size (.slice wa (Pl.made9 X t).wn.length wc) (Pl.made9 X t).wn from ⟨s1.mono G1.out.size, s2.mono G1.out.size⟩)
  clear g2 s1 s2 G1
  obtain ⟨P, hP⟩ : ∃ P, Pl.made9 X t = P := ⟨_, rfl⟩
  rw [hP] at O2 HFi
  rw [hP]
  have HP := Lib.hid hP
  clear hP
  go_upto_region 3 with (fail)
  have hb := below_new w2 (.cells #[.int .i64 P.entry, .int .i64 P.mmin, .int .i64 P.mmax, .slice sa P.st.length sc, .slice wa P.wn.length wc] 28)
  have NP := Lib.hid (heap_alloc_new w2 (.cells #[.int .i64 P.entry, .int .i64 P.mmin, .int .i64 P.mmax, .slice sa P.st.length sc, .slice wa P.wn.length wc] 28))
  have G3 := Lib.hid (below_step G2.out hb)
  have O3 := Lib.hid (show StO (w2.alloc (.cells #[.int .i64 P.entry, .int .i64 P.mmin, .int .i64 P.mmax, .slice sa P.st.length sc, .slice wa P.wn.length wc] 28)) W.heap.size (.slice sa P.st.length sc) P.st ∧ WnO (w2.alloc (.cells #[.int .i64 P.entry, .int .i64 P.mmin, .int .i64 P.mmax, .slice sa P.st.length sc, .slice wa P.wn.length wc] 28)) W.heap.size (.slice wa P.wn.length wc) P.wn from ⟨RowO.below O2.out.1 hb, RowO.below O2.out.2 hb⟩)
  have S3 := Lib.hid (made_ok O3.out.1 O3.out.2 : PlanP.ok ⟨P, sa, sc, wa, wc⟩ _)
  clear hb O2 G2
  generalize w2.alloc (.cells #[.int .i64 P.entry, .int .i64 P.mmin, .int .i64 P.mmax, .slice sa P.st.length sc, .slice wa P.wn.length wc] 28) = w3 at *
  generalize w2.heap.size = n8 at *
  have c0 := box_cell NP.out 0 (.int .i64 P.entry) rfl
  have c1 := box_cell NP.out 1 (.int .i64 P.mmin) rfl
  have c2 := box_cell NP.out 2 (.int .i64 P.mmax) rfl
  have c3 := box_cell NP.out 3 (.slice sa P.st.length sc) rfl
  have c4 := box_cell NP.out 4 (.slice wa P.wn.length wc) rfl
  by_cases hs : Pl.SafeC P
  · have CK := Lib.hid (check_is ⟨P, sa, sc, wa, wc⟩ w3 S3.out (Pl.check_safe HFi.out.v hs))
    clear hs
    go_wp2_with fail
    refine CK.out.mono ?_; rintro e w4 ⟨da, dc, ma, mc, rfl, -, g⟩
    have G4 := Lib.hid (below_step (below_step G3.out g) (below_new w4 (.cells #[.slice da 0 dc, .slice ma 0 mc, .int .i64 0, .int .i64 0, .int .i64 0] 32)))
    have NS := Lib.hid (heap_alloc_new w4 (.cells #[.slice da 0 dc, .slice ma 0 mc, .int .i64 0, .int .i64 0, .int .i64 0] 32))
    clear g CK c0 c1 c2 c3 c4
    simp only [Pl.scen0, List.length_nil]
    go_upto_region 4 with (fail)
    generalize w4.alloc (.cells #[.slice da 0 dc, .slice ma 0 mc, .int .i64 0, .int .i64 0, .int .i64 0] 32) = w5 at *
    have k0 := box_cell NS.out 0 (.slice da 0 dc) rfl
    have k1 := box_cell NS.out 1 (.slice ma 0 mc) rfl
    have k3 := box_cell NS.out 3 (.int .i64 0) rfl
    go_wp2_with fail
    go_ret
    exact ⟨rfl, G4.out⟩
  · obtain ⟨s, hR, hPo, hk⟩ := Pl.check_unsafe HFi.out.v hs
    have CK := Lib.hid (check_is ⟨P, sa, sc, wa, wc⟩ w3 S3.out hR)
    have HPo := Lib.hid hPo
    have HKi := Lib.hid hk
    clear hs hR hPo hk
    go_wp2_with fail
    refine CK.out.mono ?_; rintro e w4 ⟨da, dc, ma, mc, rfl, ok, g⟩
    have hb := below_new w4 (.cells #[.slice da s.dur.length dc, .slice ma s.mv.length mc, .int .i64 s.det, .int .i64 s.tool, .int .i64 s.at_] 32)
    have G5 := Lib.hid (below_step (below_step G3.out g) hb)
    have NS := Lib.hid (heap_alloc_new w4 (.cells #[.slice da s.dur.length dc, .slice ma s.mv.length mc, .int .i64 s.det, .int .i64 s.tool, .int .i64 s.at_] 32))
    have NP5 := Lib.hid (box_below (box_below NP.out g) hb)
    have S5 := Lib.hid ((S3.out.below g).below hb)
    have D5 := Lib.hid (ok.below hb)
    clear g CK c0 c1 c2 c3 c4 hb ok G3 NP S3 O3
    go_upto_region 6 with (fail)
    generalize w4.alloc (.cells #[.slice da s.dur.length dc, .slice ma s.mv.length mc, .int .i64 s.det, .int .i64 s.tool, .int .i64 s.at_] 32) = w5 at *
    generalize w4.heap.size = n9 at *
    have RN := run_ends ⟨P, sa, sc, wa, wc⟩ ⟨s, da, dc, ma, mc⟩ w5 S5.out D5.out
    rw [answer_of HPo.out] at RN
    have RN := Lib.hid RN
    have HPs := Lib.hid (Pl.possible_iff.2 HPo.out)
    generalize Pl.run P s = R at *
    have c0 := box_cell NP5.out 0 (.int .i64 P.entry) rfl
    have c1 := box_cell NP5.out 1 (.int .i64 P.mmin) rfl
    have c2 := box_cell NP5.out 2 (.int .i64 P.mmax) rfl
    have c3 := box_cell NP5.out 3 (.slice sa P.st.length sc) rfl
    have c4 := box_cell NP5.out 4 (.slice wa P.wn.length wc) rfl
    have k0 := box_cell NS.out 0 (.slice da s.dur.length dc) rfl
    have k1 := box_cell NS.out 1 (.slice ma s.mv.length mc) rfl
    have k2 := box_cell NS.out 2 (.int .i64 s.det) rfl
    have k3 := box_cell NS.out 3 (.int .i64 s.tool) rfl
    have k4 := box_cell NS.out 4 (.int .i64 s.at_) rfl
    go_wp2_with fail
    refine RN.out.mono ?_; rintro e w6 ⟨va, vc, rfl, -, g, -⟩
    clear c0 c1 c2 c3 c4 k0 k1 k2 k3 k4 RN
    have hb := below_new w6 (.cells #[.int .i64 R.kind, .int .i64 R.num] 38)
    have NL := Lib.hid (heap_alloc_new w6 (.cells #[.int .i64 R.kind, .int .i64 R.num] 38))
    have G7 := Lib.hid (below_step (below_step G5.out g) hb)
    have NS7 := Lib.hid (box_below (box_below NS.out g) hb)
    have NP7 := Lib.hid (box_below (box_below NP5.out g) hb)
    have S7 := Lib.hid ((S5.out.below g).below hb)
    have D7 := Lib.hid ((D5.out.below g).below hb)
    clear g hb NS NP5 S5 D5 G5
    go_upto_region 7 with (fail)
    generalize w6.alloc (.cells #[.int .i64 R.kind, .int .i64 R.num] 38) = w7 at *
    generalize w6.heap.size = n10 at *
    have PS := Possible_any ⟨P, sa, sc, wa, wc⟩ ⟨s, da, dc, ma, mc⟩ w7 S7.out D7.out
    rw [show Pl.possible P s = true from HPs.out] at PS
    have PS := Lib.hid PS
    have c0 := box_cell NP7.out 0 (.int .i64 P.entry) rfl
    have c1 := box_cell NP7.out 1 (.int .i64 P.mmin) rfl
    have c2 := box_cell NP7.out 2 (.int .i64 P.mmax) rfl
    have c3 := box_cell NP7.out 3 (.slice sa P.st.length sc) rfl
    have c4 := box_cell NP7.out 4 (.slice wa P.wn.length wc) rfl
    have k0 := box_cell NS7.out 0 (.slice da s.dur.length dc) rfl
    have k1 := box_cell NS7.out 1 (.slice ma s.mv.length mc) rfl
    have k2 := box_cell NS7.out 2 (.int .i64 s.det) rfl
    have k3 := box_cell NS7.out 3 (.int .i64 s.tool) rfl
    have k4 := box_cell NS7.out 4 (.int .i64 s.at_) rfl
    go_wp2_with fail
    refine PS.out.mono ?_; rintro e w8 ⟨rfl, g⟩
    have l0 := box_cell (box_below NL.out g) 0 (.int .i64 R.kind) rfl
    have n1 : (R.kind != 0) = true := by simpa using HKi.out
    have G8 := Lib.hid (below_step G7.out g)
    clear c0 c1 c2 c3 c4 k0 k1 k2 k3 k4 g PS
    go_wp2_with fail
    go_ret
    exact ⟨rfl, G8.out⟩
end Go.Proofs.YtihohjgjklcnlaaDoor

namespace Go.Proofs.YtihohjgjklcnlaaDoor
open Go.RowKit Go.Shelf
attribute [local go_sem] Oper.semAt_some
set_option maxRecDepth 100000 in
set_option maxHeartbeats 4000000 in
theorem safe_any (xa : Option Addr) (xc : Nat) (X : List (List Int)) (t : Bool) (ya : Option Addr) (yc : Nat) (Y : List (List Int)) (tool at_ : Int) (W : World) (ht : Wb.Tab W) (hX : ArrsA 6 W xa xc X) (hY : ArrsA 2 W ya yc Y) (ft : Fits tool) (fa : Fits at_) :
    Calls Tryd.prog 3 #[.slice xa X.length xc, .bool t, .slice ya Y.length yc, .int .i64 tool, .int .i64 at_] W fun e w' => e = .returned (.bool true) ∧ Below W.heap.size W w' := by
  have HX := Lib.hid hX; have HT := Lib.hid ht; clear hX ht
  have HY := Lib.hid hY; have HFt := Lib.hid ft; have HFa := Lib.hid fa; clear hY ft fa
  have HFi := Lib.hid (Pl.made9_fine X t)
  go_enter Tryd.func3, Tryd.ntmps3
  go_wp2_with fail
  refine (sane_any W HT.out).mono ?_; rintro e w1 ⟨rfl, g1⟩
  have G1 := Lib.hid g1; clear g1
  go_wp2_with fail
  refine (made_any X t xa xc w1 (HX.out.below G1.out)).mono ?_; rintro e w2 ⟨sa, sc, wa, wc, rfl, s1, s2, g2⟩
  have G2 := Lib.hid (below_step G1.out g2)
  have O2 := Lib.hid (show StO w2 W.heap.size (.slice sa (Pl.made9 X t).st.length sc) (Pl.made9 X t).st ∧ WnO w2 W.heap.size (.slice wa (Pl.made9 X t).wn.length wc) (Pl.made9 X t).wn from ⟨s1.mono G1.out.size, s2.mono G1.out.size⟩)
  clear g2 s1 s2 G1
  obtain ⟨P, hP⟩ : ∃ P, Pl.made9 X t = P := ⟨_, rfl⟩
  rw [hP] at O2 HFi
  rw [hP]
  have HP := Lib.hid hP
  clear hP
  go_upto_region 3 with (fail)
  have hb := below_new w2 (.cells #[.int .i64 P.entry, .int .i64 P.mmin, .int .i64 P.mmax, .slice sa P.st.length sc, .slice wa P.wn.length wc] 28)
  have NP := Lib.hid (heap_alloc_new w2 (.cells #[.int .i64 P.entry, .int .i64 P.mmin, .int .i64 P.mmax, .slice sa P.st.length sc, .slice wa P.wn.length wc] 28))
  have G3 := Lib.hid (below_step G2.out hb)
  have O3 := Lib.hid (show StO (w2.alloc (.cells #[.int .i64 P.entry, .int .i64 P.mmin, .int .i64 P.mmax, .slice sa P.st.length sc, .slice wa P.wn.length wc] 28)) W.heap.size (.slice sa P.st.length sc) P.st ∧ WnO (w2.alloc (.cells #[.int .i64 P.entry, .int .i64 P.mmin, .int .i64 P.mmax, .slice sa P.st.length sc, .slice wa P.wn.length wc] 28)) W.heap.size (.slice wa P.wn.length wc) P.wn from ⟨RowO.below O2.out.1 hb, RowO.below O2.out.2 hb⟩)
  have S3 := Lib.hid (made_ok O3.out.1 O3.out.2 : PlanP.ok ⟨P, sa, sc, wa, wc⟩ _)
  clear hb O2 G2
  generalize w2.alloc (.cells #[.int .i64 P.entry, .int .i64 P.mmin, .int .i64 P.mmax, .slice sa P.st.length sc, .slice wa P.wn.length wc] 28) = w3 at *
  generalize w2.heap.size = n8 at *
  have c0 := box_cell NP.out 0 (.int .i64 P.entry) rfl
  have c1 := box_cell NP.out 1 (.int .i64 P.mmin) rfl
  have c2 := box_cell NP.out 2 (.int .i64 P.mmax) rfl
  have c3 := box_cell NP.out 3 (.slice sa P.st.length sc) rfl
  have c4 := box_cell NP.out 4 (.slice wa P.wn.length wc) rfl
  by_cases hs : ¬ Pl.SafeC P
  · obtain ⟨s, hR, -, -⟩ := Pl.check_unsafe HFi.out.v hs
    have CK := Lib.hid (check_is ⟨P, sa, sc, wa, wc⟩ w3 S3.out hR)
    clear hs hR
    go_wp2_with fail
    refine CK.out.mono ?_; rintro e w4 ⟨da, dc, ma, mc, rfl, -, g⟩
    have G5 := Lib.hid (below_step (below_step G3.out g) (below_new w4 (.cells #[.slice da s.dur.length dc, .slice ma s.mv.length mc, .int .i64 s.det, .int .i64 s.tool, .int .i64 s.at_] 32)))
    clear g CK c0 c1 c2 c3 c4
    go_upto_region 4 with (fail)
    generalize w4.alloc (.cells #[.slice da s.dur.length dc, .slice ma s.mv.length mc, .int .i64 s.det, .int .i64 s.tool, .int .i64 s.at_] 32) = w5 at *
    go_wp2_with fail
    go_ret
    exact ⟨rfl, G5.out⟩
  have hs := Classical.not_not.1 hs
  have CK := Lib.hid (check_is ⟨P, sa, sc, wa, wc⟩ w3 S3.out (Pl.check_safe HFi.out.v hs))
  have HSf := Lib.hid hs
  clear hs
  go_wp2_with fail
  refine CK.out.mono ?_; rintro e w4 ⟨da0, dc0, ma0, mc0, rfl, -, g⟩
  have hb := below_step g (below_new w4 (.cells #[.slice da0 0 dc0, .slice ma0 0 mc0, .int .i64 0, .int .i64 0, .int .i64 0] 32))
  have NP5 := Lib.hid (box_below NP.out hb)
  have S5 := Lib.hid (S3.out.below hb)
  have G5 := Lib.hid (below_step G3.out hb)
  clear g CK c0 c1 c2 c3 c4 hb NP S3 G3 O3
  simp only [Pl.scen0, List.length_nil]
  go_upto_region 6 with (fail)
  generalize w4.alloc (.cells #[.slice da0 0 dc0, .slice ma0 0 mc0, .int .i64 0, .int .i64 0, .int .i64 0] 32) = w5 at *
  have c0 := box_cell NP5.out 0 (.int .i64 P.entry) rfl
  have c1 := box_cell NP5.out 1 (.int .i64 P.mmin) rfl
  have c2 := box_cell NP5.out 2 (.int .i64 P.mmax) rfl
  have c3 := box_cell NP5.out 3 (.slice sa P.st.length sc) rfl
  have c4 := box_cell NP5.out 4 (.slice wa P.wn.length wc) rfl
  have CH := Lib.hid (Chosen_any ⟨P, sa, sc, wa, wc⟩ Y ya yc tool at_ w5 S5.out HFi.out (HY.out.below G5.out) HFt.out HFa.out)
  have HPo := Lib.hid (Pl.chosen_poss HFi.out Y tool at_)
  go_wp2_with fail
  refine CH.out.mono ?_; rintro e w6 ⟨da, dc, ma, mc, rfl, d1, d2, g, -⟩
  have D6 := Lib.hid (scen_ok d1 d2)
  clear d1 d2 CH c0 c1 c2 c3 c4
  obtain ⟨s, hss⟩ : ∃ s, Pl.chosen P Y tool at_ = s := ⟨_, rfl⟩
  rw [show Pl.chosen (PlanP.p ⟨P, sa, sc, wa, wc⟩) Y tool at_ = s from hss] at D6
  rw [show Pl.chosen (PlanP.p ⟨P, sa, sc, wa, wc⟩) Y tool at_ = s from hss]
  rw [hss] at HPo
  clear hss
  have hb := below_new w6 (.cells #[.slice da s.dur.length dc, .slice ma s.mv.length mc, .int .i64 s.det, .int .i64 s.tool, .int .i64 s.at_] 32)
  have NS := Lib.hid (heap_alloc_new w6 (.cells #[.slice da s.dur.length dc, .slice ma s.mv.length mc, .int .i64 s.det, .int .i64 s.tool, .int .i64 s.at_] 32))
  have NP7 := Lib.hid (box_below (box_below NP5.out g) hb)
  have S7 := Lib.hid ((S5.out.below g).below hb)
  have D7 := Lib.hid (D6.out.below hb)
  have G7 := Lib.hid (below_step (below_step G5.out g) hb)
  clear g hb NP5 S5 D6 G5
  go_upto_region 7 with (fail)
  generalize w6.alloc (.cells #[.slice da s.dur.length dc, .slice ma s.mv.length mc, .int .i64 s.det, .int .i64 s.tool, .int .i64 s.at_] 32) = w7 at *
  generalize w6.heap.size = n9 at *
  have c0 := box_cell NP7.out 0 (.int .i64 P.entry) rfl
  have c1 := box_cell NP7.out 1 (.int .i64 P.mmin) rfl
  have c2 := box_cell NP7.out 2 (.int .i64 P.mmax) rfl
  have c3 := box_cell NP7.out 3 (.slice sa P.st.length sc) rfl
  have c4 := box_cell NP7.out 4 (.slice wa P.wn.length wc) rfl
  have k0 := box_cell NS.out 0 (.slice da s.dur.length dc) rfl
  have k1 := box_cell NS.out 1 (.slice ma s.mv.length mc) rfl
  have k2 := box_cell NS.out 2 (.int .i64 s.det) rfl
  have k3 := box_cell NS.out 3 (.int .i64 s.tool) rfl
  have k4 := box_cell NS.out 4 (.int .i64 s.at_) rfl
  have RN := run_ends ⟨P, sa, sc, wa, wc⟩ ⟨s, da, dc, ma, mc⟩ w7 S7.out D7.out
  rw [answer_of HPo.out] at RN
  have RN := Lib.hid RN
  have HEn := Lib.hid (Pl.ended (s := s) HFi.out.v)
  have HK0 := Lib.hid (Pl.safe_never HSf.out HPo.out)
  obtain ⟨R, hR⟩ : ∃ R, Pl.run P s = R := ⟨_, rfl⟩
  rw [hR] at RN HEn HK0
  clear hR
  go_wp2_with fail
  refine RN.out.mono ?_; rintro e w8 ⟨va, vc, rfl, hv, g, -⟩
  clear c0 c1 c2 c3 c4 k0 k1 k2 k3 k4 RN
  have hb := below_new w8 (.cells #[.int .i64 R.kind, .int .i64 R.num] 38)
  have NL := Lib.hid (heap_alloc_new w8 (.cells #[.int .i64 R.kind, .int .i64 R.num] 38))
  have V9 := Lib.hid (hv.below hb)
  have G9 := Lib.hid (below_step (below_step G7.out g) hb)
  have NS9 := Lib.hid (box_below (box_below NS.out g) hb)
  have NP9 := Lib.hid (box_below (box_below NP7.out g) hb)
  have S9 := Lib.hid ((S7.out.below g).below hb)
  have D9 := Lib.hid ((D7.out.below g).below hb)
  clear g hb NS NP7 S7 D7 G7 hv
  go_upto_region 8 with (fail)
  generalize w8.alloc (.cells #[.int .i64 R.kind, .int .i64 R.num] 38) = w9 at *
  generalize w8.heap.size = n10 at *
  obtain ⟨hst, hkp⟩ : Pl.Steps P s P.st.length R.V ∧ Pl.Kept P P.st.length R.V := by
    rcases HEn.out with ⟨h1, h2, h3, h4⟩ | ⟨j, h1, h2, hj, h3, h4⟩ | ⟨j, k, hk, h1, h2, hj, h3, h4, h5, h6, h7⟩
    · exact ⟨h3, h4⟩
    · have := HK0.out; omega
    · have := HK0.out; omega
  have HSt := Lib.hid hst; have HKp := Lib.hid hkp
  have HVl := Lib.hid hst.len
  clear hst hkp HEn
  have l0 := box_cell NL.out 0 (.int .i64 R.kind) rfl
  rw [HK0.out] at l0
  have d3 := box_cell NP9.out 3 (.slice sa P.st.length sc) rfl
  have n1 : ((R.V.length : Int) != (P.st.length : Int)) = false := by rw [HVl.out]; simp
  have n2 : (R.V.length != P.st.length) = false := by rw [HVl.out]; simp
  go_wp2_with fail
  clear l0 d3 n1 n2 NL
  have hvl8 : R.V.length ≤ 8 := by have h1 := HVl.out; have h2 := HFi.out.v.len; omega
  go_loopg [19] R.V.length (fun g iv wr => ∃ k : Nat, k ≤ R.V.length ∧ g = R.V.length - k ∧ iv = .int .i64 (k : Int) ∧ Hid (Below w9.heap.size w9 wr))
  case atStart => exact ⟨0, by omega, by omega, rfl, Lib.hid (Below.refl _ _)⟩
  case round =>
    obtain ⟨k, hk, rfl, rfl, HK⟩ := hrel
    rename World => wk
    by_cases hlt : k < R.V.length
    · as_aux_lemma =>
      have hkl : k < P.st.length := by have := HVl.out; omega
      have hdk : k < s.dur.length := by have := HPo.out.dlen; omega
      have HDo := Lib.hid (Pl.done_of HPo.out hkl (HSt.out.each k hkl hkl))
      have hok := HFi.out.v.st P.st[k] (List.getElem_mem hkl)
      have hdu := HPo.out.dur k hkl
      have d3 := cell_below HK.out (box_cell NP9.out 3 (.slice sa P.st.length sc) rfl)
      have k0 := cell_below HK.out (box_cell NS9.out 0 (.slice da s.dur.length dc) rfl)
      obtain ⟨b1, o1, rfl, hb1, hc1⟩ := (S9.out.st.below HK.out).at (show 0 < P.st.length by omega)
      obtain ⟨b2, o2, rfl, hb2, hc2⟩ := (V9.out.below HK.out).at (show 0 < R.V.length by omega)
      obtain ⟨b3, o3, rfl, hb3, hc3⟩ := (D9.out.du.below HK.out).at (show 0 < s.dur.length by omega)
      obtain ⟨s0, s1, s2, s3, s4, s5⟩ := st_cells (hc1 k hkl)
      have y1 := hc2 k hlt 1 (.int .i64 R.V[k].tool) rfl
      have y2 := hc2 k hlt 2 (.int .i64 R.V[k].start) rfl
      have y3 := hc2 k hlt 3 (.int .i64 R.V[k].fin) rfl
      have du := cell0 (hc3 k hdk 0 (.int .i64 s.dur[k]) rfl) rfl rfl
      have HN := Lib.hid (show Pl.nth R.V (k : Int) = R.V[k] by unfold Pl.nth; rw [Int.toNat_natCast, List.getD_eq_getElem?_getD, List.getElem?_eq_getElem hlt]; rfl)
      have HDk := Lib.hid (show s.dur.getD k 0 = s.dur[k] by rw [List.getD_eq_getElem?_getD, List.getElem?_eq_getElem hdk]; rfl)
      rw [HN.out, HDk.out] at HDo
      rw [HDk.out] at hdu
      clear hc1 hc2 hc3 HN HDk
      generalize P.st[k] = x at *
      generalize R.V[k] = y at *
      generalize s.dur[k] = d at *
      have q1 := hok.mn; have q2 := hok.ms; have q3 := hok.ss; have q4 := hok.top; have q5 := hok.mx
      have hyb : 0 ≤ y.start ∧ y.start ≤ 1000000 := by
        rcases HDo.out.2.2 with ⟨-, h, -⟩ | ⟨-, h⟩ <;> omega
      have i1 : (0 : Int) ≤ (k : Int) := by omega
      have i2 : (k : Int) < (R.V.length : Int) := by omega
      have i3 : (k : Int) < (P.st.length : Int) := by omega
      have i6 : (k : Int) < (s.dur.length : Int) := by omega
      have i4 : ((k : Int)).toNat = k := by omega
      go_upto_region 14 with (fail)
      have hb := below_new wk (.cells #[.int .i64 x.mn, .int .i64 x.mx, .int .i64 x.m.tool, .int .i64 x.m.start, .int .i64 x.s.tool, .int .i64 x.s.start] 45)
      have X := heap_alloc_new wk (.cells #[.int .i64 x.mn, .int .i64 x.mx, .int .i64 x.m.tool, .int .i64 x.m.start, .int .i64 x.s.tool, .int .i64 x.s.start] 45)
      have x2 := box_cell X 2 (.int .i64 x.m.tool) rfl
      have x3 := box_cell X 3 (.int .i64 x.m.start) rfl
      have x4 := box_cell X 4 (.int .i64 x.s.tool) rfl
      have x5 := box_cell X 5 (.int .i64 x.s.start) rfl
      have y1 := cell_below hb y1; have y2 := cell_below hb y2; have y3 := cell_below hb y3
      have k0 := cell_below hb k0; have du := cell_below hb du
      have HKw := Lib.hid (below_step HK.out hb)
      clear hb X s0 s1 s2 s3 s4 s5 d3 HK
      generalize wk.alloc (.cells #[.int .i64 x.mn, .int .i64 x.mx, .int .i64 x.m.tool, .int .i64 x.m.start, .int .i64 x.s.tool, .int .i64 x.s.start] 45) = wl at *
      generalize wk.heap.size = nx at *
      go_upto_region 14 with (fail)
      go_cut [21] (fun tt wx => ∃ B, tt = .bool B ∧ (∃ n, wx = wl.drewN n) ∧ Hid (y.start = x.m.start ∧ y.tool = x.m.tool → B = true))
      case first => as_aux_lemma =>
        by_cases h1 : y.start = x.m.start
        · have n1 : (y.start == x.m.start) = true := by simp [h1]
          by_cases h2 : y.tool = x.m.tool
          · have n2 : (y.tool == x.m.tool) = true := by simp [h2]
            clear h1 h2
            go_quiet (fail)
            go_wp2_with fail
            go_meet
            exact ⟨true, rfl, ⟨_, rfl⟩, Lib.hid (fun _ => rfl)⟩
          · have n2 : (y.tool == x.m.tool) = false := by simp [h2]
            have H2 := Lib.hid h2
            clear h1 h2
            go_quiet (fail)
            go_wp2_with fail
            go_meet
            exact ⟨false, rfl, ⟨_, rfl⟩, Lib.hid (fun h => absurd h.2 H2.out)⟩
        · have n1 : (y.start == x.m.start) = false := by simp [h1]
          have H1 := Lib.hid h1
          clear h1
          go_quiet (fail)
          go_wp2_with fail
          go_meet
          exact ⟨false, rfl, ⟨_, rfl⟩, Lib.hid (fun h => absurd h.1 H1.out)⟩
      case rest =>
      obtain ⟨Bm, rfl, ⟨nq, rfl⟩, HBm⟩ := hcut
      have HD := Lib.hid (below_drewN (Below.refl wl.heap.size wl) nq)
      have x2 := cell_below HD.out x2
      have x3 := cell_below HD.out x3
      have x4 := cell_below HD.out x4
      have x5 := cell_below HD.out x5
      have y1 := cell_below HD.out y1
      have y2 := cell_below HD.out y2
      have y3 := cell_below HD.out y3
      have k0 := cell_below HD.out k0
      have du := cell_below HD.out du
      have HKw' := Lib.hid (below_step HKw.out HD.out)
      clear HKw HD
      have HKw := HKw'
      clear HKw'
      generalize wl.drewN nq = wl' at *
      rename World => wl
      go_upto_region 15 with (fail)
      go_cut [22] (fun tt wx => ∃ B, tt = .bool B ∧ (∃ n, wx = wl.drewN n) ∧ Hid (y.start = x.s.start ∧ y.tool = x.s.tool → B = true))
      case first => as_aux_lemma =>
        by_cases h1 : y.start = x.s.start
        · have n1 : (y.start == x.s.start) = true := by simp [h1]
          by_cases h2 : y.tool = x.s.tool
          · have n2 : (y.tool == x.s.tool) = true := by simp [h2]
            clear h1 h2
            go_quiet (fail)
            go_wp2_with fail
            go_meet
            exact ⟨true, rfl, ⟨_, rfl⟩, Lib.hid (fun _ => rfl)⟩
          · have n2 : (y.tool == x.s.tool) = false := by simp [h2]
            have H2 := Lib.hid h2
            clear h1 h2
            go_quiet (fail)
            go_wp2_with fail
            go_meet
            exact ⟨false, rfl, ⟨_, rfl⟩, Lib.hid (fun h => absurd h.2 H2.out)⟩
        · have n1 : (y.start == x.s.start) = false := by simp [h1]
          have H1 := Lib.hid h1
          clear h1
          go_quiet (fail)
          go_wp2_with fail
          go_meet
          exact ⟨false, rfl, ⟨_, rfl⟩, Lib.hid (fun h => absurd h.1 H1.out)⟩
      case rest =>
      obtain ⟨Bs, rfl, ⟨nq, rfl⟩, HBs⟩ := hcut
      have HD := Lib.hid (below_drewN (Below.refl wl.heap.size wl) nq)
      have x2 := cell_below HD.out x2
      have x3 := cell_below HD.out x3
      have x4 := cell_below HD.out x4
      have x5 := cell_below HD.out x5
      have y1 := cell_below HD.out y1
      have y2 := cell_below HD.out y2
      have y3 := cell_below HD.out y3
      have k0 := cell_below HD.out k0
      have du := cell_below HD.out du
      have HKw' := Lib.hid (below_step HKw.out HD.out)
      clear HKw HD
      have HKw := HKw'
      clear HKw'
      generalize wl.drewN nq = wl' at *
      rename World => wl
      have HFin := Lib.hid HDo.out.2.1
      have e1 : IntKind.i64.wrap (y.fin - y.start) = d := by rw [HFin.out, show y.start + d - y.start = d by omega]; exact IntWalk.i64_in _ (by omega)
      have n3 : (d != d) = false := by simp
      have HOr := Lib.hid (show Bm = true ∨ Bs = true by
        rcases HDo.out.2.2 with ⟨h1, h2, -⟩ | ⟨h1, h2⟩
        · exact .inl (HBm.out ⟨h2, h1⟩)
        · exact .inr (HBs.out ⟨h2, h1⟩))
      clear x2 x3 x4 x5 y1 q1 q2 q3 q4 q5 hok hdu
      go_upto_region 16 with (fail)
      go_cut [139] (fun tt wx => tt = .bool false ∧ ∃ n, wx = wl.drewN n)
      case first => as_aux_lemma =>
        cases Bm with
        | true =>
          clear HOr
          go_quiet (fail)
          go_wp2_with fail
          go_meet
          exact ⟨rfl, _, rfl⟩
        | false =>
          cases Bs with
          | true =>
            clear HOr
            go_quiet (fail)
            go_wp2_with fail
            go_meet
            exact ⟨rfl, _, rfl⟩
          | false => exact absurd HOr.out (by simp)
      case rest =>
      obtain ⟨rfl, nq, rfl⟩ := hcut
      have HB' := Lib.hid (below_drewN HKw.out nq)
      clear y2 y3 k0 du e1 n3
      go_wp2_with fail
      go_roundg (R.V.length - (k + 1))
      case rel => exact ⟨k + 1, by omega, rfl, by go_num, HB'⟩
      case measure => omega
    · have i5 : ¬ (k : Int) < (R.V.length : Int) := by omega
      have HW9 := HK
      clear HK
      have hwl : P.wn.length ≤ 20 := HFi.out.v.wlen
      go_wp2_with fail
      rename World => wo
      clear i5
      go_loopg [23] P.wn.length (fun g iv wr => ∃ q : Nat, q ≤ P.wn.length ∧ g = P.wn.length - q ∧ iv = .int .i64 (q : Int) ∧ Hid (Below w9.heap.size w9 wr))
      case atStart => exact ⟨0, by omega, by omega, rfl, HW9⟩
      case round =>
        obtain ⟨q, hq, rfl, rfl, HK⟩ := hrel
        rename World => wk
        have d4 := cell_below HK.out (box_cell NP9.out 4 (.slice wa P.wn.length wc) rfl)
        by_cases hlt : q < P.wn.length
        · as_aux_lemma =>
          have HOk := Lib.hid (HFi.out.v.wn P.wn[q] (List.getElem_mem hlt))
          have HMi := Lib.hid (HKp.out P.wn[q] (List.getElem_mem hlt) HOk.out.t)
          obtain ⟨b1, o1, rfl, hb1, hc1⟩ := (S9.out.wn.below HK.out).at (show 0 < P.wn.length by omega)
          have s0 := hc1 q hlt 0 (.int .i64 P.wn[q].f) rfl
          have s1 := hc1 q hlt 1 (.int .i64 P.wn[q].t) rfl
          have s2 := hc1 q hlt 2 (.int .i64 P.wn[q].lim) rfl
          simp only [Nat.add_zero] at s0
          clear hc1
          generalize P.wn[q] = u at *
          have o1' := HOk.out.f; have o2' := HOk.out.ft; have o3' := HOk.out.t; have o4' := HOk.out.l
          obtain ⟨f, hf⟩ := Int.eq_ofNat_of_zero_le o1'
          obtain ⟨b, hb⟩ := Int.eq_ofNat_of_zero_le (show 0 ≤ u.t by omega)
          have hbV : b < R.V.length := by rw [HVl.out]; omega
          have hfV : f < R.V.length := by omega
          have hbd := Pl.ended_bd (k := b) HPo.out (Pl.ended (s := s) HFi.out.v)
          obtain ⟨b2, o2, rfl, hb2, hc2⟩ := (V9.out.below HK.out).at (show 0 < R.V.length by omega)
          have yt := hc2 b hbV 2 (.int .i64 R.V[b].start) rfl
          have yf := hc2 f hfV 3 (.int .i64 R.V[f].fin) rfl
          have HMs := Lib.hid (show R.V[b].start - R.V[f].fin ≤ u.lim by
            have h := HMi.out
            unfold Pl.missed at h
            have h := of_decide_eq_false h
            rw [hb, hf] at h
            unfold Pl.nth at h
            rw [Int.toNat_natCast, Int.toNat_natCast, List.getD_eq_getElem?_getD, List.getElem?_eq_getElem hbV, List.getD_eq_getElem?_getD, List.getElem?_eq_getElem hfV] at h
            simp only [Option.getD_some] at h
            omega)
          have HBd := Lib.hid (show (0 ≤ R.V[b].start ∧ R.V[b].start ≤ 1000000) ∧ 0 ≤ R.V[f].fin ∧ R.V[f].fin ≤ 1010000 by
            have hS : Pl.Steps P s R.V.length R.V := by rw [HVl.out]; exact HSt.out
            have h1 := Pl.steps_bd HPo.out (show R.V.length ≤ P.st.length by rw [HVl.out]; exact Nat.le_refl _) hS hbV
            have h2 := Pl.steps_bd HPo.out (show R.V.length ≤ P.st.length by rw [HVl.out]; exact Nat.le_refl _) hS hfV
            unfold Pl.nth at h1 h2
            rw [Int.toNat_natCast, List.getD_eq_getElem?_getD, List.getElem?_eq_getElem hbV] at h1
            rw [Int.toNat_natCast, List.getD_eq_getElem?_getD, List.getElem?_eq_getElem hfV] at h2
            exact ⟨h1.1, h2.2⟩)
          clear hc2 hbd
          generalize R.V[b].start = BS at *
          generalize R.V[f].fin = FF at *
          have i1 : (0 : Int) ≤ (q : Int) := by omega
          have i2 : (q : Int) < (P.wn.length : Int) := by omega
          have i4 : ((q : Int)).toNat = q := by omega
          have HFf := Lib.hid hf; have HBb := Lib.hid hb
          clear hf hb
          go_upto_region 22 with (fail)
          have hbn := below_new wk (.cells #[.int .i64 u.f, .int .i64 u.t, .int .i64 u.lim] 49)
          have X := heap_alloc_new wk (.cells #[.int .i64 u.f, .int .i64 u.t, .int .i64 u.lim] 49)
          have x0 := box_cell X 0 (.int .i64 u.f) rfl
          have x1 := box_cell X 1 (.int .i64 u.t) rfl
          have x2 := box_cell X 2 (.int .i64 u.lim) rfl
          have yt := cell_below hbn yt; have yf := cell_below hbn yf
          have HKw := Lib.hid (below_step HK.out hbn)
          clear hbn X s0 s1 s2 d4 HK
          generalize wk.alloc (.cells #[.int .i64 u.f, .int .i64 u.t, .int .i64 u.lim] 49) = wl at *
          generalize wk.heap.size = nx at *
          rw [HFf.out] at x0
          rw [HBb.out] at x1
          generalize u.lim = lim at *
          have g1 := HBd.out
          have e1 : IntKind.i64.wrap (BS - FF) = BS - FF := IntWalk.i64_in _ (by omega)
          have n1 : ¬ lim < BS - FF := by have := HMs.out; omega
          have n2 : decide (lim < BS - FF) = false := decide_eq_false n1
          have b0 : (0 : Int) ≤ (b : Int) := by omega
          have b1' : (b : Int) < (R.V.length : Int) := by omega
          have b2' : ((b : Int)).toNat = b := by omega
          have f0 : (0 : Int) ≤ (f : Int) := by omega
          have f1 : (f : Int) < (R.V.length : Int) := by omega
          have f2 : ((f : Int)).toNat = f := by omega
          clear o1' o2' o3' o4' g1 HMi
          go_cut [167] (fun tt wx => tt = .bool false ∧ ∃ n, wx = wl.drewN n)
          case first => as_aux_lemma =>
            go_quiet (fail)
            go_wp2_with fail
            go_meet
            exact ⟨rfl, _, rfl⟩
          case rest =>
          obtain ⟨rfl, nq, rfl⟩ := hcut
          have HB' := Lib.hid (below_drewN HKw.out nq)
          clear x0 x1 x2 yt yf e1 n1 n2
          go_wp2_with fail
          go_roundg (P.wn.length - (q + 1))
          case rel => exact ⟨q + 1, by omega, rfl, by go_num, HB'⟩
          case measure => omega
        · have i5 : ¬ (q : Int) < (P.wn.length : Int) := by omega
          have GF := Lib.hid (below_step G9.out HK.out)
          go_wp2_with fail
          go_ret
          exact ⟨rfl, GF.out⟩
end Go.Proofs.YtihohjgjklcnlaaDoor

namespace Go.Proofs.YtihohjgjklcnlaaDoor.lawCertifySafe
open Go.ChangeShapes Go.WideShapes Go.ChangeAt Go.RowKit
open Go.ChangeMaps (open_string shut_string)

set_option maxRecDepth 100000 in
theorem lifted (os : Os) (started : os.Started) (H : Type) (enc : TypeId × Value → H) :
    ReturnsInHanded {} Tryd.checked os 3 .any (fun w args => (Rows.certifySafeSpec.pre enc Tryd.prog Tryd.f3 [] false w args ∧ laidMetH Tryd.prog laidList w) ∧ sizedMet enc Tryd.prog Tryd.f3 (OpenSpec.ofChange Rows.certifySafeSpec) false w args)
      (Rows.certifySafeSpec.post enc Tryd.prog Tryd.f3 false true false false) := by
  refine returnsInHanded_of_change_and (C := Tryd.checked) (X := fun w _ => laidMetH Tryd.prog laidList w) (fun _ _ _ hh h => h.of_heap hh) own started (by kernel_rfl) Tryd.func3
    (ChangeSpec.witness_shaped (enc := enc) (C := Tryd.checked) (os := os) (X := fun w _ => laidMetH Tryd.prog laidList w) false (World.doorLaid Tryd.prog 400 os) #[.slice none 0 0, .bool false, .slice none 0 0, .int .i64 0, .int .i64 0] 8 rfl (World.shaped_of_RefB (by kernel_rfl) (by kernel_rfl)) (by kernel_rfl) (by kernel_rfl) (by kernel_rfl) (door_met os _)) ?_
  intro W base args ds gs before hval0 hW _ _ hL _
  have hval : ∀ (j : Nat) t v, Tryd.f3.params[j]? = some t → args[j]? = some v → Value.okWide Tryd.prog W .any base t v := hval0
  have hW' := hW
  obtain ⟨p, q, hA0, hV, rfl, hfz, hnd⟩ := hW
  have hA : DataW.TrodAll enc Tryd.prog W 0 (fun _ => true) true Tryd.f3.params.toList args.toList ds p := hA0
  rw [Tryd.params3] at hA hval
  obtain ⟨v0, vs0, d0, ds0, p0, q0, hargs, rfl, rfl, h0, r0⟩ := trodAll_cons hA
  obtain ⟨v1, vs1, d1, ds1, p1, q1, rfl, rfl, rfl, h1, r1⟩ := trodAll_cons r0
  obtain ⟨v2, vs2, d2, ds2, p2, q2, rfl, rfl, rfl, h2, r2⟩ := trodAll_cons r1
  obtain ⟨v3, vs3, d3, ds3, p3, q3, rfl, rfl, rfl, h3, r3⟩ := trodAll_cons r2
  obtain ⟨v4, vs4, d4, ds4, p4, q4, rfl, rfl, rfl, h4, r4⟩ := trodAll_cons r3
  obtain ⟨rfl, rfl, rfl⟩ := trodAll_nil r4
  obtain rfl : args = #[v0, v1, v2, v3, v4] := by cases args; simp_all
  obtain ⟨rfl, rfl⟩ := trodVars_none hV
  have k0 := h0
  have lt0 : ∀ x ∈ p0, x.block < W.heap.size := by obtain ⟨m, hm⟩ := k0; exact DataW.trod_lt m _ _ _ hm
  have k1 := h1
  have lt1 : ∀ x ∈ p1, x.block < W.heap.size := by obtain ⟨m, hm⟩ := k1; exact DataW.trod_lt m _ _ _ hm
  have k2 := h2
  have lt2 : ∀ x ∈ p2, x.block < W.heap.size := by obtain ⟨m, hm⟩ := k2; exact DataW.trod_lt m _ _ _ hm
  have k3 := h3
  have lt3 : ∀ x ∈ p3, x.block < W.heap.size := by obtain ⟨m, hm⟩ := k3; exact DataW.trod_lt m _ _ _ hm
  have k4 := h4
  have lt4 : ∀ x ∈ p4, x.block < W.heap.size := by obtain ⟨m, hm⟩ := k4; exact DataW.trod_lt m _ _ _ hm
  obtain ⟨a0, c0, z0, rfl, w0⟩ := open_sixes (hval 0 22 v0 rfl rfl) h0
  obtain ⟨a1, rfl, hd1, hp1⟩ := open_bool Tryd.underlying4 (hval 1 4 v1 rfl rfl) h1
  obtain ⟨a2, c2, z2, rfl, w2⟩ := open_twos (hval 2 23 v2 rfl rfl) h2
  obtain ⟨a3, rfl, hd3, hp3, w3⟩ := open_int Tryd.underlying3 (hval 3 3 v3 rfl rfl) h3
  have b3 := bounds_i64 w3
  obtain ⟨a4, rfl, hd4, hp4, w4⟩ := open_int Tryd.underlying3 (hval 4 3 v4 rfl rfl) h4
  have b4 := bounds_i64 w4
  clear hA0 hval0
  refine (safe_any a0 c0 z0 a1 a2 c2 z2 a3 a4 W (tab_of_laid hL) w0 w2 ⟨b3.1, b3.2⟩ ⟨b4.1, b4.2⟩).mono fun e W' ⟨he, bel⟩ => ?_
  subst he
  exact ⟨_, rfl, _, _, _, [], _, [], hW', trodAll_mk1 (shut_bool Tryd.underlying4 _), (trodAll_cons_mk (Below.trod laidOut (by kernel_rfl) (of_decide_eq_true (by kernel_rfl)) k0 bel lt0) (trodAll_cons_mk (Below.trod laidOut (by kernel_rfl) (of_decide_eq_true (by kernel_rfl)) k1 bel lt1) (trodAll_cons_mk (Below.trod laidOut (by kernel_rfl) (of_decide_eq_true (by kernel_rfl)) k2 bel lt2) (trodAll_cons_mk (Below.trod laidOut (by kernel_rfl) (of_decide_eq_true (by kernel_rfl)) k3 bel lt3) (trodAll_cons_mk (Below.trod laidOut (by kernel_rfl) (of_decide_eq_true (by kernel_rfl)) k4 bel lt4) trodAll_mk0))))), rfl, bel.frame _, fun h => by cases h⟩

theorem over : Rows.certifySafeRow.holds Tryd.pinned (OpenSpec.ofChange Rows.certifySafeSpec) :=
  OpenClaim.holds_of_wide 3 Tryd.f3 rfl rfl rfl rfl rfl rfl rfl ⟨rfl, rfl, rfl, rfl, rfl⟩ rfl rfl rfl rfl rfl (by kernel_rfl) Tryd.func3 (by kernel_rfl)
    (of_decide_eq_true (by kernel_rfl)) (by unfold Func.isWrapper; rw [if_neg (of_decide_eq_false (by kernel_rfl))]; exact ⟨rfl, rfl⟩)
    (fun os started H enc _ => lifted os started H enc)

theorem proved : Rows.CertifySafeCardSaid :=
  Claim7.holds_tied_plain_at .later [] [.data] true (true, "5525114c7adf425dbb03f7f3d5bfd400766d8dc32cebf7ba860010d8e3e61684") true
    over (fun _ h => by cases h) (by kernel_rfl) (fun _ h => by cases h) certifySafe_row_tie rfl ⟨rfl, rfl⟩ (by kernel_rfl) rfl
    (fun f fn hf hfn => by
      obtain rfl : f = 3 := Option.some.inj ((show Tryd.prog.funcNamed "cleanroom/cleanroomlaw09.CertifySafe" = some 3 by kernel_rfl).symm.trans hf) |>.symm
      obtain rfl : fn = Tryd.f3 := (Option.some.inj (Tryd.func3.symm.trans hfn)).symm
      exact ⟨by kernel_rfl, fun j t ht => by
        rw [Tryd.params3] at ht
        have hm : t ∈ [22, 4, 23, 3, 3] := by simpa using Array.mem_of_getElem? ht
        have hall : ([22, 4, 23, 3, 3].all fun u => !Tryd.prog.wantsStandIn u) = true := by kernel_rfl
        exact (show Tryd.prog.wantsStandIn t = false by simpa using List.all_eq_true.1 hall t hm)⟩)
    (by kernel_rfl)
#print axioms proved
end Go.Proofs.YtihohjgjklcnlaaDoor.lawCertifySafe
