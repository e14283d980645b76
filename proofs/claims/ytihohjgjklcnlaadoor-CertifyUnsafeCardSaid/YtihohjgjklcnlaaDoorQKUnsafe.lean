/-
  CertifyUnsafe walked.
  CertifyUnsafe: for every input that can be read the call returns true and leaves the input as it was; the row, and its card, whose table is tied to the program's text. No condition beside what the row says.
-/
import Derived.Test.YtihohjgjklcnlaaDoorQCf
import Derived.Test.YtihohjgjklcnlaaDoorQCg
import Derived.Test.YtihohjgjklcnlaaDoorQBz
import Derived.Deep.LoopGhost
import Derived.Deep.DeepCutAuto
import Derived.Test.YtihohjgjklcnlaaDoorQCh9
namespace Go.Proofs.YtihohjgjklcnlaaDoor
open Go.RowKit Go.Shelf
attribute [local go_sem] Oper.semAt_some
theorem check_is (q : PlanP) (w : World) (h : q.ok w) {s : Pl.Scen} {b : Bool} (hR : Pl.checkR q.p = (s, b)) : Calls Tryd.prog 12 #[q.val] w (ChkEx s b w) := by
  refine (Check_any q w h).mono fun e w' ⟨r, h1, h2, h3, h4⟩ => ?_
  obtain ⟨s', da, dc, ma, mc⟩ := r
  rw [hR] at h1 h2
  simp only at h1
  subst h1
  exact ⟨da, dc, ma, mc, h2, h3.ok, h4⟩
set_option maxRecDepth 100000 in
set_option maxHeartbeats 4000000 in
theorem unsafe_any (xa : Option Addr) (xc : Nat) (X : List (List Int)) (t : Bool) (W : World) (ht : Wb.Tab W) (hX : ArrsA 6 W xa xc X) :
    Calls Tryd.prog 4 #[.slice xa X.length xc, .bool t] W fun e w' => e = .returned (.bool true) ∧ Below W.heap.size W w' := by
  have HX := Lib.hid hX; have HT := Lib.hid ht; clear hX ht
  have HFi := Lib.hid (Pl.made9_fine X t)
  go_enter Tryd.func4, Tryd.ntmps4
  go_wp2_with fail
  refine (sane_any W HT.out).mono ?_; rintro e w1 ⟨rfl, g1⟩
  have G1 := Lib.hid g1; clear g1
  go_wp2_with fail
  refine (made_any X t xa xc w1 (HX.out.below G1.out)).mono ?_; rintro e w2 ⟨sa, sc, wa, wc, rfl, s1, s2, g2⟩
  have G2 := Lib.hid (below_step G1.out g2)
  have O2 := Lib.hid (show StO w2 W.heap.size (.slice sa (Pl.made9 X t).st.length sc) (Pl.made9 X t).st ∧ WnO w2 W.heap.size (.slice wa (Pl.made9 X t).wn.length wc) (Pl.made9 X t).wn from ⟨s1.mono G1.out.size, s2.mono G1.out.size⟩)
  clear g2 s1 s2 G1
  obtain ⟨P, hP⟩ : ∃ P, Pl.made9 X t = P := ⟨_, rfl⟩
  rw [hP] at O2 HFi
  rw [hP]
  have HP := Lib.hid hP
  clear hP
  go_upto_region 3 with (fail)
  have hb := below_new w2 (.cells #[.int .i64 P.entry, .int .i64 P.mmin, .int .i64 P.mmax, .slice sa P.st.length sc, .slice wa P.wn.length wc] 28)
  have NP := Lib.hid (heap_alloc_new w2 (.cells #[.int .i64 P.entry, .int .i64 P.mmin, .int .i64 P.mmax, .slice sa P.st.length sc, .slice wa P.wn.length wc] 28))
  have G3 := Lib.hid (below_step G2.out hb)
  have O3 := Lib.hid (show StO (w2.alloc (.cells #[.int .i64 P.entry, .int .i64 P.mmin, .int .i64 P.mmax, .slice sa P.st.length sc, .slice wa P.wn.length wc] 28)) W.heap.size (.slice sa P.st.length sc) P.st ∧ WnO (w2.alloc (.cells #[.int .i64 P.entry, .int .i64 P.mmin, .int .i64 P.mmax, .slice sa P.st.length sc, .slice wa P.wn.length wc] 28)) W.heap.size (.slice wa P.wn.length wc) P.wn from ⟨RowO.below O2.out.1 hb, RowO.below O2.out.2 hb⟩)
  have S3 := Lib.hid (made_ok O3.out.1 O3.out.2 : PlanP.ok ⟨P, sa, sc, wa, wc⟩ _)
  clear hb O2 G2
  generalize w2.alloc (.cells #[.int .i64 P.entry, .int .i64 P.mmin, .int .i64 P.mmax, .slice sa P.st.length sc, .slice wa P.wn.length wc] 28) = w3 at *
  generalize w2.heap.size = n8 at *
  have c0 := box_cell NP.out 0 (.int .i64 P.entry) rfl
  have c1 := box_cell NP.out 1 (.int .i64 P.mmin) rfl
  have c2 := box_cell NP.out 2 (.int .i64 P.mmax) rfl
  have c3 := box_cell NP.out 3 (.slice sa P.st.length sc) rfl
  have c4 := box_cell NP.out 4 (.slice wa P.wn.length wc) rfl
  by_cases hs : Pl.SafeC P
  · have CK := Lib.hid (check_is ⟨P, sa, sc, wa, wc⟩ w3 S3.out (Pl.check_safe HFi.out.v hs))
    clear hs
    go_wp2_with fail
    refine CK.out.mono ?_; rintro e w4 ⟨da, dc, ma, mc, rfl, -, g⟩
    have G4 := Lib.hid (below_step (below_step G3.out g) (below_new w4 (.cells #[.slice da 0 dc, .slice ma 0 mc, .int .i64 0, .int .i64 0, .int .i64 0] 32)))
    have NS := Lib.hid (heap_alloc_new w4 (.cells #[.slice da 0 dc, .slice ma 0 mc, .int .i64 0, .int .i64 0, .int .i64 0] 32))
    clear g CK c0 c1 c2 c3 c4
    simp only [Pl.scen0, List.length_nil]
    go_upto_region 4 with (fail)
    generalize w4.alloc (.cells #[.slice da 0 dc, .slice ma 0 mc, .int .i64 0, .int .i64 0, .int .i64 0] 32) = w5 at *
    have k0 := box_cell NS.out 0 (.slice da 0 dc) rfl
    have k1 := box_cell NS.out 1 (.slice ma 0 mc) rfl
    have k3 := box_cell NS.out 3 (.int .i64 0) rfl
    go_wp2_with fail
    go_ret
    exact ⟨rfl, G4.out⟩
  · obtain ⟨s, hR, hPo, hk⟩ := Pl.check_unsafe HFi.out.v hs
    have CK := Lib.hid (check_is ⟨P, sa, sc, wa, wc⟩ w3 S3.out hR)
    have HPo := Lib.hid hPo
    have HKi := Lib.hid hk
    clear hs hR hPo hk
    go_wp2_with fail
    refine CK.out.mono ?_; rintro e w4 ⟨da, dc, ma, mc, rfl, ok, g⟩
    have hb := below_new w4 (.cells #[.slice da s.dur.length dc, .slice ma s.mv.length mc, .int .i64 s.det, .int .i64 s.tool, .int .i64 s.at_] 32)
    have G5 := Lib.hid (below_step (below_step G3.out g) hb)
    have NS := Lib.hid (heap_alloc_new w4 (.cells #[.slice da s.dur.length dc, .slice ma s.mv.length mc, .int .i64 s.det, .int .i64 s.tool, .int .i64 s.at_] 32))
    have NP5 := Lib.hid (box_below (box_below NP.out g) hb)
    have S5 := Lib.hid ((S3.out.below g).below hb)
    have D5 := Lib.hid (ok.below hb)
    clear g CK c0 c1 c2 c3 c4 hb ok G3 NP S3 O3
    go_upto_region 6 with (fail)
    generalize w4.alloc (.cells #[.slice da s.dur.length dc, .slice ma s.mv.length mc, .int .i64 s.det, .int .i64 s.tool, .int .i64 s.at_] 32) = w5 at *
    generalize w4.heap.size = n9 at *
    have RN := run_ends ⟨P, sa, sc, wa, wc⟩ ⟨s, da, dc, ma, mc⟩ w5 S5.out D5.out
    rw [answer_of HPo.out] at RN
    have RN := Lib.hid RN
    have HPs := Lib.hid (Pl.possible_iff.2 HPo.out)
    generalize Pl.run P s = R at *
    have c0 := box_cell NP5.out 0 (.int .i64 P.entry) rfl
    have c1 := box_cell NP5.out 1 (.int .i64 P.mmin) rfl
    have c2 := box_cell NP5.out 2 (.int .i64 P.mmax) rfl
    have c3 := box_cell NP5.out 3 (.slice sa P.st.length sc) rfl
    have c4 := box_cell NP5.out 4 (.slice wa P.wn.length wc) rfl
    have k0 := box_cell NS.out 0 (.slice da s.dur.length dc) rfl
    have k1 := box_cell NS.out 1 (.slice ma s.mv.length mc) rfl
    have k2 := box_cell NS.out 2 (.int .i64 s.det) rfl
    have k3 := box_cell NS.out 3 (.int .i64 s.tool) rfl
    have k4 := box_cell NS.out 4 (.int .i64 s.at_) rfl
    go_wp2_with fail
    refine RN.out.mono ?_; rintro e w6 ⟨va, vc, rfl, -, g, -⟩
    clear c0 c1 c2 c3 c4 k0 k1 k2 k3 k4 RN
    have hb := below_new w6 (.cells #[.int .i64 R.kind, .int .i64 R.num] 38)
    have NL := Lib.hid (heap_alloc_new w6 (.cells #[.int .i64 R.kind, .int .i64 R.num] 38))
    have G7 := Lib.hid (below_step (below_step G5.out g) hb)
    have NS7 := Lib.hid (box_below (box_below NS.out g) hb)
    have NP7 := Lib.hid (box_below (box_below NP5.out g) hb)
    have S7 := Lib.hid ((S5.out.below g).below hb)
    have D7 := Lib.hid ((D5.out.below g).below hb)
    clear g hb NS NP5 S5 D5 G5
    go_upto_region 7 with (fail)
    generalize w6.alloc (.cells #[.int .i64 R.kind, .int .i64 R.num] 38) = w7 at *
    generalize w6.heap.size = n10 at *
    have PS := Possible_any ⟨P, sa, sc, wa, wc⟩ ⟨s, da, dc, ma, mc⟩ w7 S7.out D7.out
    rw [show Pl.possible P s = true from HPs.out] at PS
    have PS := Lib.hid PS
    have c0 := box_cell NP7.out 0 (.int .i64 P.entry) rfl
    have c1 := box_cell NP7.out 1 (.int .i64 P.mmin) rfl
    have c2 := box_cell NP7.out 2 (.int .i64 P.mmax) rfl
    have c3 := box_cell NP7.out 3 (.slice sa P.st.length sc) rfl
    have c4 := box_cell NP7.out 4 (.slice wa P.wn.length wc) rfl
    have k0 := box_cell NS7.out 0 (.slice da s.dur.length dc) rfl
    have k1 := box_cell NS7.out 1 (.slice ma s.mv.length mc) rfl
    have k2 := box_cell NS7.out 2 (.int .i64 s.det) rfl
    have k3 := box_cell NS7.out 3 (.int .i64 s.tool) rfl
    have k4 := box_cell NS7.out 4 (.int .i64 s.at_) rfl
    go_wp2_with fail
    refine PS.out.mono ?_; rintro e w8 ⟨rfl, g⟩
    have l0 := box_cell (box_below NL.out g) 0 (.int .i64 R.kind) rfl
    have n1 : (R.kind != 0) = true := by simpa using HKi.out
    have G8 := Lib.hid (below_step G7.out g)
    clear c0 c1 c2 c3 c4 k0 k1 k2 k3 k4 g PS
    go_wp2_with fail
    go_ret
    exact ⟨rfl, G8.out⟩
end Go.Proofs.YtihohjgjklcnlaaDoor

namespace Go.Proofs.YtihohjgjklcnlaaDoor.lawCertifyUnsafe
open Go.ChangeShapes Go.WideShapes Go.ChangeAt Go.RowKit
open Go.ChangeMaps (open_string shut_string)

set_option maxRecDepth 100000 in
theorem lifted (os : Os) (started : os.Started) (H : Type) (enc : TypeId × Value → H) :
    ReturnsInHanded {} Tryd.checked os 4 .any (fun w args => (Rows.certifyUnsafeSpec.pre enc Tryd.prog Tryd.f4 [] false w args ∧ laidMetH Tryd.prog laidList w) ∧ sizedMet enc Tryd.prog Tryd.f4 (OpenSpec.ofChange Rows.certifyUnsafeSpec) false w args)
      (Rows.certifyUnsafeSpec.post enc Tryd.prog Tryd.f4 false true false false) := by
  refine returnsInHanded_of_change_and (C := Tryd.checked) (X := fun w _ => laidMetH Tryd.prog laidList w) (fun _ _ _ hh h => h.of_heap hh) own started (by kernel_rfl) Tryd.func4
    (ChangeSpec.witness_shaped (enc := enc) (C := Tryd.checked) (os := os) (X := fun w _ => laidMetH Tryd.prog laidList w) false (World.doorLaid Tryd.prog 400 os) #[.slice none 0 0, .bool false] 8 rfl (World.shaped_of_RefB (by kernel_rfl) (by kernel_rfl)) (by kernel_rfl) (by kernel_rfl) (by kernel_rfl) (door_met os _)) ?_
  intro W base args ds gs before hval0 hW _ _ hL _
  have hval : ∀ (j : Nat) t v, Tryd.f4.params[j]? = some t → args[j]? = some v → Value.okWide Tryd.prog W .any base t v := hval0
  have hW' := hW
  obtain ⟨p, q, hA0, hV, rfl, hfz, hnd⟩ := hW
  have hA : DataW.TrodAll enc Tryd.prog W 0 (fun _ => true) true Tryd.f4.params.toList args.toList ds p := hA0
  rw [Tryd.params4] at hA hval
  obtain ⟨v0, vs0, d0, ds0, p0, q0, hargs, rfl, rfl, h0, r0⟩ := trodAll_cons hA
  obtain ⟨v1, vs1, d1, ds1, p1, q1, rfl, rfl, rfl, h1, r1⟩ := trodAll_cons r0
  obtain ⟨rfl, rfl, rfl⟩ := trodAll_nil r1
  obtain rfl : args = #[v0, v1] := by cases args; simp_all
  obtain ⟨rfl, rfl⟩ := trodVars_none hV
  have k0 := h0
  have lt0 : ∀ x ∈ p0, x.block < W.heap.size := by obtain ⟨m, hm⟩ := k0; exact DataW.trod_lt m _ _ _ hm
  have k1 := h1
  have lt1 : ∀ x ∈ p1, x.block < W.heap.size := by obtain ⟨m, hm⟩ := k1; exact DataW.trod_lt m _ _ _ hm
  obtain ⟨a0, c0, z0, rfl, w0⟩ := open_sixes (hval 0 22 v0 rfl rfl) h0
  obtain ⟨a1, rfl, hd1, hp1⟩ := open_bool Tryd.underlying4 (hval 1 4 v1 rfl rfl) h1
  clear hA0 hval0
  refine (unsafe_any a0 c0 z0 a1 W (tab_of_laid hL) w0).mono fun e W' ⟨he, bel⟩ => ?_
  subst he
  exact ⟨_, rfl, _, _, _, [], _, [], hW', trodAll_mk1 (shut_bool Tryd.underlying4 _), (trodAll_cons_mk (Below.trod laidOut (by kernel_rfl) (of_decide_eq_true (by kernel_rfl)) k0 bel lt0) (trodAll_cons_mk (Below.trod laidOut (by kernel_rfl) (of_decide_eq_true (by kernel_rfl)) k1 bel lt1) trodAll_mk0)), rfl, bel.frame _, fun h => by cases h⟩

theorem over : Rows.certifyUnsafeRow.holds Tryd.pinned (OpenSpec.ofChange Rows.certifyUnsafeSpec) :=
  OpenClaim.holds_of_wide 4 Tryd.f4 rfl rfl rfl rfl rfl rfl rfl ⟨rfl, rfl, rfl, rfl, rfl⟩ rfl rfl rfl rfl rfl (by kernel_rfl) Tryd.func4 (by kernel_rfl)
    (of_decide_eq_true (by kernel_rfl)) (by unfold Func.isWrapper; rw [if_neg (of_decide_eq_false (by kernel_rfl))]; exact ⟨rfl, rfl⟩)
    (fun os started H enc _ => lifted os started H enc)

theorem proved : Rows.CertifyUnsafeCardSaid :=
  Claim7.holds_tied_plain_at .later [] [.data] true (true, "5525114c7adf425dbb03f7f3d5bfd400766d8dc32cebf7ba860010d8e3e61684") true
    over (fun _ h => by cases h) (by kernel_rfl) (fun _ h => by cases h) certifyUnsafe_row_tie rfl ⟨rfl, rfl⟩ (by kernel_rfl) rfl
    (fun f fn hf hfn => by
      obtain rfl : f = 4 := Option.some.inj ((show Tryd.prog.funcNamed "cleanroom/cleanroomlaw09.CertifyUnsafe" = some 4 by kernel_rfl).symm.trans hf) |>.symm
      obtain rfl : fn = Tryd.f4 := (Option.some.inj (Tryd.func4.symm.trans hfn)).symm
      exact ⟨by kernel_rfl, fun j t ht => by
        rw [Tryd.params4] at ht
        have hm : t ∈ [22, 4] := by simpa using Array.mem_of_getElem? ht
        have hall : ([22, 4].all fun u => !Tryd.prog.wantsStandIn u) = true := by kernel_rfl
        exact (show Tryd.prog.wantsStandIn t = false by simpa using List.all_eq_true.1 hall t hm)⟩)
    (by kernel_rfl)
#print axioms proved
end Go.Proofs.YtihohjgjklcnlaaDoor.lawCertifyUnsafe
