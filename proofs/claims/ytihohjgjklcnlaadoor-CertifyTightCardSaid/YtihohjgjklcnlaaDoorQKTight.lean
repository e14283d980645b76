/-
  CertifyUnsafe walked.
  The law file's few (a plan with lists of its own) and pick.
  Tight plans on paper: safe without windows, and not so with a slot a minute earlier.
  CertifyTight walked.
  CertifyTight: for every input that can be read the call returns true and leaves the input as it was; the row, and its card, whose table is tied to the program's text. No condition beside what the row says.
-/
import Derived.Test.YtihohjgjklcnlaaDoorQCf
import Derived.Test.YtihohjgjklcnlaaDoorQCg
import Derived.Test.YtihohjgjklcnlaaDoorQBz
import Derived.Deep.LoopGhost
import Derived.Deep.DeepCutAuto
import Derived.Test.YtihohjgjklcnlaaDoorQBx
import Derived.Test.YtihohjgjklcnlaaDoorQBw
import Derived.Test.YtihohjgjklcnlaaDoorQBa
import Derived.Lib.MinMax
import Derived.Test.YtihohjgjklcnlaaDoorQCh9
namespace Go.Proofs.YtihohjgjklcnlaaDoor
open Go.RowKit Go.Shelf
attribute [local go_sem] Oper.semAt_some
theorem check_is (q : PlanP) (w : World) (h : q.ok w) {s : Pl.Scen} {b : Bool} (hR : Pl.checkR q.p = (s, b)) : Calls Tryd.prog 12 #[q.val] w (ChkEx s b w) := by
  refine (Check_any q w h).mono fun e w' ⟨r, h1, h2, h3, h4⟩ => ?_
  obtain ⟨s', da, dc, ma, mc⟩ := r
  rw [hR] at h1 h2
  simp only at h1
  subst h1
  exact ⟨da, dc, ma, mc, h2, h3.ok, h4⟩
set_option maxRecDepth 100000 in
set_option maxHeartbeats 4000000 in
theorem unsafe_any (xa : Option Addr) (xc : Nat) (X : List (List Int)) (t : Bool) (W : World) (ht : Wb.Tab W) (hX : ArrsA 6 W xa xc X) :
    Calls Tryd.prog 4 #[.slice xa X.length xc, .bool t] W fun e w' => e = .returned (.bool true) ∧ Below W.heap.size W w' := by
  have HX := Lib.hid hX; have HT := Lib.hid ht; clear hX ht
  have HFi := Lib.hid (Pl.made9_fine X t)
  go_enter Tryd.func4, Tryd.ntmps4
  go_wp2_with fail
  refine (sane_any W HT.out).mono ?_; rintro e w1 ⟨rfl, g1⟩
  have G1 := Lib.hid g1; clear g1
  go_wp2_with fail
  refine (made_any X t xa xc w1 (HX.out.below G1.out)).mono ?_; rintro e w2 ⟨sa, sc, wa, wc, rfl, s1, s2, g2⟩
  have G2 := Lib.hid (below_step G1.out g2)
  have O2 := Lib.hid (show StO w2 W.heap.size (.slice sa (Pl.made9 X t).st.length sc) (Pl.made9 X t).st ∧ WnO w2 W.heap.size (.slice wa (Pl.made9 X t).wn.length wc) (Pl.made9 X t).wn from ⟨s1.mono G1.out.size, s2.mono G1.out.size⟩)
  clear g2 s1 s2 G1
  obtain ⟨P, hP⟩ : ∃ P, Pl.made9 X t = P := ⟨_, rfl⟩
  rw [hP] at O2 HFi
  rw [hP]
  have HP := Lib.hid hP
  clear hP
  go_upto_region 3 with (fail)
  have hb := below_new w2 (.cells #[.int .i64 P.entry, .int .i64 P.mmin, .int .i64 P.mmax, .slice sa P.st.length sc, .slice wa P.wn.length wc] 28)
  have NP := Lib.hid (heap_alloc_new w2 (.cells #[.int .i64 P.entry, .int .i64 P.mmin, .int .i64 P.mmax, .slice sa P.st.length sc, .slice wa P.wn.length wc] 28))
  have G3 := Lib.hid (below_step G2.out hb)
  have O3 := Lib.hid (show StO (w2.alloc (.cells #[.int .i64 P.entry, .int .i64 P.mmin, .int .i64 P.mmax, .slice sa P.st.length sc, .slice wa P.wn.length wc] 28)) W.heap.size (.slice sa P.st.length sc) P.st ∧ WnO (w2.alloc (.cells #[.int .i64 P.entry, .int .i64 P.mmin, .int .i64 P.mmax, .slice sa P.st.length sc, .slice wa P.wn.length wc] 28)) W.heap.size (.slice wa P.wn.length wc) P.wn from ⟨RowO.below O2.out.1 hb, RowO.below O2.out.2 hb⟩)
  have S3 := Lib.hid (made_ok O3.out.1 O3.out.2 : PlanP.ok ⟨P, sa, sc, wa, wc⟩ _)
  clear hb O2 G2
  generalize w2.alloc (.cells #[.int .i64 P.entry, .int .i64 P.mmin, .int .i64 P.mmax, .slice sa P.st.length sc, .slice wa P.wn.length wc] 28) = w3 at *
  generalize w2.heap.size = n8 at *
  have c0 := box_cell NP.out 0 (.int .i64 P.entry) rfl
  have c1 := box_cell NP.out 1 (.int .i64 P.mmin) rfl
  have c2 := box_cell NP.out 2 (.int .i64 P.mmax) rfl
  have c3 := box_cell NP.out 3 (.slice sa P.st.length sc) rfl
  have c4 := box_cell NP.out 4 (.slice wa P.wn.length wc) rfl
  by_cases hs : Pl.SafeC P
  · have CK := Lib.hid (check_is ⟨P, sa, sc, wa, wc⟩ w3 S3.out (Pl.check_safe HFi.out.v hs))
    clear hs
    go_wp2_with fail
    refine CK.out.mono ?_; rintro e w4 ⟨da, dc, ma, mc, rfl, -, g⟩
    have G4 := Lib.hid (below_step (below_step G3.out g) (below_new w4 (.cells #[.slice da 0 dc, .slice ma 0 mc, .int .i64 0, .int .i64 0, .int .i64 0] 32)))
    have NS := Lib.hid (heap_alloc_new w4 (.cells #[.slice da 0 dc, .slice ma 0 mc, .int .i64 0, .int .i64 0, .int .i64 0] 32))
    clear g CK c0 c1 c2 c3 c4
    simp only [Pl.scen0, List.length_nil]
    go_upto_region 4 with (fail)
    generalize w4.alloc (.cells #[.slice da 0 dc, .slice ma 0 mc, .int .i64 0, .int .i64 0, .int .i64 0] 32) = w5 at *
    have k0 := box_cell NS.out 0 (.slice da 0 dc) rfl
    have k1 := box_cell NS.out 1 (.slice ma 0 mc) rfl
    have k3 := box_cell NS.out 3 (.int .i64 0) rfl
    go_wp2_with fail
    go_ret
    exact ⟨rfl, G4.out⟩
  · obtain ⟨s, hR, hPo, hk⟩ := Pl.check_unsafe HFi.out.v hs
    have CK := Lib.hid (check_is ⟨P, sa, sc, wa, wc⟩ w3 S3.out hR)
    have HPo := Lib.hid hPo
    have HKi := Lib.hid hk
    clear hs hR hPo hk
    go_wp2_with fail
    refine CK.out.mono ?_; rintro e w4 ⟨da, dc, ma, mc, rfl, ok, g⟩
    have hb := below_new w4 (.cells #[.slice da s.dur.length dc, .slice ma s.mv.length mc, .int .i64 s.det, .int .i64 s.tool, .int .i64 s.at_] 32)
    have G5 := Lib.hid (below_step (below_step G3.out g) hb)
    have NS := Lib.hid (heap_alloc_new w4 (.cells #[.slice da s.dur.length dc, .slice ma s.mv.length mc, .int .i64 s.det, .int .i64 s.tool, .int .i64 s.at_] 32))
    have NP5 := Lib.hid (box_below (box_below NP.out g) hb)
    have S5 := Lib.hid ((S3.out.below g).below hb)
    have D5 := Lib.hid (ok.below hb)
    clear g CK c0 c1 c2 c3 c4 hb ok G3 NP S3 O3
    go_upto_region 6 with (fail)
    generalize w4.alloc (.cells #[.slice da s.dur.length dc, .slice ma s.mv.length mc, .int .i64 s.det, .int .i64 s.tool, .int .i64 s.at_] 32) = w5 at *
    generalize w4.heap.size = n9 at *
    have RN := run_ends ⟨P, sa, sc, wa, wc⟩ ⟨s, da, dc, ma, mc⟩ w5 S5.out D5.out
    rw [answer_of HPo.out] at RN
    have RN := Lib.hid RN
    have HPs := Lib.hid (Pl.possible_iff.2 HPo.out)
    generalize Pl.run P s = R at *
    have c0 := box_cell NP5.out 0 (.int .i64 P.entry) rfl
    have c1 := box_cell NP5.out 1 (.int .i64 P.mmin) rfl
    have c2 := box_cell NP5.out 2 (.int .i64 P.mmax) rfl
    have c3 := box_cell NP5.out 3 (.slice sa P.st.length sc) rfl
    have c4 := box_cell NP5.out 4 (.slice wa P.wn.length wc) rfl
    have k0 := box_cell NS.out 0 (.slice da s.dur.length dc) rfl
    have k1 := box_cell NS.out 1 (.slice ma s.mv.length mc) rfl
    have k2 := box_cell NS.out 2 (.int .i64 s.det) rfl
    have k3 := box_cell NS.out 3 (.int .i64 s.tool) rfl
    have k4 := box_cell NS.out 4 (.int .i64 s.at_) rfl
    go_wp2_with fail
    refine RN.out.mono ?_; rintro e w6 ⟨va, vc, rfl, -, g, -⟩
    clear c0 c1 c2 c3 c4 k0 k1 k2 k3 k4 RN
    have hb := below_new w6 (.cells #[.int .i64 R.kind, .int .i64 R.num] 38)
    have NL := Lib.hid (heap_alloc_new w6 (.cells #[.int .i64 R.kind, .int .i64 R.num] 38))
    have G7 := Lib.hid (below_step (below_step G5.out g) hb)
    have NS7 := Lib.hid (box_below (box_below NS.out g) hb)
    have NP7 := Lib.hid (box_below (box_below NP5.out g) hb)
    have S7 := Lib.hid ((S5.out.below g).below hb)
    have D7 := Lib.hid ((D5.out.below g).below hb)
    clear g hb NS NP5 S5 D5 G5
    go_upto_region 7 with (fail)
    generalize w6.alloc (.cells #[.int .i64 R.kind, .int .i64 R.num] 38) = w7 at *
    generalize w6.heap.size = n10 at *
    have PS := Possible_any ⟨P, sa, sc, wa, wc⟩ ⟨s, da, dc, ma, mc⟩ w7 S7.out D7.out
    rw [show Pl.possible P s = true from HPs.out] at PS
    have PS := Lib.hid PS
    have c0 := box_cell NP7.out 0 (.int .i64 P.entry) rfl
    have c1 := box_cell NP7.out 1 (.int .i64 P.mmin) rfl
    have c2 := box_cell NP7.out 2 (.int .i64 P.mmax) rfl
    have c3 := box_cell NP7.out 3 (.slice sa P.st.length sc) rfl
    have c4 := box_cell NP7.out 4 (.slice wa P.wn.length wc) rfl
    have k0 := box_cell NS7.out 0 (.slice da s.dur.length dc) rfl
    have k1 := box_cell NS7.out 1 (.slice ma s.mv.length mc) rfl
    have k2 := box_cell NS7.out 2 (.int .i64 s.det) rfl
    have k3 := box_cell NS7.out 3 (.int .i64 s.tool) rfl
    have k4 := box_cell NS7.out 4 (.int .i64 s.at_) rfl
    go_wp2_with fail
    refine PS.out.mono ?_; rintro e w8 ⟨rfl, g⟩
    have l0 := box_cell (box_below NL.out g) 0 (.int .i64 R.kind) rfl
    have n1 : (R.kind != 0) = true := by simpa using HKi.out
    have G8 := Lib.hid (below_step G7.out g)
    clear c0 c1 c2 c3 c4 k0 k1 k2 k3 k4 g PS
    go_wp2_with fail
    go_ret
    exact ⟨rfl, G8.out⟩
end Go.Proofs.YtihohjgjklcnlaaDoor

namespace Go.Proofs.YtihohjgjklcnlaaDoor
open Go.RowKit Go.Shelf
attribute [local go_sem] Oper.semAt_some
set_option maxRecDepth 100000 in
theorem lpick_any (c n : Int) (w : World) (hc : Fits c) (hn : 0 < n ∧ n ≤ 1000000000) : Calls Tryd.prog 16 #[.int .i64 c, .int .i64 n] w fun e w' => e = .returned (.int .i64 (pickZ c n)) ∧ w = w' := by
  obtain ⟨c1, c2⟩ := hc
  obtain ⟨n1, n2⟩ := hn
  have hne : ¬ n = 0 := by omega
  by_cases h : c < 0
  · have h0 : 0 ≤ -(c + 1) := by omega
    have E := Lib.hid (show pickZ c n = -((c + 1).tmod n) by unfold pickZ; rw [if_pos h, ← Int.neg_tmod, Int.tmod_eq_emod_of_nonneg h0])
    go_enter Tryd.func16, Tryd.ntmps16
    go_wp2
    go_ret
    exact ⟨ret_int E.out.symm, rfl⟩
  · have h0 : 0 ≤ c := by omega
    have E := Lib.hid (show pickZ c n = c % n by unfold pickZ; rw [if_neg h])
    go_enter Tryd.func16, Tryd.ntmps16
    go_wp2
    go_ret
    exact ⟨ret_int E.out.symm, rfl⟩
/-- The cells of a row of records, one after the other. -/
theorem RowA.news {α : Type} {f : α → List Value} {k : Nat} (hf : ∀ x, (f x).length = k) (hk : 0 < k) {w : World} {b off c : Nat} {L : List α} (h : RowA f k w (some ⟨b, off, none⟩) c L) : ∀ j u, (L.flatMap f)[j]? = some u → w.cell? ((⟨b, off, none⟩ : Addr).add j) = some u := by
  intro j u hu
  have hl : (L.flatMap f).length = L.length * k := by
    clear h hu
    induction L with
    | nil => simp
    | cons x L ih => rw [List.flatMap_cons, List.length_append, hf, ih, List.length_cons, Nat.succ_mul]; omega
  have hj : j < L.length * k := by rw [← hl]; exact (List.getElem?_eq_some_iff.1 hu).1
  have hi : j / k < L.length := Nat.div_lt_of_lt_mul (by rw [Nat.mul_comm]; exact hj)
  have hm : j % k < k := Nat.mod_lt _ hk
  have he : j / k * k + j % k = j := by rw [Nat.mul_comm]; exact Nat.div_add_mod j k
  have := flat_at f k hf L (j / k) (j % k) hi hm
  rw [he, hu] at this
  obtain ⟨b', o', e, -, hc⟩ := h.2.2 (j / k) hi
  injection e with e; injection e with e1 e2; subst e1; subst e2
  have h3 := hc (j % k) u this.symm
  rw [show off + j / k * k + j % k = off + j by omega] at h3
  rw [show (⟨b, off, none⟩ : Addr).add j = ⟨b, off + j, none⟩ from by simp [Addr.add]]
  exact h3
theorem one_of {α : Type} {f : α → List Value} (h : ∀ x, ∀ u ∈ f x, u.oneCell' = true) (L : List α) : ∀ u ∈ L.flatMap f, u.oneCell' = true := fun u hu => by
  obtain ⟨x, -, hx⟩ := List.mem_flatMap.1 hu
  exact h x u hx
theorem one_stage (x : Pl.Stage) : ∀ u ∈ stageCells x, u.oneCell' = true := by intro u hu; simp [stageCells] at hu; rcases hu with rfl | rfl | rfl | rfl | rfl | rfl <;> rfl
theorem one_win (x : Pl.Win) : ∀ u ∈ winCells x, u.oneCell' = true := by intro u hu; simp [winCells] at hu; rcases hu with rfl | rfl | rfl <;> rfl
theorem flat_len {α : Type} {f : α → List Value} {k : Nat} (hf : ∀ x, (f x).length = k) (L : List α) : (L.flatMap f).length = L.length * k := by
  induction L with
  | nil => simp
  | cons x L ih => rw [List.flatMap_cons, List.length_append, hf, ih, List.length_cons, Nat.succ_mul]; omega
theorem wapp_none (w : World) (g c : Nat) (a : Option Addr) (ty : TypeId) : (Builtin.append_ #[26, 26] ty #[.slice (some ⟨g, 0, none⟩) 0 0, .slice a 0 c]).run Tryd.prog w = .ok (.slice (some ⟨g, 0, none⟩) 0 0) w := by
  obtain ⟨i0, hi0, hz0, hz1, hz2⟩ := info_parts rl_info_W
  cases a with
  | none => simp [Builtin.append_, run_underlying Tryd.underlying26, sizeOf, typeInfo, hi0, Builtin.lenOf, run_firstCells_none, storeCells]
  | some a =>
    have hf := run_firstCells_some (P := Tryd.prog) (w := w) i0.size 0 a 0 c [] (by simp) (fun j v h => by simp at h)
    simp [Builtin.append_, run_underlying Tryd.underlying26, sizeOf, typeInfo, hi0, Builtin.lenOf, hf, storeCells]
set_option maxRecDepth 100000 in
set_option maxHeartbeats 600000 in
theorem few_any (p : Pl.Plan) (sa wa : Option Addr) (sc wc : Nat) (w : World) (h : PlanP.ok ⟨p, sa, sc, wa, wc⟩ w) (h1 : 1 ≤ p.st.length ∧ p.st.length ≤ 9) (h2 : p.wn.length ≤ 21) :
    Calls Tryd.prog 17 #[PlanP.val ⟨p, sa, sc, wa, wc⟩] w fun e w' => ∃ (g sd : Nat) (wb : Option Addr) (wd : Nat), e = .returned (PlanP.val ⟨p, some ⟨g, 0, none⟩, sd, wb, wd⟩) ∧ StO w' w.heap.size (.slice (some ⟨g, 0, none⟩) p.st.length sd) p.st ∧ WnO w' w.heap.size (.slice wb p.wn.length wd) p.wn ∧ Below w.heap.size w w' := by
  have hb1 := below_new w (planObj ⟨p, sa, sc, wa, wc⟩)
  have hb2 := below_new (w.alloc (planObj ⟨p, sa, sc, wa, wc⟩)) ow0
  have HQ := Lib.hid ((h.below hb1).below hb2)
  have H0 := Lib.hid h
  have BL := Lib.hid (below_step hb1 hb2)
  have A1 := Lib.hid (box_below (heap_alloc_new w (planObj ⟨p, sa, sc, wa, wc⟩)) hb2)
  have B1 := heap_alloc_new (w.alloc (planObj ⟨p, sa, sc, wa, wc⟩)) ow0
  rw [show (w.alloc (planObj ⟨p, sa, sc, wa, wc⟩)).heap.size = w.heap.size + 1 by simp] at B1
  have HR := Lib.hid B1
  clear B1 hb1 hb2 h
  obtain ⟨en, mi, ma, st, wn⟩ := p
  obtain ⟨h1, h1'⟩ := h1
  simp only at h1 h1' h2
  dsimp only [planObj, ow0] at HQ BL A1 HR
  obtain ⟨b1, o1, rfl, -, -⟩ := HQ.out.st.at (show 0 < st.length by omega)
  have hcs : st.length ≤ sc := HQ.out.st.1
  go_enter Tryd.func17, Tryd.ntmps17
  go_upto_region 1 with (fail)
  generalize (w.alloc (.cells #[.int .i64 en, .int .i64 mi, .int .i64 ma, .slice (some ⟨b1, o1, none⟩) st.length sc, .slice wa wn.length wc] 28)).alloc (.cells #[.int .i64 0, .int .i64 0, .int .i64 0, .slice none 0 0, .slice none 0 0] 28) = w1 at *
  have d3 := box_cell A1.out 3 (.slice (some ⟨b1, o1, none⟩) st.length sc) rfl
  have e1 : min (st.length : Int) 9 = (st.length : Int) := by omega
  have i0' : (0 : Int) ≤ (st.length : Int) := by omega
  have i1 : (st.length : Int) ≤ (sc : Int) := by omega
  have i2 : ((st.length : Int)).toNat = st.length := by omega
  obtain ⟨i0, hi0, hz0, hz1, hz2⟩ := info_parts rl_info_S
  have BA := Lib.hid (below_new w1 (.cells #[] 45))
  have HOwn := Lib.hid (show (w1.alloc (.cells #[] 45)).ownsRow w1.heap.size 45 6 (.slice (some ⟨w1.heap.size, 0, none⟩) 0 0) 0 [] from World.ownsRow_made w1 #[] 0 (Nat.le_refl _) (by decide) rfl)
  have d3' := box_cell (box_below A1.out BA.out) 3 (.slice (some ⟨b1, o1, none⟩) st.length sc) rfl
  have z3' := box_fz (box_below A1.out BA.out) 3
  have HNw := Lib.hid (RowA.news stage_len (by decide) (HQ.out.st.below BA.out))
  go_wp2_with (at_builtin; refine wpList_append_own _ rfl _ _ 25 rfl w1.heap.size 45 i0 _ 6 48 Tryd.underlying25 hi0 hz0 hz1 hz2 rfl (by decide) _ _ _ rfl HOwn.out ⟨b1, o1, none⟩ st.length sc (st.flatMap stageCells) rfl (flat_len stage_len st) HNw.out ?c2 ?c3 ?c4 ?c5 ?_)
  case c2 => intro u x _ hu; exact one_stage x u hu
  case c3 => unfold maxLen; omega
  case c4 => omega
  intro v' w2 hown' hgrow _
  obtain ⟨a', c', rfl, -, -, hform⟩ := own_slice hown'
  obtain ⟨g, rfl, -, -⟩ := hform h1
  have BF := Lib.hid (show Below w1.heap.size w1 w2 from BA.out.grown hgrow BA.out.size (fun b hb => (HOwn.out.lt b hb).1))
  have hp2 := box_below A1.out BF.out
  have SZ := Lib.hid (show w.heap.size + 1 < w1.heap.size from lt_of_block HR.out)
  have O3 := one_ch w2 w.heap.size 3 (.slice (some ⟨g, 0, none⟩) st.length c')
  have P3 := Lib.hid (show (w2.setCell ⟨w.heap.size, 3, none⟩ (.slice (some ⟨g, 0, none⟩) st.length c')).heap[w.heap.size]? = some (.cells #[.int .i64 en, .int .i64 mi, .int .i64 ma, .slice (some ⟨g, 0, none⟩) st.length c', .slice wa wn.length wc] 28) from block_set hp2 (o := 3) _)
  have R3 := Lib.hid ((O3.block _ (lt_of_block (box_below HR.out BF.out)) (by omega)).trans (box_below HR.out BF.out))
  have S3 := Lib.hid (show StO (w2.setCell ⟨w.heap.size, 3, none⟩ (.slice (some ⟨g, 0, none⟩) st.length c')) w1.heap.size (.slice (some ⟨g, 0, none⟩) st.length c') st from own_ch hown' O3 (fun i hi e => by have h1 := (hown'.lt i hi).1; have h2 := SZ.out; omega))
  have B3 := Lib.hid (show Below w.heap.size w (w2.setCell ⟨w.heap.size, 3, none⟩ (.slice (some ⟨g, 0, none⟩) st.length c')) from (BL.out.trans (BF.out.mono BL.out.size)).setCell (p := ⟨w.heap.size, 3, none⟩) (Nat.le_refl _) _)
  have k3 := box_cell hp2 3 (.slice (some ⟨b1, o1, none⟩) st.length sc) rfl
  have z3 := box_fz hp2 3
  have l3 := lt_of_block hp2
  have HW3 := Lib.hid (show Ch (fun k => k = w.heap.size) w1 (w2.setCell ⟨w.heap.size, 3, none⟩ (.slice (some ⟨g, 0, none⟩) st.length c')) from (Ch.ofBelow BF.out).trans O3 (fun _ _ e => e))
  have H0w := Lib.hid (H0.out.wn.below B3.out)
  clear hown' hgrow HOwn HNw d3 d3' z3' hp2 O3 BA e1 i0' i1 i2 hform
  go_upto_region 2 with (fail)
  clear k3 z3 l3
  generalize w2.setCell ⟨w.heap.size, 3, none⟩ (.slice (some ⟨g, 0, none⟩) st.length c') = w3 at *
  obtain ⟨j0, hj0, hy0, hy1, hy2⟩ := info_parts rl_info_W
  have BA := Lib.hid (below_new w3 (.cells #[] 49))
  have HOwn := Lib.hid (show (w3.alloc (.cells #[] 49)).ownsRow w3.heap.size 49 3 (.slice (some ⟨w3.heap.size, 0, none⟩) 0 0) 0 [] from World.ownsRow_made w3 #[] 0 (Nat.le_refl _) (by decide) rfl)
  have d4 := box_cell P3.out 4 (.slice wa wn.length wc) rfl
  have d4' := box_cell (box_below P3.out BA.out) 4 (.slice wa wn.length wc) rfl
  have hcw : wn.length ≤ wc := H0w.out.1
  have e1 : min (wn.length : Int) 21 = (wn.length : Int) := by omega
  have i0' : (0 : Int) ≤ (wn.length : Int) := by omega
  have i1 : (wn.length : Int) ≤ (wc : Int) := by omega
  have i2 : ((wn.length : Int)).toNat = wn.length := by omega
  by_cases hw0 : wn.length = 0
  · have hwnil : wn = [] := List.length_eq_zero_iff.1 hw0
    subst hwnil
    clear hw0
    have hap := wapp_none
    have e0 : min (0 : Int) 21 = 0 := by decide
    have BW := BA.out
    have hp4 := box_below P3.out BW
    have hrow : WnO (w3.alloc (.cells #[] 49)) w3.heap.size (.slice (some ⟨w3.heap.size, 0, none⟩) 0 0) [] := HOwn.out
    cases wa with
    | none =>
      have P5 := Lib.hid (show ((w3.alloc (.cells #[] 49)).setCell ⟨w.heap.size, 4, none⟩ (.slice (some ⟨w3.heap.size, 0, none⟩) 0 0)).heap[w.heap.size]? = some (.cells #[.int .i64 en, .int .i64 mi, .int .i64 ma, .slice (some ⟨g, 0, none⟩) st.length c', .slice (some ⟨w3.heap.size, 0, none⟩) 0 0] 28) from block_set hp4 (o := 4) _)
      have O5 := one_ch (w3.alloc (.cells #[] 49)) w.heap.size 4 (.slice (some ⟨w3.heap.size, 0, none⟩) 0 0)
      have R5 := Lib.hid ((O5.block _ (lt_of_block (box_below R3.out BW)) (by omega)).trans (box_below R3.out BW))
      have S5 := Lib.hid (show StO ((w3.alloc (.cells #[] 49)).setCell ⟨w.heap.size, 4, none⟩ (.slice (some ⟨w3.heap.size, 0, none⟩) 0 0)) w1.heap.size (.slice (some ⟨g, 0, none⟩) st.length c') st from own_ch (RowO.below S3.out BW) O5 (fun i hi e => by have h1 := (S3.out.lt i hi).1; have h2 := SZ.out; omega))
      have W5 := Lib.hid (show WnO ((w3.alloc (.cells #[] 49)).setCell ⟨w.heap.size, 4, none⟩ (.slice (some ⟨w3.heap.size, 0, none⟩) 0 0)) w3.heap.size (.slice (some ⟨w3.heap.size, 0, none⟩) 0 0) [] from own_ch hrow O5 (fun i hi e => by have h1 := (hrow.lt i hi).1; have h2 := lt_of_block P3.out; omega))
      have B5 := Lib.hid (show Below w.heap.size w ((w3.alloc (.cells #[] 49)).setCell ⟨w.heap.size, 4, none⟩ (.slice (some ⟨w3.heap.size, 0, none⟩) 0 0)) from (B3.out.trans (BW.mono B3.out.size)).setCell (p := ⟨w.heap.size, 4, none⟩) (Nat.le_refl _) _)
      have k4 := box_cell hp4 4 (.slice none 0 wc) rfl
      have z4 := box_fz hp4 4
      have l4 := lt_of_block hp4
      clear hp4 O5 hrow BW d4 d4' e1 i0' i1 i2
      go_upto_region 3 with (fail)
      clear k4 z4 l4
      generalize (w3.alloc (.cells #[] 49)).setCell ⟨w.heap.size, 4, none⟩ (.slice (some ⟨w3.heap.size, 0, none⟩) 0 0) = w5 at *
      have hle3 : w1.heap.size ≤ w3.heap.size := HW3.out.size
      clear BA HOwn HW3 hap H0w P3 R3 S3 B3
      generalize w3.heap.size = gw at *
      have c0 := box_cell P5.out 0 (.int .i64 en) rfl
      have c1 := box_cell P5.out 1 (.int .i64 mi) rfl
      have c2 := box_cell P5.out 2 (.int .i64 ma) rfl
      have c3 := box_cell P5.out 3 (.slice (some ⟨g, 0, none⟩) st.length c') rfl
      have c4 := box_cell P5.out 4 (.slice (some ⟨gw, 0, none⟩) 0 0) rfl
      have r0 := box_cell R5.out 0 (.int .i64 0) rfl
      have r1 := box_cell R5.out 1 (.int .i64 0) rfl
      have r2 := box_cell R5.out 2 (.int .i64 0) rfl
      have r3 := box_cell R5.out 3 (.slice none 0 0) rfl
      have r4 := box_cell R5.out 4 (.slice none 0 0) rfl
      have z := fun i => box_fz R5.out i
      have z0 := z 0; have z1 := z 1; have z2 := z 2; have z3 := z 3; have z4 := z 4
      have hlr := lt_of_block R5.out
      obtain ⟨P6, O6⟩ := put5 R5.out (.int .i64 en) (.int .i64 mi) (.int .i64 ma) (.slice (some ⟨g, 0, none⟩) st.length c') (.slice (some ⟨gw, 0, none⟩) 0 0)
      have P6 := Lib.hid P6
      have FS := Lib.hid (show StO _ w.heap.size (.slice (some ⟨g, 0, none⟩) st.length c') st from RowO.mono (own_ch S5.out O6 (fun i hi e => by have h1 := (S5.out.lt i hi).1; have h2 := SZ.out; omega)) (by have := SZ.out; omega))
      have FW := Lib.hid (show WnO _ w.heap.size (.slice (some ⟨gw, 0, none⟩) 0 0) [] from RowO.mono (own_ch W5.out O6 (fun i hi e => by have h1 := (W5.out.lt i hi).1; have h2 := SZ.out; omega)) (by have := SZ.out; omega))
      have FB := Lib.hid (B5.out.trans (O6.below (B := w.heap.size) B5.out.size (fun i e => by omega)))
      clear z O6
      go_wp2_with fail
      clear c0 c1 c2 c3 c4 r0 r1 r2 r3 r4 z0 z1 z2 z3 z4 hlr
      generalize ((((w5.setCell ⟨w.heap.size + 1, 0, none⟩ (.int .i64 en)).setCell ⟨w.heap.size + 1, 1, none⟩ (.int .i64 mi)).setCell ⟨w.heap.size + 1, 2, none⟩ (.int .i64 ma)).setCell ⟨w.heap.size + 1, 3, none⟩ (.slice (some ⟨g, 0, none⟩) st.length c')).setCell ⟨w.heap.size + 1, 4, none⟩ (.slice (some ⟨gw, 0, none⟩) 0 0) = we at *
      have r0 := box_cell P6.out 0 (.int .i64 en) rfl
      have r1 := box_cell P6.out 1 (.int .i64 mi) rfl
      have r2 := box_cell P6.out 2 (.int .i64 ma) rfl
      have r3 := box_cell P6.out 3 (.slice (some ⟨g, 0, none⟩) st.length c') rfl
      have r4 := box_cell P6.out 4 (.slice (some ⟨gw, 0, none⟩) 0 0) rfl
      refine bodyPost_ret (v := .agg #[.int .i64 en, .int .i64 mi, .int .i64 ma, .slice (some ⟨g, 0, none⟩) st.length c', .slice (some ⟨gw, 0, none⟩) 0 0]) (by simp [results, Tryd.results17, go_sem, r0, r1, r2, r3, r4]) rfl ?_
      exact ⟨g, c', _, _, rfl, FS.out, FW.out, FB.out⟩
    | some a9 =>
      have P5 := Lib.hid (show ((w3.alloc (.cells #[] 49)).setCell ⟨w.heap.size, 4, none⟩ (.slice (some ⟨w3.heap.size, 0, none⟩) 0 0)).heap[w.heap.size]? = some (.cells #[.int .i64 en, .int .i64 mi, .int .i64 ma, .slice (some ⟨g, 0, none⟩) st.length c', .slice (some ⟨w3.heap.size, 0, none⟩) 0 0] 28) from block_set hp4 (o := 4) _)
      have O5 := one_ch (w3.alloc (.cells #[] 49)) w.heap.size 4 (.slice (some ⟨w3.heap.size, 0, none⟩) 0 0)
      have R5 := Lib.hid ((O5.block _ (lt_of_block (box_below R3.out BW)) (by omega)).trans (box_below R3.out BW))
      have S5 := Lib.hid (show StO ((w3.alloc (.cells #[] 49)).setCell ⟨w.heap.size, 4, none⟩ (.slice (some ⟨w3.heap.size, 0, none⟩) 0 0)) w1.heap.size (.slice (some ⟨g, 0, none⟩) st.length c') st from own_ch (RowO.below S3.out BW) O5 (fun i hi e => by have h1 := (S3.out.lt i hi).1; have h2 := SZ.out; omega))
      have W5 := Lib.hid (show WnO ((w3.alloc (.cells #[] 49)).setCell ⟨w.heap.size, 4, none⟩ (.slice (some ⟨w3.heap.size, 0, none⟩) 0 0)) w3.heap.size (.slice (some ⟨w3.heap.size, 0, none⟩) 0 0) [] from own_ch hrow O5 (fun i hi e => by have h1 := (hrow.lt i hi).1; have h2 := lt_of_block P3.out; omega))
      have B5 := Lib.hid (show Below w.heap.size w ((w3.alloc (.cells #[] 49)).setCell ⟨w.heap.size, 4, none⟩ (.slice (some ⟨w3.heap.size, 0, none⟩) 0 0)) from (B3.out.trans (BW.mono B3.out.size)).setCell (p := ⟨w.heap.size, 4, none⟩) (Nat.le_refl _) _)
      have k4 := box_cell hp4 4 (.slice (some a9) 0 wc) rfl
      have z4 := box_fz hp4 4
      have l4 := lt_of_block hp4
      clear hp4 O5 hrow BW d4 d4' e1 i0' i1 i2
      go_upto_region 3 with (fail)
      clear k4 z4 l4
      generalize (w3.alloc (.cells #[] 49)).setCell ⟨w.heap.size, 4, none⟩ (.slice (some ⟨w3.heap.size, 0, none⟩) 0 0) = w5 at *
      have hle3 : w1.heap.size ≤ w3.heap.size := HW3.out.size
      clear BA HOwn HW3 hap H0w P3 R3 S3 B3
      generalize w3.heap.size = gw at *
      have c0 := box_cell P5.out 0 (.int .i64 en) rfl
      have c1 := box_cell P5.out 1 (.int .i64 mi) rfl
      have c2 := box_cell P5.out 2 (.int .i64 ma) rfl
      have c3 := box_cell P5.out 3 (.slice (some ⟨g, 0, none⟩) st.length c') rfl
      have c4 := box_cell P5.out 4 (.slice (some ⟨gw, 0, none⟩) 0 0) rfl
      have r0 := box_cell R5.out 0 (.int .i64 0) rfl
      have r1 := box_cell R5.out 1 (.int .i64 0) rfl
      have r2 := box_cell R5.out 2 (.int .i64 0) rfl
      have r3 := box_cell R5.out 3 (.slice none 0 0) rfl
      have r4 := box_cell R5.out 4 (.slice none 0 0) rfl
      have z := fun i => box_fz R5.out i
      have z0 := z 0; have z1 := z 1; have z2 := z 2; have z3 := z 3; have z4 := z 4
      have hlr := lt_of_block R5.out
      obtain ⟨P6, O6⟩ := put5 R5.out (.int .i64 en) (.int .i64 mi) (.int .i64 ma) (.slice (some ⟨g, 0, none⟩) st.length c') (.slice (some ⟨gw, 0, none⟩) 0 0)
      have P6 := Lib.hid P6
      have FS := Lib.hid (show StO _ w.heap.size (.slice (some ⟨g, 0, none⟩) st.length c') st from RowO.mono (own_ch S5.out O6 (fun i hi e => by have h1 := (S5.out.lt i hi).1; have h2 := SZ.out; omega)) (by have := SZ.out; omega))
      have FW := Lib.hid (show WnO _ w.heap.size (.slice (some ⟨gw, 0, none⟩) 0 0) [] from RowO.mono (own_ch W5.out O6 (fun i hi e => by have h1 := (W5.out.lt i hi).1; have h2 := SZ.out; omega)) (by have := SZ.out; omega))
      have FB := Lib.hid (B5.out.trans (O6.below (B := w.heap.size) B5.out.size (fun i e => by omega)))
      clear z O6
      go_wp2_with fail
      clear c0 c1 c2 c3 c4 r0 r1 r2 r3 r4 z0 z1 z2 z3 z4 hlr
      generalize ((((w5.setCell ⟨w.heap.size + 1, 0, none⟩ (.int .i64 en)).setCell ⟨w.heap.size + 1, 1, none⟩ (.int .i64 mi)).setCell ⟨w.heap.size + 1, 2, none⟩ (.int .i64 ma)).setCell ⟨w.heap.size + 1, 3, none⟩ (.slice (some ⟨g, 0, none⟩) st.length c')).setCell ⟨w.heap.size + 1, 4, none⟩ (.slice (some ⟨gw, 0, none⟩) 0 0) = we at *
      have r0 := box_cell P6.out 0 (.int .i64 en) rfl
      have r1 := box_cell P6.out 1 (.int .i64 mi) rfl
      have r2 := box_cell P6.out 2 (.int .i64 ma) rfl
      have r3 := box_cell P6.out 3 (.slice (some ⟨g, 0, none⟩) st.length c') rfl
      have r4 := box_cell P6.out 4 (.slice (some ⟨gw, 0, none⟩) 0 0) rfl
      refine bodyPost_ret (v := .agg #[.int .i64 en, .int .i64 mi, .int .i64 ma, .slice (some ⟨g, 0, none⟩) st.length c', .slice (some ⟨gw, 0, none⟩) 0 0]) (by simp [results, Tryd.results17, go_sem, r0, r1, r2, r3, r4]) rfl ?_
      exact ⟨g, c', _, _, rfl, FS.out, FW.out, FB.out⟩
  · obtain ⟨b2, o2, rfl, -, -⟩ := H0w.out.at (show 0 < wn.length by omega)
    have HNw := Lib.hid (RowA.news win_len (by decide) (H0w.out.below BA.out))
    have hw1 : 0 < wn.length := by omega
    clear hw0
    go_wp2_with (at_builtin; refine wpList_append_own _ rfl _ _ 26 rfl w3.heap.size 49 j0 _ 3 24 Tryd.underlying26 hj0 hy0 hy1 hy2 rfl (by decide) _ _ _ rfl HOwn.out ⟨b2, o2, none⟩ wn.length wc (wn.flatMap winCells) rfl (flat_len win_len wn) HNw.out ?e2 ?e3 ?e4 ?e5 ?_)
    case e2 => intro u x _ hu; exact one_win x u hu
    case e3 => unfold maxLen; omega
    case e4 => omega
    intro v' w4 hrow hgrow _
    obtain ⟨a2, d', rfl, -⟩ := own_slice hrow
    have BW : Below w3.heap.size w3 w4 := BA.out.grown hgrow BA.out.size (fun b hb => (HOwn.out.lt b hb).1)
    have hp4 := box_below P3.out BW
    clear hgrow HOwn HNw
    have P5 := Lib.hid (show (w4.setCell ⟨w.heap.size, 4, none⟩ (.slice a2 wn.length d')).heap[w.heap.size]? = some (.cells #[.int .i64 en, .int .i64 mi, .int .i64 ma, .slice (some ⟨g, 0, none⟩) st.length c', .slice a2 wn.length d'] 28) from block_set hp4 (o := 4) _)
    have O5 := one_ch w4 w.heap.size 4 (.slice a2 wn.length d')
    have R5 := Lib.hid ((O5.block _ (lt_of_block (box_below R3.out BW)) (by omega)).trans (box_below R3.out BW))
    have S5 := Lib.hid (show StO (w4.setCell ⟨w.heap.size, 4, none⟩ (.slice a2 wn.length d')) w1.heap.size (.slice (some ⟨g, 0, none⟩) st.length c') st from own_ch (RowO.below S3.out BW) O5 (fun i hi e => by have h1 := (S3.out.lt i hi).1; have h2 := SZ.out; omega))
    have W5 := Lib.hid (show WnO (w4.setCell ⟨w.heap.size, 4, none⟩ (.slice a2 wn.length d')) w3.heap.size (.slice a2 wn.length d') wn from own_ch hrow O5 (fun i hi e => by have h1 := (hrow.lt i hi).1; have h2 := lt_of_block P3.out; omega))
    have B5 := Lib.hid (show Below w.heap.size w (w4.setCell ⟨w.heap.size, 4, none⟩ (.slice a2 wn.length d')) from (B3.out.trans (BW.mono B3.out.size)).setCell (p := ⟨w.heap.size, 4, none⟩) (Nat.le_refl _) _)
    have k4 := box_cell hp4 4 (.slice (some ⟨b2, o2, none⟩) wn.length wc) rfl
    have z4 := box_fz hp4 4
    have l4 := lt_of_block hp4
    clear hp4 O5 hrow BW d4 d4' e1 i0' i1 i2
    go_upto_region 3 with (fail)
    clear k4 z4 l4
    generalize w4.setCell ⟨w.heap.size, 4, none⟩ (.slice a2 wn.length d') = w5 at *
    have c0 := box_cell P5.out 0 (.int .i64 en) rfl
    have c1 := box_cell P5.out 1 (.int .i64 mi) rfl
    have c2 := box_cell P5.out 2 (.int .i64 ma) rfl
    have c3 := box_cell P5.out 3 (.slice (some ⟨g, 0, none⟩) st.length c') rfl
    have c4 := box_cell P5.out 4 (.slice a2 wn.length d') rfl
    have r0 := box_cell R5.out 0 (.int .i64 0) rfl
    have r1 := box_cell R5.out 1 (.int .i64 0) rfl
    have r2 := box_cell R5.out 2 (.int .i64 0) rfl
    have r3 := box_cell R5.out 3 (.slice none 0 0) rfl
    have r4 := box_cell R5.out 4 (.slice none 0 0) rfl
    have z := fun i => box_fz R5.out i
    have z0 := z 0; have z1 := z 1; have z2 := z 2; have z3 := z 3; have z4 := z 4
    have hlr := lt_of_block R5.out
    obtain ⟨P6, O6⟩ := put5 R5.out (.int .i64 en) (.int .i64 mi) (.int .i64 ma) (.slice (some ⟨g, 0, none⟩) st.length c') (.slice a2 wn.length d')
    have P6 := Lib.hid P6
    have hle3 : w1.heap.size ≤ w3.heap.size := HW3.out.size
    have FS := Lib.hid (show StO _ w.heap.size (.slice (some ⟨g, 0, none⟩) st.length c') st from RowO.mono (own_ch S5.out O6 (fun i hi e => by have h1 := (S5.out.lt i hi).1; have h2 := SZ.out; omega)) (by have := SZ.out; omega))
    have FW := Lib.hid (show WnO _ w.heap.size (.slice a2 wn.length d') wn from RowO.mono (own_ch W5.out O6 (fun i hi e => by have h1 := (W5.out.lt i hi).1; have h2 := SZ.out; omega)) (by have := SZ.out; omega))
    have FB := Lib.hid (B5.out.trans (O6.below (B := w.heap.size) B5.out.size (fun i e => by omega)))
    clear z O6
    go_wp2_with fail
    clear c0 c1 c2 c3 c4 r0 r1 r2 r3 r4 z0 z1 z2 z3 z4 hlr
    generalize ((((w5.setCell ⟨w.heap.size + 1, 0, none⟩ (.int .i64 en)).setCell ⟨w.heap.size + 1, 1, none⟩ (.int .i64 mi)).setCell ⟨w.heap.size + 1, 2, none⟩ (.int .i64 ma)).setCell ⟨w.heap.size + 1, 3, none⟩ (.slice (some ⟨g, 0, none⟩) st.length c')).setCell ⟨w.heap.size + 1, 4, none⟩ (.slice a2 wn.length d') = we at *
    have r0 := box_cell P6.out 0 (.int .i64 en) rfl
    have r1 := box_cell P6.out 1 (.int .i64 mi) rfl
    have r2 := box_cell P6.out 2 (.int .i64 ma) rfl
    have r3 := box_cell P6.out 3 (.slice (some ⟨g, 0, none⟩) st.length c') rfl
    have r4 := box_cell P6.out 4 (.slice a2 wn.length d') rfl
    refine bodyPost_ret (v := .agg #[.int .i64 en, .int .i64 mi, .int .i64 ma, .slice (some ⟨g, 0, none⟩) st.length c', .slice a2 wn.length d']) (by simp [results, Tryd.results17, go_sem, r0, r1, r2, r3, r4]) rfl ?_
    exact ⟨g, c', _, _, rfl, FS.out, FW.out, FB.out⟩
end Go.Proofs.YtihohjgjklcnlaaDoor

namespace Go.Proofs.YtihohjgjklcnlaaDoor.Pl
def bareP (p : Plan) : Plan := ⟨p.entry, p.mmin, p.mmax, p.st, []⟩
theorem bare_valid {p : Plan} (hv : Valid p) : Valid (bareP p) := ⟨hv.entry, hv.mmin, hv.mmax, hv.len, hv.st, by show (0 : Nat) ≤ 20; omega, (fun w hw => by cases hw), rfl⟩
theorem bare_safe (X : List (List Int)) : SafeC (bareP (tightP (made X))) :=
  ⟨(good_iff (made_bounds X).1.1 (tight_fine X).v.st).2 (tight_chain _ _ _ _), fun w hw => by cases hw⟩
theorem tight_at (M en : Int) (l : List Stage) (k : Nat) (h : k < l.length) : (tightS M en none l)[k]? = some (tStage M en (if k = 0 then none else (tightS M en none l)[k - 1]?) l[k]) := by
  obtain ⟨hk, e⟩ := tight_take M en l none k h
  rw [List.getElem?_eq_getElem hk, e]
theorem early_main {M en : Int} {l : List Stage} {k : Nat} (h : k < (tightS M en none l).length) {x : Stage} (hx : x = ⟨(tightS M en none l)[k].mn, (tightS M en none l)[k].mx, ⟨(tightS M en none l)[k].m.tool, (tightS M en none l)[k].m.start - 1⟩, (tightS M en none l)[k].s⟩) : ¬ chainO M en none ((tightS M en none l).set k x) := by
  intro hc
  obtain ⟨h0, -, h2⟩ := chain_iff.1 hc
  have hk : k < l.length := by rw [← tightS_len M en l none]; exact h
  have ht := tight_at M en l k hk
  rw [List.getElem?_eq_getElem h] at ht
  have ht := Option.some.inj ht
  cases k with
  | zero =>
    have a := h0 (by simpa using h)
    rw [List.getElem_set_self] at a
    have a : en + M ≤ x.m.start := a
    rw [hx, ht] at a
    simp only [tStage, tStart, if_true] at a
    omega
  | succ j =>
    have hj : j < (tightS M en none l).length := by omega
    have a := h2 j (by simpa using h)
    rw [List.getElem_set_self, List.getElem_set_ne (by omega)] at a
    rw [if_neg (by omega), Nat.add_sub_cancel, List.getElem?_eq_getElem hj] at ht
    obtain ⟨a1, a2, a3⟩ := a
    generalize (tightS M en none l)[j] = b at *
    rw [hx, ht] at a1 a2 a3
    simp only [tStage, tStart] at a1 a2 a3
    by_cases e : b.m.tool = (l[j + 1]'hk).m.tool
    · rw [if_pos e] at a1
      omega
    · have a3 := a3 e
      rw [if_neg e] at a1 a3
      omega
theorem early_spare {M en : Int} {l : List Stage} {k : Nat} (h : k < (tightS M en none l).length) (hl : ∀ j, k = j + 1 → ∀ b, (tightS M en none l)[j]? = some b → b.m.tool ≠ (tightS M en none l)[k].m.tool) {x : Stage} (hx : x = ⟨(tightS M en none l)[k].mn, (tightS M en none l)[k].mx, (tightS M en none l)[k].m, ⟨(tightS M en none l)[k].s.tool, (tightS M en none l)[k].s.start - 1⟩⟩) : ¬ chainO M en none ((tightS M en none l).set k x) := by
  intro hc
  obtain ⟨-, h1, -⟩ := chain_iff.1 hc
  have hk : k < l.length := by rw [← tightS_len M en l none]; exact h
  have ht := tight_at M en l k hk
  rw [List.getElem?_eq_getElem h] at ht
  have ht := Option.some.inj ht
  have a := h1 x (List.mem_of_getElem? (i := k) (by rw [List.getElem?_set_self h]))
  unfold spared at a
  cases k with
  | zero =>
    rw [hx, ht] at a
    simp only [tStage, tStart, tSpare, if_true] at a
    omega
  | succ j =>
    have hj : j < (tightS M en none l).length := by omega
    have hb := hl j rfl _ (List.getElem?_eq_getElem hj)
    rw [if_neg (by omega), Nat.add_sub_cancel, List.getElem?_eq_getElem hj] at ht
    generalize (tightS M en none l)[j] = b at *
    rw [ht] at hb
    rw [hx, ht] at a
    simp only [tStage, tSpare] at a hb
    rw [if_neg hb] at a
    omega
theorem early_no {q : Plan} (h : ¬ chainO q.mmax q.entry none q.st) : (checkR q).2 = false := by
  by_cases hv : Valid q
  · have hs : ¬ SafeC q := fun hs => h (((safe_chain hv).1 hs).1)
    obtain ⟨s, e, -⟩ := check_unsafe hv hs
    rw [e]
  · rw [check_not hv]
end Go.Proofs.YtihohjgjklcnlaaDoor.Pl

namespace Go.Proofs.YtihohjgjklcnlaaDoor
open Go.RowKit Go.Shelf
attribute [local go_sem] Oper.semAt_some
set_option maxRecDepth 100000 in
set_option maxHeartbeats 4000000 in
theorem tight_any (xa : Option Addr) (xc : Nat) (X : List (List Int)) (which : Int) (W : World) (ht : Wb.Tab W) (hX : ArrsA 6 W xa xc X) (fw : Fits which) :
    Calls Tryd.prog 5 #[.slice xa X.length xc, .int .i64 which] W fun e w' => e = .returned (.bool true) ∧ Below W.heap.size W w' := by
  have HX := Lib.hid hX; have HT := Lib.hid ht; clear hX ht
  have HFi := Lib.hid (Pl.made9_fine X true)
  go_enter Tryd.func5, Tryd.ntmps5
  go_wp2_with fail
  refine (sane_any W HT.out).mono ?_; rintro e w1 ⟨rfl, g1⟩
  have G1 := Lib.hid g1; clear g1
  go_wp2_with fail
  refine (made_any X true xa xc w1 (HX.out.below G1.out)).mono ?_; rintro e w2 ⟨sa, sc, wa, wc, rfl, s1, s2, g2⟩
  have G2 := Lib.hid (below_step G1.out g2)
  have O2 := Lib.hid (show StO w2 W.heap.size (.slice sa (Pl.made9 X true).st.length sc) (Pl.made9 X true).st ∧ WnO w2 W.heap.size (.slice wa (Pl.made9 X true).wn.length wc) (Pl.made9 X true).wn from ⟨s1.mono G1.out.size, s2.mono G1.out.size⟩)
  clear g2 s1 s2 G1
  obtain ⟨P, hP⟩ : ∃ P, Pl.made9 X true = P := ⟨_, rfl⟩
  rw [hP] at O2 HFi
  rw [hP]
  have HP := Lib.hid hP
  clear hP
  go_upto_region 3 with (fail)
  have hb := below_new w2 (.cells #[.int .i64 P.entry, .int .i64 P.mmin, .int .i64 P.mmax, .slice sa P.st.length sc, .slice wa P.wn.length wc] 28)
  have NP := Lib.hid (heap_alloc_new w2 (.cells #[.int .i64 P.entry, .int .i64 P.mmin, .int .i64 P.mmax, .slice sa P.st.length sc, .slice wa P.wn.length wc] 28))
  have G3 := Lib.hid (below_step G2.out hb)
  have O3 := Lib.hid (show StO (w2.alloc (.cells #[.int .i64 P.entry, .int .i64 P.mmin, .int .i64 P.mmax, .slice sa P.st.length sc, .slice wa P.wn.length wc] 28)) W.heap.size (.slice sa P.st.length sc) P.st ∧ WnO (w2.alloc (.cells #[.int .i64 P.entry, .int .i64 P.mmin, .int .i64 P.mmax, .slice sa P.st.length sc, .slice wa P.wn.length wc] 28)) W.heap.size (.slice wa P.wn.length wc) P.wn from ⟨RowO.below O2.out.1 hb, RowO.below O2.out.2 hb⟩)
  have S3 := Lib.hid (made_ok O3.out.1 O3.out.2 : PlanP.ok ⟨P, sa, sc, wa, wc⟩ _)
  have HLo0 := Lib.hid (show W.heap.size ≤ w2.heap.size from G2.out.size)
  clear hb O2 G2
  generalize w2.alloc (.cells #[.int .i64 P.entry, .int .i64 P.mmin, .int .i64 P.mmax, .slice sa P.st.length sc, .slice wa P.wn.length wc] 28) = w3 at *
  have HLo := Lib.hid (show W.heap.size ≤ w2.heap.size from HLo0.out)
  generalize w2.heap.size = n8 at *
  have HPt := Lib.hid (show P = Pl.tightP (Pl.made X) by rw [← HP.out]; rfl)
  have c4 := box_cell NP.out 4 (.slice wa P.wn.length wc) rfl
  have z4 := box_fz NP.out 4
  have l4 := lt_of_block NP.out
  have O4 := one_ch w3 n8 4 (.slice none 0 0)
  have NP4 := Lib.hid (show (w3.setCell ⟨n8, 4, none⟩ (.slice none 0 0)).heap[n8]? = some (.cells #[.int .i64 P.entry, .int .i64 P.mmin, .int .i64 P.mmax, .slice sa P.st.length sc, .slice none 0 0] 28) from block_set NP.out (o := 4) _)
  have S4 := Lib.hid (show StO (w3.setCell ⟨n8, 4, none⟩ (.slice none 0 0)) W.heap.size (.slice sa P.st.length sc) P.st from own_ch O3.out.1 O4 (fun i hi e => by
    obtain ⟨ds, hk2⟩ := own_block O3.out.1 hi
    exact ne_of_kind hk2 NP.out (by decide) e))
  have hlo : W.heap.size ≤ n8 := by
    have := HLo.out
    omega
  have G4 := Lib.hid (show Below W.heap.size W (w3.setCell ⟨n8, 4, none⟩ (.slice none 0 0)) from G3.out.setCell (p := ⟨n8, 4, none⟩) hlo _)
  clear O4 hlo
  go_upto_region 4 with (fail)
  clear c4 z4 l4 NP S3 G3 O3
  generalize w3.setCell ⟨n8, 4, none⟩ (.slice none 0 0) = w4 at *
  have CK := Lib.hid (check_is ⟨Pl.bareP P, sa, sc, none, 0⟩ w4 (made_ok S4.out (RowO.nil _ _ _ _ W.heap.size)) (Pl.check_safe (Pl.bare_valid HFi.out.v) (by rw [HPt.out]; exact Pl.bare_safe X)))
  have okS := HFi.out.v.len
  obtain ⟨ok1, ok2⟩ := okS
  have hn5 := HFi.out.n
  have c0 := box_cell NP4.out 0 (.int .i64 P.entry) rfl
  have c1 := box_cell NP4.out 1 (.int .i64 P.mmin) rfl
  have c2 := box_cell NP4.out 2 (.int .i64 P.mmax) rfl
  have c3 := box_cell NP4.out 3 (.slice sa P.st.length sc) rfl
  have c4 := box_cell NP4.out 4 (.slice none 0 0) rfl
  go_wp2_with fail
  refine CK.out.mono ?_; rintro e w5 ⟨da0, dc0, ma0, mc0, rfl, -, gg⟩
  have hb := below_step gg (below_new w5 (.cells #[.slice da0 0 dc0, .slice ma0 0 mc0, .int .i64 0, .int .i64 0, .int .i64 0] 32))
  have NP6 := Lib.hid (box_below NP4.out hb)
  have S6 := Lib.hid (RowO.below S4.out hb)
  have G6 := Lib.hid (below_step G4.out hb)
  clear gg CK c0 c1 c2 c3 c4 hb NP4 S4 G4
  simp only [Pl.scen0, List.length_nil]
  go_upto_region 5 with (fail)
  generalize w5.alloc (.cells #[.slice da0 0 dc0, .slice ma0 0 mc0, .int .i64 0, .int .i64 0, .int .i64 0] 32) = w6 at *
  have d3 := box_cell NP6.out 3 (.slice sa P.st.length sc) rfl
  have fq := fits_tdiv (n := 2) fw (by omega)
  have g1 : IntKind.i64.wrap (which.tdiv 2) = which.tdiv 2 := wrap_fits fq
  have PK := Lib.hid (lpick_any (which.tdiv 2) P.st.length w6 fq (by omega))
  have hkb := pickZ_bd (c := which.tdiv 2) (n := P.st.length) (by omega)
  obtain ⟨k, hkk⟩ := Int.eq_ofNat_of_zero_le hkb.1
  rw [hkk] at PK hkb
  have hkn : k < P.st.length := by omega
  clear hkk hkb
  go_wp2_with fail
  refine PK.out.mono ?_; rintro e w6 ⟨rfl, rfl⟩
  clear PK d3 fq g1
  go_upto_region 6 with (fail)
  have c0 := box_cell NP6.out 0 (.int .i64 P.entry) rfl
  have c1 := box_cell NP6.out 1 (.int .i64 P.mmin) rfl
  have c2 := box_cell NP6.out 2 (.int .i64 P.mmax) rfl
  have c3 := box_cell NP6.out 3 (.slice sa P.st.length sc) rfl
  have c4 := box_cell NP6.out 4 (.slice none 0 0) rfl
  have FW := Lib.hid (few_any ⟨P.entry, P.mmin, P.mmax, P.st, []⟩ sa none sc 0 w6 (made_ok S6.out (RowO.nil _ _ _ _ W.heap.size)) ⟨ok1, by show P.st.length ≤ 9; omega⟩ (by show (0 : Nat) ≤ 21; omega))
  go_wp2_with fail
  refine FW.out.mono ?_; rintro e w7 ⟨g, sd, wb, wd, rfl, r1, r2, gg⟩
  have hb := below_new w7 (.cells #[.int .i64 P.entry, .int .i64 P.mmin, .int .i64 P.mmax, .slice (some ⟨g, 0, none⟩) P.st.length sd, .slice wb 0 wd] 28)
  have QB := heap_alloc_new w7 (.cells #[.int .i64 P.entry, .int .i64 P.mmin, .int .i64 P.mmax, .slice (some ⟨g, 0, none⟩) P.st.length sd, .slice wb 0 wd] 28)
  have SQ := Lib.hid (show StO (w7.alloc (.cells #[.int .i64 P.entry, .int .i64 P.mmin, .int .i64 P.mmax, .slice (some ⟨g, 0, none⟩) P.st.length sd, .slice wb 0 wd] 28)) W.heap.size (.slice (some ⟨g, 0, none⟩) P.st.length sd) P.st ∧ WnO (w7.alloc (.cells #[.int .i64 P.entry, .int .i64 P.mmin, .int .i64 P.mmax, .slice (some ⟨g, 0, none⟩) P.st.length sd, .slice wb 0 wd] 28)) W.heap.size (.slice wb 0 wd) [] from ⟨RowO.below (r1.mono G6.out.size) hb, RowO.below (r2.mono G6.out.size) hb⟩)
  have G8 := Lib.hid (below_step (below_step G6.out gg) hb)
  have QB := Lib.hid QB
  clear FW c0 c1 c2 c3 c4 r1 r2 gg hb S6 G6 NP6
  go_upto_region 7 with (fail)
  generalize w7.alloc (.cells #[.int .i64 P.entry, .int .i64 P.mmin, .int .i64 P.mmax, .slice (some ⟨g, 0, none⟩) P.st.length sd, .slice wb 0 wd] 28) = w8 at *
  generalize w7.heap.size = nq at *
  obtain ⟨x, hx⟩ : ∃ x, P.st[k] = x := ⟨_, rfl⟩
  have HXk := Lib.hid hx
  have HSm := Lib.hid (HFi.out.s P.st[k] (List.getElem_mem hkn))
  rw [hx] at HSm
  clear hx
  have HCells := Lib.hid (show ∀ i (hi : i < P.st.length) (w9 : World), StO w9 W.heap.size (.slice (some ⟨g, 0, none⟩) P.st.length sd) P.st → (w9.cell? ⟨g, i * 6, none⟩ = some (.int .i64 P.st[i].mn) ∧ w9.cell? ⟨g, i * 6 + 1, none⟩ = some (.int .i64 P.st[i].mx) ∧ w9.cell? ⟨g, i * 6 + 2, none⟩ = some (.int .i64 P.st[i].m.tool) ∧ w9.cell? ⟨g, i * 6 + 3, none⟩ = some (.int .i64 P.st[i].m.start) ∧ w9.cell? ⟨g, i * 6 + 4, none⟩ = some (.int .i64 P.st[i].s.tool) ∧ w9.cell? ⟨g, i * 6 + 5, none⟩ = some (.int .i64 P.st[i].s.start)) from fun i hi w9 hS => by
    obtain ⟨a, c, e, hA, -⟩ := RowO.arg stage_len hS
    injection e with e1 _ e2
    subst e1; subst e2
    obtain ⟨b, off, e3, hb, hc⟩ := hA.at (show 0 < P.st.length by omega)
    injection e3 with e3; injection e3 with e3 e4; subst e3; subst e4
    have := st_cells (hc i hi)
    simp only [Nat.zero_add] at this
    exact this)
  obtain ⟨-, -, q2, -, -, -⟩ := HCells.out k hkn w8 SQ.out.1
  rw [HXk.out] at q2
  have t3 := box_cell QB.out 3 (.slice (some ⟨g, 0, none⟩) P.st.length sd) rfl
  have i1 : (0 : Int) ≤ (k : Int) := by omega
  have i2 : (k : Int) < (P.st.length : Int) := by omega
  have i4 : ((k : Int)).toNat = k := by omega
  go_cut [11] (fun tt wx => ∃ B, tt = .bool B ∧ (∃ n, wx = w8.drewN n) ∧ Hid (B = true → ∀ j, k = j + 1 → ∀ b, P.st[j]? = some b → b.m.tool ≠ x.m.tool))
  case first => as_aux_lemma =>
    by_cases hk0 : k = 0
    · have n1 : ((k : Int) == 0) = true := by rw [hk0]; rfl
      have n2 : (k == 0) = true := by rw [hk0]; rfl
      have HK0 := Lib.hid hk0
      clear hk0
      go_quiet (fail)
      go_wp2_with fail
      go_meet
      exact ⟨true, rfl, ⟨_, rfl⟩, Lib.hid (fun _ j hj => by have := HK0.out; omega)⟩
    · obtain ⟨j, hj⟩ : ∃ j, k = j + 1 := ⟨k - 1, by omega⟩
      have hjn : j < P.st.length := by omega
      obtain ⟨-, -, p2, -, -, -⟩ := HCells.out j hjn w8 SQ.out.1
      have n1 : ((k : Int) == 0) = false := by rw [beq_eq_false_iff_ne]; omega
      have n2 : (k == 0) = false := by rw [beq_eq_false_iff_ne]; omega
      have j0 : (0 : Int) ≤ (j : Int) := by omega
      have j1 : (j : Int) < (P.st.length : Int) := by omega
      have j2 : ((j : Int)).toNat = j := by omega
      have e2 : IntKind.i64.wrap ((k : Int) - 1) = (j : Int) := by rw [show (k : Int) - 1 = (j : Int) by omega]; exact IntWalk.i64_in _ (by omega)
      have HJ := Lib.hid hj
      have HJn := Lib.hid hjn
      have HBj := Lib.hid (List.getElem?_eq_getElem hjn)
      generalize P.st[j]'hjn = b at *
      clear hk0 hj
      by_cases hto : b.m.tool = x.m.tool
      · have n3 : (b.m.tool != x.m.tool) = false := by simp [hto]
        clear hto
        go_quiet (fail)
        go_wp2_with fail
        go_meet
        exact ⟨false, rfl, ⟨_, rfl⟩, Lib.hid (fun h => by cases h)⟩
      · have n3 : (b.m.tool != x.m.tool) = true := by simp [hto]
        have HTo := Lib.hid hto
        clear hto
        go_quiet (fail)
        go_wp2_with fail
        go_meet
        refine ⟨true, rfl, ⟨_, rfl⟩, Lib.hid (fun _ j' hj' b' hb' => ?_)⟩
        have : j' = j := by have := HJ.out; omega
        subst this
        rw [HBj.out] at hb'
        injection hb' with hb'; subst hb'
        exact HTo.out
  case rest =>
  obtain ⟨B, rfl, ⟨nd, rfl⟩, HB⟩ := hcut
  have HD := Lib.hid (below_drewN (Below.refl w8.heap.size w8) nd)
  have SQ' := Lib.hid (show StO (w8.drewN nd) W.heap.size (.slice (some ⟨g, 0, none⟩) P.st.length sd) P.st ∧ WnO (w8.drewN nd) W.heap.size (.slice wb 0 wd) [] from ⟨RowO.below SQ.out.1 HD.out, RowO.below SQ.out.2 HD.out⟩)
  have QB' := Lib.hid (box_below QB.out HD.out)
  have G9 := Lib.hid (below_step G8.out HD.out)
  clear q2 t3 SQ QB G8 HD
  have SQ := SQ'; have QB := QB'
  clear SQ' QB'
  generalize w8.drewN nd = w9 at *
  have PK2 := Lib.hid (lpick_any which 2 w9 fw (by omega))
  have hpb := pickZ_bd (c := which) (n := 2) (by omega)
  obtain ⟨pz, hpz⟩ : ∃ pz, pickZ which 2 = pz := ⟨_, rfl⟩
  rw [hpz] at PK2 hpb
  clear hpz
  obtain ⟨cs, hg0⟩ := own_block SQ.out.1 (k := g) rfl
  have hgq := Lib.hid hg0
  have zg := fun i => box_fz hg0 i
  have lg := lt_of_block hg0
  clear hg0
  obtain ⟨q0, q1, q2, q3, q4, q5⟩ := HCells.out k hkn w9 SQ.out.1
  rw [HXk.out] at q0 q1 q2 q3 q4 q5
  have t3 := box_cell QB.out 3 (.slice (some ⟨g, 0, none⟩) P.st.length sd) rfl
  have hs1 := HSm.out.ms; have hs2 := HSm.out.ss
  have HTS := Lib.hid (show P.st = Pl.tightS P.mmax P.entry none (Pl.made X).st by rw [HPt.out]; rfl)
  go_wp2_with fail
  refine PK2.out.mono ?_; rintro e w9 ⟨rfl, rfl⟩
  by_cases hp0 : pz = 0
  · subst hp0
    have HCh := Lib.hid (show ¬ Pl.chainO P.mmax P.entry none (P.st.set k ⟨x.mn, x.mx, ⟨x.m.tool, x.m.start - 1⟩, x.s⟩) by
      have hk2 : k < (Pl.tightS P.mmax P.entry none (Pl.made X).st).length := by rw [← HTS.out]; exact hkn
      have hx2 : (Pl.tightS P.mmax P.entry none (Pl.made X).st)[k] = x := by rw [← HXk.out]; congr 1; exact HTS.out.symm
      have := Pl.early_main (M := P.mmax) (en := P.entry) (l := (Pl.made X).st) hk2 (x := ⟨x.mn, x.mx, ⟨x.m.tool, x.m.start - 1⟩, x.s⟩) (by rw [hx2])
      rw [← HTS.out] at this
      exact this)
    have zk := zg (k * 6 + 3)
    clear HB PK2
    have HNo := Lib.hid (show (Pl.checkR ⟨P.entry, P.mmin, P.mmax, P.st.set k ⟨x.mn, x.mx, ⟨x.m.tool, x.m.start - 1⟩, x.s⟩, []⟩).2 = false from Pl.early_no (HCh.out : ¬ Pl.chainO P.mmax P.entry none (P.st.set k ⟨x.mn, x.mx, ⟨x.m.tool, x.m.start - 1⟩, x.s⟩)))
    obtain ⟨⟨s2, b2⟩, hR2⟩ : ∃ y, Pl.checkR ⟨P.entry, P.mmin, P.mmax, P.st.set k ⟨x.mn, x.mx, ⟨x.m.tool, x.m.start - 1⟩, x.s⟩, []⟩ = y := ⟨_, rfl⟩
    rw [hR2] at HNo
    obtain rfl : b2 = false := HNo.out
    have hlset : (P.st.set k ⟨x.mn, x.mx, ⟨x.m.tool, x.m.start - 1⟩, x.s⟩).length = P.st.length := List.length_set
    have ST9 := Lib.hid (show StO (w9.setCell ⟨g, k * 6 + 3, none⟩ (.int .i64 (x.m.start - 1))) W.heap.size (.slice (some ⟨g, 0, none⟩) (P.st.set k ⟨x.mn, x.mx, ⟨x.m.tool, x.m.start - 1⟩, x.s⟩).length sd) (P.st.set k ⟨x.mn, x.mx, ⟨x.m.tool, x.m.start - 1⟩, x.s⟩) by
      rw [hlset]
      exact RowO.setField stage_len SQ.out.1 hkn (by decide) (by rw [HXk.out]; rfl))
    have O9 := one_ch w9 g (k * 6 + 3) (.int .i64 (x.m.start - 1))
    have WN9 := Lib.hid (show WnO (w9.setCell ⟨g, k * 6 + 3, none⟩ (.int .i64 (x.m.start - 1))) W.heap.size (.slice wb 0 wd) [] from own_ch SQ.out.2 O9 (fun i hi e => by
      obtain ⟨ds, hk2⟩ := own_block SQ.out.2 hi
      exact ne_of_kind hgq.out hk2 (by decide) e.symm))
    have QB9 := Lib.hid ((O9.block nq (lt_of_block QB.out) (fun e => ne_of_kind hgq.out QB.out (by decide) e.symm)).trans QB.out)
    have G10 := Lib.hid (show Below W.heap.size W (w9.setCell ⟨g, k * 6 + 3, none⟩ (.int .i64 (x.m.start - 1))) from G9.out.setCell (p := ⟨g, k * 6 + 3, none⟩) (SQ.out.1.lt g rfl).1 _)
    have CK := check_is ⟨⟨P.entry, P.mmin, P.mmax, P.st.set k ⟨x.mn, x.mx, ⟨x.m.tool, x.m.start - 1⟩, x.s⟩, []⟩, some ⟨g, 0, none⟩, sd, wb, wd⟩ _ (made_ok ST9.out WN9.out) hR2
    rw [show PlanP.val ⟨⟨P.entry, P.mmin, P.mmax, P.st.set k ⟨x.mn, x.mx, ⟨x.m.tool, x.m.start - 1⟩, x.s⟩, []⟩, some ⟨g, 0, none⟩, sd, wb, wd⟩ = .agg #[.int .i64 P.entry, .int .i64 P.mmin, .int .i64 P.mmax, .slice (some ⟨g, 0, none⟩) P.st.length sd, .slice wb 0 wd] from by
      show Value.agg #[_, _, _, .slice _ (P.st.set k ⟨x.mn, x.mx, ⟨x.m.tool, x.m.start - 1⟩, x.s⟩).length _, _] = _
      rw [hlset]; rfl] at CK
    have CK := Lib.hid CK
    have e1 : IntKind.i64.wrap (x.m.start - 1) = x.m.start - 1 := IntWalk.i64_in _ (by omega)
    clear O9 hlset hR2
    go_upto_region 13 with (fail)
    clear e1 t3 q0 q1 q2 q3 q4 q5 zg lg
    generalize w9.setCell ⟨g, k * 6 + 3, none⟩ (.int .i64 (x.m.start - 1)) = wA at *
    have c0 := box_cell QB9.out 0 (.int .i64 P.entry) rfl
    have c1 := box_cell QB9.out 1 (.int .i64 P.mmin) rfl
    have c2 := box_cell QB9.out 2 (.int .i64 P.mmax) rfl
    have c3 := box_cell QB9.out 3 (.slice (some ⟨g, 0, none⟩) P.st.length sd) rfl
    have c4 := box_cell QB9.out 4 (.slice wb 0 wd) rfl
    go_wp2_with fail
    refine CK.out.mono ?_; rintro e wB ⟨da2, dc2, ma2, mc2, rfl, -, gB⟩
    have GB := Lib.hid (below_step G10.out (below_step gB (below_new wB (.cells #[.slice da2 s2.dur.length dc2, .slice ma2 s2.mv.length mc2, .int .i64 s2.det, .int .i64 s2.tool, .int .i64 s2.at_] 32))))
    clear gB CK c0 c1 c2 c3 c4
    go_upto_region 14 with (fail)
    generalize wB.alloc (.cells #[.slice da2 s2.dur.length dc2, .slice ma2 s2.mv.length mc2, .int .i64 s2.det, .int .i64 s2.tool, .int .i64 s2.at_] 32) = wC at *
    go_wp2_with fail
    go_ret
    exact ⟨rfl, GB.out⟩
  · have n1 : (pz == 0) = false := by rw [beq_eq_false_iff_ne]; exact hp0
    cases B with
    | false =>
      go_wp2_with fail
      go_ret
      exact ⟨rfl, G9.out⟩
    | true =>
      have HCh := Lib.hid (show ¬ Pl.chainO P.mmax P.entry none (P.st.set k ⟨x.mn, x.mx, x.m, ⟨x.s.tool, x.s.start - 1⟩⟩) by
        have hk2 : k < (Pl.tightS P.mmax P.entry none (Pl.made X).st).length := by rw [← HTS.out]; exact hkn
        have hx2 : (Pl.tightS P.mmax P.entry none (Pl.made X).st)[k] = x := by rw [← HXk.out]; congr 1; exact HTS.out.symm
        have := Pl.early_spare (M := P.mmax) (en := P.entry) (l := (Pl.made X).st) hk2 (fun j hj b hb => by rw [hx2]; exact HB.out rfl j hj b (by rw [HTS.out]; exact hb)) (x := ⟨x.mn, x.mx, x.m, ⟨x.s.tool, x.s.start - 1⟩⟩) (by rw [hx2])
        rw [← HTS.out] at this
        exact this)
      have zk := zg (k * 6 + 5)
      clear HB PK2 hp0
      have HNo := Lib.hid (show (Pl.checkR ⟨P.entry, P.mmin, P.mmax, P.st.set k ⟨x.mn, x.mx, x.m, ⟨x.s.tool, x.s.start - 1⟩⟩, []⟩).2 = false from Pl.early_no (HCh.out : ¬ Pl.chainO P.mmax P.entry none (P.st.set k ⟨x.mn, x.mx, x.m, ⟨x.s.tool, x.s.start - 1⟩⟩)))
      obtain ⟨⟨s2, b2⟩, hR2⟩ : ∃ y, Pl.checkR ⟨P.entry, P.mmin, P.mmax, P.st.set k ⟨x.mn, x.mx, x.m, ⟨x.s.tool, x.s.start - 1⟩⟩, []⟩ = y := ⟨_, rfl⟩
      rw [hR2] at HNo
      obtain rfl : b2 = false := HNo.out
      have hlset : (P.st.set k ⟨x.mn, x.mx, x.m, ⟨x.s.tool, x.s.start - 1⟩⟩).length = P.st.length := List.length_set
      have ST9 := Lib.hid (show StO (w9.setCell ⟨g, k * 6 + 5, none⟩ (.int .i64 (x.s.start - 1))) W.heap.size (.slice (some ⟨g, 0, none⟩) (P.st.set k ⟨x.mn, x.mx, x.m, ⟨x.s.tool, x.s.start - 1⟩⟩).length sd) (P.st.set k ⟨x.mn, x.mx, x.m, ⟨x.s.tool, x.s.start - 1⟩⟩) by
        rw [hlset]
        exact RowO.setField stage_len SQ.out.1 hkn (by decide) (by rw [HXk.out]; rfl))
      have O9 := one_ch w9 g (k * 6 + 5) (.int .i64 (x.s.start - 1))
      have WN9 := Lib.hid (show WnO (w9.setCell ⟨g, k * 6 + 5, none⟩ (.int .i64 (x.s.start - 1))) W.heap.size (.slice wb 0 wd) [] from own_ch SQ.out.2 O9 (fun i hi e => by
        obtain ⟨ds, hk2⟩ := own_block SQ.out.2 hi
        exact ne_of_kind hgq.out hk2 (by decide) e.symm))
      have QB9 := Lib.hid ((O9.block nq (lt_of_block QB.out) (fun e => ne_of_kind hgq.out QB.out (by decide) e.symm)).trans QB.out)
      have G10 := Lib.hid (show Below W.heap.size W (w9.setCell ⟨g, k * 6 + 5, none⟩ (.int .i64 (x.s.start - 1))) from G9.out.setCell (p := ⟨g, k * 6 + 5, none⟩) (SQ.out.1.lt g rfl).1 _)
      have CK := check_is ⟨⟨P.entry, P.mmin, P.mmax, P.st.set k ⟨x.mn, x.mx, x.m, ⟨x.s.tool, x.s.start - 1⟩⟩, []⟩, some ⟨g, 0, none⟩, sd, wb, wd⟩ _ (made_ok ST9.out WN9.out) hR2
      rw [show PlanP.val ⟨⟨P.entry, P.mmin, P.mmax, P.st.set k ⟨x.mn, x.mx, x.m, ⟨x.s.tool, x.s.start - 1⟩⟩, []⟩, some ⟨g, 0, none⟩, sd, wb, wd⟩ = .agg #[.int .i64 P.entry, .int .i64 P.mmin, .int .i64 P.mmax, .slice (some ⟨g, 0, none⟩) P.st.length sd, .slice wb 0 wd] from by
        show Value.agg #[_, _, _, .slice _ (P.st.set k ⟨x.mn, x.mx, x.m, ⟨x.s.tool, x.s.start - 1⟩⟩).length _, _] = _
        rw [hlset]; rfl] at CK
      have CK := Lib.hid CK
      have e1 : IntKind.i64.wrap (x.s.start - 1) = x.s.start - 1 := IntWalk.i64_in _ (by omega)
      clear O9 hlset hR2
      go_upto_region 13 with (fail)
      clear e1 t3 q0 q1 q2 q3 q4 q5 zg lg
      generalize w9.setCell ⟨g, k * 6 + 5, none⟩ (.int .i64 (x.s.start - 1)) = wA at *
      have c0 := box_cell QB9.out 0 (.int .i64 P.entry) rfl
      have c1 := box_cell QB9.out 1 (.int .i64 P.mmin) rfl
      have c2 := box_cell QB9.out 2 (.int .i64 P.mmax) rfl
      have c3 := box_cell QB9.out 3 (.slice (some ⟨g, 0, none⟩) P.st.length sd) rfl
      have c4 := box_cell QB9.out 4 (.slice wb 0 wd) rfl
      go_wp2_with fail
      refine CK.out.mono ?_; rintro e wB ⟨da2, dc2, ma2, mc2, rfl, -, gB⟩
      have GB := Lib.hid (below_step G10.out (below_step gB (below_new wB (.cells #[.slice da2 s2.dur.length dc2, .slice ma2 s2.mv.length mc2, .int .i64 s2.det, .int .i64 s2.tool, .int .i64 s2.at_] 32))))
      clear gB CK c0 c1 c2 c3 c4
      go_upto_region 14 with (fail)
      generalize wB.alloc (.cells #[.slice da2 s2.dur.length dc2, .slice ma2 s2.mv.length mc2, .int .i64 s2.det, .int .i64 s2.tool, .int .i64 s2.at_] 32) = wC at *
      go_wp2_with fail
      go_ret
      exact ⟨rfl, GB.out⟩
end Go.Proofs.YtihohjgjklcnlaaDoor

namespace Go.Proofs.YtihohjgjklcnlaaDoor.lawCertifyTight
open Go.ChangeShapes Go.WideShapes Go.ChangeAt Go.RowKit
open Go.ChangeMaps (open_string shut_string)

set_option maxRecDepth 100000 in
theorem lifted (os : Os) (started : os.Started) (H : Type) (enc : TypeId × Value → H) :
    ReturnsInHanded {} Tryd.checked os 5 .any (fun w args => (Rows.certifyTightSpec.pre enc Tryd.prog Tryd.f5 [] false w args ∧ laidMetH Tryd.prog laidList w) ∧ sizedMet enc Tryd.prog Tryd.f5 (OpenSpec.ofChange Rows.certifyTightSpec) false w args)
      (Rows.certifyTightSpec.post enc Tryd.prog Tryd.f5 false true false false) := by
  refine returnsInHanded_of_change_and (C := Tryd.checked) (X := fun w _ => laidMetH Tryd.prog laidList w) (fun _ _ _ hh h => h.of_heap hh) own started (by kernel_rfl) Tryd.func5
    (ChangeSpec.witness_shaped (enc := enc) (C := Tryd.checked) (os := os) (X := fun w _ => laidMetH Tryd.prog laidList w) false (World.doorLaid Tryd.prog 400 os) #[.slice none 0 0, .int .i64 0] 8 rfl (World.shaped_of_RefB (by kernel_rfl) (by kernel_rfl)) (by kernel_rfl) (by kernel_rfl) (by kernel_rfl) (door_met os _)) ?_
  intro W base args ds gs before hval0 hW _ _ hL _
  have hval : ∀ (j : Nat) t v, Tryd.f5.params[j]? = some t → args[j]? = some v → Value.okWide Tryd.prog W .any base t v := hval0
  have hW' := hW
  obtain ⟨p, q, hA0, hV, rfl, hfz, hnd⟩ := hW
  have hA : DataW.TrodAll enc Tryd.prog W 0 (fun _ => true) true Tryd.f5.params.toList args.toList ds p := hA0
  rw [Tryd.params5] at hA hval
  obtain ⟨v0, vs0, d0, ds0, p0, q0, hargs, rfl, rfl, h0, r0⟩ := trodAll_cons hA
  obtain ⟨v1, vs1, d1, ds1, p1, q1, rfl, rfl, rfl, h1, r1⟩ := trodAll_cons r0
  obtain ⟨rfl, rfl, rfl⟩ := trodAll_nil r1
  obtain rfl : args = #[v0, v1] := by cases args; simp_all
  obtain ⟨rfl, rfl⟩ := trodVars_none hV
  have k0 := h0
  have lt0 : ∀ x ∈ p0, x.block < W.heap.size := by obtain ⟨m, hm⟩ := k0; exact DataW.trod_lt m _ _ _ hm
  have k1 := h1
  have lt1 : ∀ x ∈ p1, x.block < W.heap.size := by obtain ⟨m, hm⟩ := k1; exact DataW.trod_lt m _ _ _ hm
  obtain ⟨a0, c0, z0, rfl, w0⟩ := open_sixes (hval 0 22 v0 rfl rfl) h0
  obtain ⟨a1, rfl, hd1, hp1, w1⟩ := open_int Tryd.underlying3 (hval 1 3 v1 rfl rfl) h1
  have b1 := bounds_i64 w1
  clear hA0 hval0
  refine (tight_any a0 c0 z0 a1 W (tab_of_laid hL) w0 ⟨b1.1, b1.2⟩).mono fun e W' ⟨he, bel⟩ => ?_
  subst he
  exact ⟨_, rfl, _, _, _, [], _, [], hW', trodAll_mk1 (shut_bool Tryd.underlying4 _), (trodAll_cons_mk (Below.trod laidOut (by kernel_rfl) (of_decide_eq_true (by kernel_rfl)) k0 bel lt0) (trodAll_cons_mk (Below.trod laidOut (by kernel_rfl) (of_decide_eq_true (by kernel_rfl)) k1 bel lt1) trodAll_mk0)), rfl, bel.frame _, fun h => by cases h⟩

theorem over : Rows.certifyTightRow.holds Tryd.pinned (OpenSpec.ofChange Rows.certifyTightSpec) :=
  OpenClaim.holds_of_wide 5 Tryd.f5 rfl rfl rfl rfl rfl rfl rfl ⟨rfl, rfl, rfl, rfl, rfl⟩ rfl rfl rfl rfl rfl (by kernel_rfl) Tryd.func5 (by kernel_rfl)
    (of_decide_eq_true (by kernel_rfl)) (by unfold Func.isWrapper; rw [if_neg (of_decide_eq_false (by kernel_rfl))]; exact ⟨rfl, rfl⟩)
    (fun os started H enc _ => lifted os started H enc)

theorem proved : Rows.CertifyTightCardSaid :=
  Claim7.holds_tied_plain_at .later [] [.data] true (true, "5525114c7adf425dbb03f7f3d5bfd400766d8dc32cebf7ba860010d8e3e61684") true
    over (fun _ h => by cases h) (by kernel_rfl) (fun _ h => by cases h) certifyTight_row_tie rfl ⟨rfl, rfl⟩ (by kernel_rfl) rfl
    (fun f fn hf hfn => by
      obtain rfl : f = 5 := Option.some.inj ((show Tryd.prog.funcNamed "cleanroom/cleanroomlaw09.CertifyTight" = some 5 by kernel_rfl).symm.trans hf) |>.symm
      obtain rfl : fn = Tryd.f5 := (Option.some.inj (Tryd.func5.symm.trans hfn)).symm
      exact ⟨by kernel_rfl, fun j t ht => by
        rw [Tryd.params5] at ht
        have hm : t ∈ [22, 3] := by simpa using Array.mem_of_getElem? ht
        have hall : ([22, 3].all fun u => !Tryd.prog.wantsStandIn u) = true := by kernel_rfl
        exact (show Tryd.prog.wantsStandIn t = false by simpa using List.all_eq_true.1 hall t hm)⟩)
    (by kernel_rfl)
#print axioms proved
end Go.Proofs.YtihohjgjklcnlaaDoor.lawCertifyTight
