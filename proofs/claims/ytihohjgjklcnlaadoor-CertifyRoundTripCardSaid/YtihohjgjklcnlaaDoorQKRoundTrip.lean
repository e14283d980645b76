/-
  CertifyUnsafe walked.
  The law file's few (a plan with lists of its own) and pick.
  A row of bytes of a string's: what its cells hold, what a store makes of them, and the string of its bytes.
  Certificates that were changed or cut, on paper.
  CertifyRoundTrip walked.
  CertifyRoundTrip: for every input that can be read the call returns true and leaves the input as it was; the row, and its card, whose table is tied to the program's text. No condition beside what the row says.
-/
import Derived.Test.YtihohjgjklcnlaaDoorQCf
import Derived.Test.YtihohjgjklcnlaaDoorQCg
import Derived.Test.YtihohjgjklcnlaaDoorQBz
import Derived.Deep.LoopGhost
import Derived.Deep.DeepCutAuto
import Derived.Test.YtihohjgjklcnlaaDoorQBx
import Derived.Test.YtihohjgjklcnlaaDoorQBw
import Derived.Test.YtihohjgjklcnlaaDoorQBa
import Derived.Lib.MinMax
import Derived.Test.YtihohjgjklcnlaaDoorQBn
import Derived.Laws.IdiomStrings
import Derived.Laws.MakeOwn
import Derived.Deep.Draws
import Derived.Test.YtihohjgjklcnlaaDoorQBv
import Derived.Test.YtihohjgjklcnlaaDoorQKR2
import Derived.Test.YtihohjgjklcnlaaDoorQKR1
import Derived.Test.YtihohjgjklcnlaaDoorQCh9
namespace Go.Proofs.YtihohjgjklcnlaaDoor
open Go.RowKit Go.Shelf
attribute [local go_sem] Oper.semAt_some
theorem check_is (q : PlanP) (w : World) (h : q.ok w) {s : Pl.Scen} {b : Bool} (hR : Pl.checkR q.p = (s, b)) : Calls Tryd.prog 12 #[q.val] w (ChkEx s b w) := by
  refine (Check_any q w h).mono fun e w' ⟨r, h1, h2, h3, h4⟩ => ?_
  obtain ⟨s', da, dc, ma, mc⟩ := r
  rw [hR] at h1 h2
  simp only at h1
  subst h1
  exact ⟨da, dc, ma, mc, h2, h3.ok, h4⟩
set_option maxRecDepth 100000 in
set_option maxHeartbeats 4000000 in
theorem unsafe_any (xa : Option Addr) (xc : Nat) (X : List (List Int)) (t : Bool) (W : World) (ht : Wb.Tab W) (hX : ArrsA 6 W xa xc X) :
    Calls Tryd.prog 4 #[.slice xa X.length xc, .bool t] W fun e w' => e = .returned (.bool true) ∧ Below W.heap.size W w' := by
  have HX := Lib.hid hX; have HT := Lib.hid ht; clear hX ht
  have HFi := Lib.hid (Pl.made9_fine X t)
  go_enter Tryd.func4, Tryd.ntmps4
  go_wp2_with fail
  refine (sane_any W HT.out).mono ?_; rintro e w1 ⟨rfl, g1⟩
  have G1 := Lib.hid g1; clear g1
  go_wp2_with fail
  refine (made_any X t xa xc w1 (HX.out.below G1.out)).mono ?_; rintro e w2 ⟨sa, sc, wa, wc, rfl, s1, s2, g2⟩
  have G2 := Lib.hid (below_step G1.out g2)
  have O2 := Lib.hid (show StO w2 W.heap.size (.slice sa (Pl.made9 X t).st.length sc) (Pl.made9 X t).st ∧ WnO w2 W.heap.size (.slice wa (Pl.made9 X t).wn.length wc) (Pl.made9 X t).wn from ⟨s1.mono G1.out.size, s2.mono G1.out.size⟩)
  clear g2 s1 s2 G1
  obtain ⟨P, hP⟩ : ∃ P, Pl.made9 X t = P := ⟨_, rfl⟩
  rw [hP] at O2 HFi
  rw [hP]
  have HP := Lib.hid hP
  clear hP
  go_upto_region 3 with (fail)
  have hb := below_new w2 (.cells #[.int .i64 P.entry, .int .i64 P.mmin, .int .i64 P.mmax, .slice sa P.st.length sc, .slice wa P.wn.length wc] 28)
  have NP := Lib.hid (heap_alloc_new w2 (.cells #[.int .i64 P.entry, .int .i64 P.mmin, .int .i64 P.mmax, .slice sa P.st.length sc, .slice wa P.wn.length wc] 28))
  have G3 := Lib.hid (below_step G2.out hb)
  have O3 := Lib.hid (show StO (w2.alloc (.cells #[.int .i64 P.entry, .int .i64 P.mmin, .int .i64 P.mmax, .slice sa P.st.length sc, .slice wa P.wn.length wc] 28)) W.heap.size (.slice sa P.st.length sc) P.st ∧ WnO (w2.alloc (.cells #[.int .i64 P.entry, .int .i64 P.mmin, .int .i64 P.mmax, .slice sa P.st.length sc, .slice wa P.wn.length wc] 28)) W.heap.size (.slice wa P.wn.length wc) P.wn from ⟨RowO.below O2.out.1 hb, RowO.below O2.out.2 hb⟩)
  have S3 := Lib.hid (made_ok O3.out.1 O3.out.2 : PlanP.ok ⟨P, sa, sc, wa, wc⟩ _)
  clear hb O2 G2
  generalize w2.alloc (.cells #[.int .i64 P.entry, .int .i64 P.mmin, .int .i64 P.mmax, .slice sa P.st.length sc, .slice wa P.wn.length wc] 28) = w3 at *
  generalize w2.heap.size = n8 at *
  have c0 := box_cell NP.out 0 (.int .i64 P.entry) rfl
  have c1 := box_cell NP.out 1 (.int .i64 P.mmin) rfl
  have c2 := box_cell NP.out 2 (.int .i64 P.mmax) rfl
  have c3 := box_cell NP.out 3 (.slice sa P.st.length sc) rfl
  have c4 := box_cell NP.out 4 (.slice wa P.wn.length wc) rfl
  by_cases hs : Pl.SafeC P
  · have CK := Lib.hid (check_is ⟨P, sa, sc, wa, wc⟩ w3 S3.out (Pl.check_safe HFi.out.v hs))
    clear hs
    go_wp2_with fail
    refine CK.out.mono ?_; rintro e w4 ⟨da, dc, ma, mc, rfl, -, g⟩
    have G4 := Lib.hid (below_step (below_step G3.out g) (below_new w4 (.cells #[.slice da 0 dc, .slice ma 0 mc, .int .i64 0, .int .i64 0, .int .i64 0] 32)))
    have NS := Lib.hid (heap_alloc_new w4 (.cells #[.slice da 0 dc, .slice ma 0 mc, .int .i64 0, .int .i64 0, .int .i64 0] 32))
    clear g CK c0 c1 c2 c3 c4
    simp only [Pl.scen0, List.length_nil]
    go_upto_region 4 with (fail)
    generalize w4.alloc (.cells #[.slice da 0 dc, .slice ma 0 mc, .int .i64 0, .int .i64 0, .int .i64 0] 32) = w5 at *
    have k0 := box_cell NS.out 0 (.slice da 0 dc) rfl
    have k1 := box_cell NS.out 1 (.slice ma 0 mc) rfl
    have k3 := box_cell NS.out 3 (.int .i64 0) rfl
    go_wp2_with fail
    go_ret
    exact ⟨rfl, G4.out⟩
  · obtain ⟨s, hR, hPo, hk⟩ := Pl.check_unsafe HFi.out.v hs
    have CK := Lib.hid (check_is ⟨P, sa, sc, wa, wc⟩ w3 S3.out hR)
    have HPo := Lib.hid hPo
    have HKi := Lib.hid hk
    clear hs hR hPo hk
    go_wp2_with fail
    refine CK.out.mono ?_; rintro e w4 ⟨da, dc, ma, mc, rfl, ok, g⟩
    have hb := below_new w4 (.cells #[.slice da s.dur.length dc, .slice ma s.mv.length mc, .int .i64 s.det, .int .i64 s.tool, .int .i64 s.at_] 32)
    have G5 := Lib.hid (below_step (below_step G3.out g) hb)
    have NS := Lib.hid (heap_alloc_new w4 (.cells #[.slice da s.dur.length dc, .slice ma s.mv.length mc, .int .i64 s.det, .int .i64 s.tool, .int .i64 s.at_] 32))
    have NP5 := Lib.hid (box_below (box_below NP.out g) hb)
    have S5 := Lib.hid ((S3.out.below g).below hb)
    have D5 := Lib.hid (ok.below hb)
    clear g CK c0 c1 c2 c3 c4 hb ok G3 NP S3 O3
    go_upto_region 6 with (fail)
    generalize w4.alloc (.cells #[.slice da s.dur.length dc, .slice ma s.mv.length mc, .int .i64 s.det, .int .i64 s.tool, .int .i64 s.at_] 32) = w5 at *
    generalize w4.heap.size = n9 at *
    have RN := run_ends ⟨P, sa, sc, wa, wc⟩ ⟨s, da, dc, ma, mc⟩ w5 S5.out D5.out
    rw [answer_of HPo.out] at RN
    have RN := Lib.hid RN
    have HPs := Lib.hid (Pl.possible_iff.2 HPo.out)
    generalize Pl.run P s = R at *
    have c0 := box_cell NP5.out 0 (.int .i64 P.entry) rfl
    have c1 := box_cell NP5.out 1 (.int .i64 P.mmin) rfl
    have c2 := box_cell NP5.out 2 (.int .i64 P.mmax) rfl
    have c3 := box_cell NP5.out 3 (.slice sa P.st.length sc) rfl
    have c4 := box_cell NP5.out 4 (.slice wa P.wn.length wc) rfl
    have k0 := box_cell NS.out 0 (.slice da s.dur.length dc) rfl
    have k1 := box_cell NS.out 1 (.slice ma s.mv.length mc) rfl
    have k2 := box_cell NS.out 2 (.int .i64 s.det) rfl
    have k3 := box_cell NS.out 3 (.int .i64 s.tool) rfl
    have k4 := box_cell NS.out 4 (.int .i64 s.at_) rfl
    go_wp2_with fail
    refine RN.out.mono ?_; rintro e w6 ⟨va, vc, rfl, -, g, -⟩
    clear c0 c1 c2 c3 c4 k0 k1 k2 k3 k4 RN
    have hb := below_new w6 (.cells #[.int .i64 R.kind, .int .i64 R.num] 38)
    have NL := Lib.hid (heap_alloc_new w6 (.cells #[.int .i64 R.kind, .int .i64 R.num] 38))
    have G7 := Lib.hid (below_step (below_step G5.out g) hb)
    have NS7 := Lib.hid (box_below (box_below NS.out g) hb)
    have NP7 := Lib.hid (box_below (box_below NP5.out g) hb)
    have S7 := Lib.hid ((S5.out.below g).below hb)
    have D7 := Lib.hid ((D5.out.below g).below hb)
    clear g hb NS NP5 S5 D5 G5
    go_upto_region 7 with (fail)
    generalize w6.alloc (.cells #[.int .i64 R.kind, .int .i64 R.num] 38) = w7 at *
    generalize w6.heap.size = n10 at *
    have PS := Possible_any ⟨P, sa, sc, wa, wc⟩ ⟨s, da, dc, ma, mc⟩ w7 S7.out D7.out
    rw [show Pl.possible P s = true from HPs.out] at PS
    have PS := Lib.hid PS
    have c0 := box_cell NP7.out 0 (.int .i64 P.entry) rfl
    have c1 := box_cell NP7.out 1 (.int .i64 P.mmin) rfl
    have c2 := box_cell NP7.out 2 (.int .i64 P.mmax) rfl
    have c3 := box_cell NP7.out 3 (.slice sa P.st.length sc) rfl
    have c4 := box_cell NP7.out 4 (.slice wa P.wn.length wc) rfl
    have k0 := box_cell NS7.out 0 (.slice da s.dur.length dc) rfl
    have k1 := box_cell NS7.out 1 (.slice ma s.mv.length mc) rfl
    have k2 := box_cell NS7.out 2 (.int .i64 s.det) rfl
    have k3 := box_cell NS7.out 3 (.int .i64 s.tool) rfl
    have k4 := box_cell NS7.out 4 (.int .i64 s.at_) rfl
    go_wp2_with fail
    refine PS.out.mono ?_; rintro e w8 ⟨rfl, g⟩
    have l0 := box_cell (box_below NL.out g) 0 (.int .i64 R.kind) rfl
    have n1 : (R.kind != 0) = true := by simpa using HKi.out
    have G8 := Lib.hid (below_step G7.out g)
    clear c0 c1 c2 c3 c4 k0 k1 k2 k3 k4 g PS
    go_wp2_with fail
    go_ret
    exact ⟨rfl, G8.out⟩
end Go.Proofs.YtihohjgjklcnlaaDoor

namespace Go.Proofs.YtihohjgjklcnlaaDoor
open Go.RowKit Go.Shelf
attribute [local go_sem] Oper.semAt_some
set_option maxRecDepth 100000 in
theorem lpick_any (c n : Int) (w : World) (hc : Fits c) (hn : 0 < n ∧ n ≤ 1000000000) : Calls Tryd.prog 16 #[.int .i64 c, .int .i64 n] w fun e w' => e = .returned (.int .i64 (pickZ c n)) ∧ w = w' := by
  obtain ⟨c1, c2⟩ := hc
  obtain ⟨n1, n2⟩ := hn
  have hne : ¬ n = 0 := by omega
  by_cases h : c < 0
  · have h0 : 0 ≤ -(c + 1) := by omega
    have E := Lib.hid (show pickZ c n = -((c + 1).tmod n) by unfold pickZ; rw [if_pos h, ← Int.neg_tmod, Int.tmod_eq_emod_of_nonneg h0])
    go_enter Tryd.func16, Tryd.ntmps16
    go_wp2
    go_ret
    exact ⟨ret_int E.out.symm, rfl⟩
  · have h0 : 0 ≤ c := by omega
    have E := Lib.hid (show pickZ c n = c % n by unfold pickZ; rw [if_neg h])
    go_enter Tryd.func16, Tryd.ntmps16
    go_wp2
    go_ret
    exact ⟨ret_int E.out.symm, rfl⟩
/-- The cells of a row of records, one after the other. -/
theorem RowA.news {α : Type} {f : α → List Value} {k : Nat} (hf : ∀ x, (f x).length = k) (hk : 0 < k) {w : World} {b off c : Nat} {L : List α} (h : RowA f k w (some ⟨b, off, none⟩) c L) : ∀ j u, (L.flatMap f)[j]? = some u → w.cell? ((⟨b, off, none⟩ : Addr).add j) = some u := by
  intro j u hu
  have hl : (L.flatMap f).length = L.length * k := by
    clear h hu
    induction L with
    | nil => simp
    | cons x L ih => rw [List.flatMap_cons, List.length_append, hf, ih, List.length_cons, Nat.succ_mul]; omega
  have hj : j < L.length * k := by rw [← hl]; exact (List.getElem?_eq_some_iff.1 hu).1
  have hi : j / k < L.length := Nat.div_lt_of_lt_mul (by rw [Nat.mul_comm]; exact hj)
  have hm : j % k < k := Nat.mod_lt _ hk
  have he : j / k * k + j % k = j := by rw [Nat.mul_comm]; exact Nat.div_add_mod j k
  have := flat_at f k hf L (j / k) (j % k) hi hm
  rw [he, hu] at this
  obtain ⟨b', o', e, -, hc⟩ := h.2.2 (j / k) hi
  injection e with e; injection e with e1 e2; subst e1; subst e2
  have h3 := hc (j % k) u this.symm
  rw [show off + j / k * k + j % k = off + j by omega] at h3
  rw [show (⟨b, off, none⟩ : Addr).add j = ⟨b, off + j, none⟩ from by simp [Addr.add]]
  exact h3
theorem one_of {α : Type} {f : α → List Value} (h : ∀ x, ∀ u ∈ f x, u.oneCell' = true) (L : List α) : ∀ u ∈ L.flatMap f, u.oneCell' = true := fun u hu => by
  obtain ⟨x, -, hx⟩ := List.mem_flatMap.1 hu
  exact h x u hx
theorem one_stage (x : Pl.Stage) : ∀ u ∈ stageCells x, u.oneCell' = true := by intro u hu; simp [stageCells] at hu; rcases hu with rfl | rfl | rfl | rfl | rfl | rfl <;> rfl
theorem one_win (x : Pl.Win) : ∀ u ∈ winCells x, u.oneCell' = true := by intro u hu; simp [winCells] at hu; rcases hu with rfl | rfl | rfl <;> rfl
theorem flat_len {α : Type} {f : α → List Value} {k : Nat} (hf : ∀ x, (f x).length = k) (L : List α) : (L.flatMap f).length = L.length * k := by
  induction L with
  | nil => simp
  | cons x L ih => rw [List.flatMap_cons, List.length_append, hf, ih, List.length_cons, Nat.succ_mul]; omega
theorem wapp_none (w : World) (g c : Nat) (a : Option Addr) (ty : TypeId) : (Builtin.append_ #[26, 26] ty #[.slice (some ⟨g, 0, none⟩) 0 0, .slice a 0 c]).run Tryd.prog w = .ok (.slice (some ⟨g, 0, none⟩) 0 0) w := by
  obtain ⟨i0, hi0, hz0, hz1, hz2⟩ := info_parts rl_info_W
  cases a with
  | none => simp [Builtin.append_, run_underlying Tryd.underlying26, sizeOf, typeInfo, hi0, Builtin.lenOf, run_firstCells_none, storeCells]
  | some a =>
    have hf := run_firstCells_some (P := Tryd.prog) (w := w) i0.size 0 a 0 c [] (by simp) (fun j v h => by simp at h)
    simp [Builtin.append_, run_underlying Tryd.underlying26, sizeOf, typeInfo, hi0, Builtin.lenOf, hf, storeCells]
set_option maxRecDepth 100000 in
set_option maxHeartbeats 600000 in
theorem few_any (p : Pl.Plan) (sa wa : Option Addr) (sc wc : Nat) (w : World) (h : PlanP.ok ⟨p, sa, sc, wa, wc⟩ w) (h1 : 1 ≤ p.st.length ∧ p.st.length ≤ 9) (h2 : p.wn.length ≤ 21) :
    Calls Tryd.prog 17 #[PlanP.val ⟨p, sa, sc, wa, wc⟩] w fun e w' => ∃ (g sd : Nat) (wb : Option Addr) (wd : Nat), e = .returned (PlanP.val ⟨p, some ⟨g, 0, none⟩, sd, wb, wd⟩) ∧ StO w' w.heap.size (.slice (some ⟨g, 0, none⟩) p.st.length sd) p.st ∧ WnO w' w.heap.size (.slice wb p.wn.length wd) p.wn ∧ Below w.heap.size w w' := by
  have hb1 := below_new w (planObj ⟨p, sa, sc, wa, wc⟩)
  have hb2 := below_new (w.alloc (planObj ⟨p, sa, sc, wa, wc⟩)) ow0
  have HQ := Lib.hid ((h.below hb1).below hb2)
  have H0 := Lib.hid h
  have BL := Lib.hid (below_step hb1 hb2)
  have A1 := Lib.hid (box_below (heap_alloc_new w (planObj ⟨p, sa, sc, wa, wc⟩)) hb2)
  have B1 := heap_alloc_new (w.alloc (planObj ⟨p, sa, sc, wa, wc⟩)) ow0
  rw [show (w.alloc (planObj ⟨p, sa, sc, wa, wc⟩)).heap.size = w.heap.size + 1 by simp] at B1
  have HR := Lib.hid B1
  clear B1 hb1 hb2 h
  obtain ⟨en, mi, ma, st, wn⟩ := p
  obtain ⟨h1, h1'⟩ := h1
  simp only at h1 h1' h2
  dsimp only [planObj, ow0] at HQ BL A1 HR
  obtain ⟨b1, o1, rfl, -, -⟩ := HQ.out.st.at (show 0 < st.length by omega)
  have hcs : st.length ≤ sc := HQ.out.st.1
  go_enter Tryd.func17, Tryd.ntmps17
  go_upto_region 1 with (fail)
  generalize (w.alloc (.cells #[.int .i64 en, .int .i64 mi, .int .i64 ma, .slice (some ⟨b1, o1, none⟩) st.length sc, .slice wa wn.length wc] 28)).alloc (.cells #[.int .i64 0, .int .i64 0, .int .i64 0, .slice none 0 0, .slice none 0 0] 28) = w1 at *
  have d3 := box_cell A1.out 3 (.slice (some ⟨b1, o1, none⟩) st.length sc) rfl
  have e1 : min (st.length : Int) 9 = (st.length : Int) := by omega
  have i0' : (0 : Int) ≤ (st.length : Int) := by omega
  have i1 : (st.length : Int) ≤ (sc : Int) := by omega
  have i2 : ((st.length : Int)).toNat = st.length := by omega
  obtain ⟨i0, hi0, hz0, hz1, hz2⟩ := info_parts rl_info_S
  have BA := Lib.hid (below_new w1 (.cells #[] 45))
  have HOwn := Lib.hid (show (w1.alloc (.cells #[] 45)).ownsRow w1.heap.size 45 6 (.slice (some ⟨w1.heap.size, 0, none⟩) 0 0) 0 [] from World.ownsRow_made w1 #[] 0 (Nat.le_refl _) (by decide) rfl)
  have d3' := box_cell (box_below A1.out BA.out) 3 (.slice (some ⟨b1, o1, none⟩) st.length sc) rfl
  have z3' := box_fz (box_below A1.out BA.out) 3
  have HNw := Lib.hid (RowA.news stage_len (by decide) (HQ.out.st.below BA.out))
  go_wp2_with (at_builtin; refine wpList_append_own _ rfl _ _ 25 rfl w1.heap.size 45 i0 _ 6 48 Tryd.underlying25 hi0 hz0 hz1 hz2 rfl (by decide) _ _ _ rfl HOwn.out ⟨b1, o1, none⟩ st.length sc (st.flatMap stageCells) rfl (flat_len stage_len st) HNw.out ?c2 ?c3 ?c4 ?c5 ?_)
  case c2 => intro u x _ hu; exact one_stage x u hu
  case c3 => unfold maxLen; omega
  case c4 => omega
  intro v' w2 hown' hgrow _
  obtain ⟨a', c', rfl, -, -, hform⟩ := own_slice hown'
  obtain ⟨g, rfl, -, -⟩ := hform h1
  have BF := Lib.hid (show Below w1.heap.size w1 w2 from BA.out.grown hgrow BA.out.size (fun b hb => (HOwn.out.lt b hb).1))
  have hp2 := box_below A1.out BF.out
  have SZ := Lib.hid (show w.heap.size + 1 < w1.heap.size from lt_of_block HR.out)
  have O3 := one_ch w2 w.heap.size 3 (.slice (some ⟨g, 0, none⟩) st.length c')
  have P3 := Lib.hid (show (w2.setCell ⟨w.heap.size, 3, none⟩ (.slice (some ⟨g, 0, none⟩) st.length c')).heap[w.heap.size]? = some (.cells #[.int .i64 en, .int .i64 mi, .int .i64 ma, .slice (some ⟨g, 0, none⟩) st.length c', .slice wa wn.length wc] 28) from block_set hp2 (o := 3) _)
  have R3 := Lib.hid ((O3.block _ (lt_of_block (box_below HR.out BF.out)) (by omega)).trans (box_below HR.out BF.out))
  have S3 := Lib.hid (show StO (w2.setCell ⟨w.heap.size, 3, none⟩ (.slice (some ⟨g, 0, none⟩) st.length c')) w1.heap.size (.slice (some ⟨g, 0, none⟩) st.length c') st from own_ch hown' O3 (fun i hi e => by have h1 := (hown'.lt i hi).1; have h2 := SZ.out; omega))
  have B3 := Lib.hid (show Below w.heap.size w (w2.setCell ⟨w.heap.size, 3, none⟩ (.slice (some ⟨g, 0, none⟩) st.length c')) from (BL.out.trans (BF.out.mono BL.out.size)).setCell (p := ⟨w.heap.size, 3, none⟩) (Nat.le_refl _) _)
  have k3 := box_cell hp2 3 (.slice (some ⟨b1, o1, none⟩) st.length sc) rfl
  have z3 := box_fz hp2 3
  have l3 := lt_of_block hp2
  have HW3 := Lib.hid (show Ch (fun k => k = w.heap.size) w1 (w2.setCell ⟨w.heap.size, 3, none⟩ (.slice (some ⟨g, 0, none⟩) st.length c')) from (Ch.ofBelow BF.out).trans O3 (fun _ _ e => e))
  have H0w := Lib.hid (H0.out.wn.below B3.out)
  clear hown' hgrow HOwn HNw d3 d3' z3' hp2 O3 BA e1 i0' i1 i2 hform
  go_upto_region 2 with (fail)
  clear k3 z3 l3
  generalize w2.setCell ⟨w.heap.size, 3, none⟩ (.slice (some ⟨g, 0, none⟩) st.length c') = w3 at *
  obtain ⟨j0, hj0, hy0, hy1, hy2⟩ := info_parts rl_info_W
  have BA := Lib.hid (below_new w3 (.cells #[] 49))
  have HOwn := Lib.hid (show (w3.alloc (.cells #[] 49)).ownsRow w3.heap.size 49 3 (.slice (some ⟨w3.heap.size, 0, none⟩) 0 0) 0 [] from World.ownsRow_made w3 #[] 0 (Nat.le_refl _) (by decide) rfl)
  have d4 := box_cell P3.out 4 (.slice wa wn.length wc) rfl
  have d4' := box_cell (box_below P3.out BA.out) 4 (.slice wa wn.length wc) rfl
  have hcw : wn.length ≤ wc := H0w.out.1
  have e1 : min (wn.length : Int) 21 = (wn.length : Int) := by omega
  have i0' : (0 : Int) ≤ (wn.length : Int) := by omega
  have i1 : (wn.length : Int) ≤ (wc : Int) := by omega
  have i2 : ((wn.length : Int)).toNat = wn.length := by omega
  by_cases hw0 : wn.length = 0
  · have hwnil : wn = [] := List.length_eq_zero_iff.1 hw0
    subst hwnil
    clear hw0
    have hap := wapp_none
    have e0 : min (0 : Int) 21 = 0 := by decide
    have BW := BA.out
    have hp4 := box_below P3.out BW
    have hrow : WnO (w3.alloc (.cells #[] 49)) w3.heap.size (.slice (some ⟨w3.heap.size, 0, none⟩) 0 0) [] := HOwn.out
    cases wa with
    | none =>
      have P5 := Lib.hid (show ((w3.alloc (.cells #[] 49)).setCell ⟨w.heap.size, 4, none⟩ (.slice (some ⟨w3.heap.size, 0, none⟩) 0 0)).heap[w.heap.size]? = some (.cells #[.int .i64 en, .int .i64 mi, .int .i64 ma, .slice (some ⟨g, 0, none⟩) st.length c', .slice (some ⟨w3.heap.size, 0, none⟩) 0 0] 28) from block_set hp4 (o := 4) _)
      have O5 := one_ch (w3.alloc (.cells #[] 49)) w.heap.size 4 (.slice (some ⟨w3.heap.size, 0, none⟩) 0 0)
      have R5 := Lib.hid ((O5.block _ (lt_of_block (box_below R3.out BW)) (by omega)).trans (box_below R3.out BW))
      have S5 := Lib.hid (show StO ((w3.alloc (.cells #[] 49)).setCell ⟨w.heap.size, 4, none⟩ (.slice (some ⟨w3.heap.size, 0, none⟩) 0 0)) w1.heap.size (.slice (some ⟨g, 0, none⟩) st.length c') st from own_ch (RowO.below S3.out BW) O5 (fun i hi e => by have h1 := (S3.out.lt i hi).1; have h2 := SZ.out; omega))
      have W5 := Lib.hid (show WnO ((w3.alloc (.cells #[] 49)).setCell ⟨w.heap.size, 4, none⟩ (.slice (some ⟨w3.heap.size, 0, none⟩) 0 0)) w3.heap.size (.slice (some ⟨w3.heap.size, 0, none⟩) 0 0) [] from own_ch hrow O5 (fun i hi e => by have h1 := (hrow.lt i hi).1; have h2 := lt_of_block P3.out; omega))
      have B5 := Lib.hid (show Below w.heap.size w ((w3.alloc (.cells #[] 49)).setCell ⟨w.heap.size, 4, none⟩ (.slice (some ⟨w3.heap.size, 0, none⟩) 0 0)) from (B3.out.trans (BW.mono B3.out.size)).setCell (p := ⟨w.heap.size, 4, none⟩) (Nat.le_refl _) _)
      have k4 := box_cell hp4 4 (.slice none 0 wc) rfl
      have z4 := box_fz hp4 4
      have l4 := lt_of_block hp4
      clear hp4 O5 hrow BW d4 d4' e1 i0' i1 i2
      go_upto_region 3 with (fail)
      clear k4 z4 l4
      generalize (w3.alloc (.cells #[] 49)).setCell ⟨w.heap.size, 4, none⟩ (.slice (some ⟨w3.heap.size, 0, none⟩) 0 0) = w5 at *
      have hle3 : w1.heap.size ≤ w3.heap.size := HW3.out.size
      clear BA HOwn HW3 hap H0w P3 R3 S3 B3
      generalize w3.heap.size = gw at *
      have c0 := box_cell P5.out 0 (.int .i64 en) rfl
      have c1 := box_cell P5.out 1 (.int .i64 mi) rfl
      have c2 := box_cell P5.out 2 (.int .i64 ma) rfl
      have c3 := box_cell P5.out 3 (.slice (some ⟨g, 0, none⟩) st.length c') rfl
      have c4 := box_cell P5.out 4 (.slice (some ⟨gw, 0, none⟩) 0 0) rfl
      have r0 := box_cell R5.out 0 (.int .i64 0) rfl
      have r1 := box_cell R5.out 1 (.int .i64 0) rfl
      have r2 := box_cell R5.out 2 (.int .i64 0) rfl
      have r3 := box_cell R5.out 3 (.slice none 0 0) rfl
      have r4 := box_cell R5.out 4 (.slice none 0 0) rfl
      have z := fun i => box_fz R5.out i
      have z0 := z 0; have z1 := z 1; have z2 := z 2; have z3 := z 3; have z4 := z 4
      have hlr := lt_of_block R5.out
      obtain ⟨P6, O6⟩ := put5 R5.out (.int .i64 en) (.int .i64 mi) (.int .i64 ma) (.slice (some ⟨g, 0, none⟩) st.length c') (.slice (some ⟨gw, 0, none⟩) 0 0)
      have P6 := Lib.hid P6
      have FS := Lib.hid (show StO _ w.heap.size (.slice (some ⟨g, 0, none⟩) st.length c') st from RowO.mono (own_ch S5.out O6 (fun i hi e => by have h1 := (S5.out.lt i hi).1; have h2 := SZ.out; omega)) (by have := SZ.out; omega))
      have FW := Lib.hid (show WnO _ w.heap.size (.slice (some ⟨gw, 0, none⟩) 0 0) [] from RowO.mono (own_ch W5.out O6 (fun i hi e => by have h1 := (W5.out.lt i hi).1; have h2 := SZ.out; omega)) (by have := SZ.out; omega))
      have FB := Lib.hid (B5.out.trans (O6.below (B := w.heap.size) B5.out.size (fun i e => by omega)))
      clear z O6
      go_wp2_with fail
      clear c0 c1 c2 c3 c4 r0 r1 r2 r3 r4 z0 z1 z2 z3 z4 hlr
      generalize ((((w5.setCell ⟨w.heap.size + 1, 0, none⟩ (.int .i64 en)).setCell ⟨w.heap.size + 1, 1, none⟩ (.int .i64 mi)).setCell ⟨w.heap.size + 1, 2, none⟩ (.int .i64 ma)).setCell ⟨w.heap.size + 1, 3, none⟩ (.slice (some ⟨g, 0, none⟩) st.length c')).setCell ⟨w.heap.size + 1, 4, none⟩ (.slice (some ⟨gw, 0, none⟩) 0 0) = we at *
      have r0 := box_cell P6.out 0 (.int .i64 en) rfl
      have r1 := box_cell P6.out 1 (.int .i64 mi) rfl
      have r2 := box_cell P6.out 2 (.int .i64 ma) rfl
      have r3 := box_cell P6.out 3 (.slice (some ⟨g, 0, none⟩) st.length c') rfl
      have r4 := box_cell P6.out 4 (.slice (some ⟨gw, 0, none⟩) 0 0) rfl
      refine bodyPost_ret (v := .agg #[.int .i64 en, .int .i64 mi, .int .i64 ma, .slice (some ⟨g, 0, none⟩) st.length c', .slice (some ⟨gw, 0, none⟩) 0 0]) (by simp [results, Tryd.results17, go_sem, r0, r1, r2, r3, r4]) rfl ?_
      exact ⟨g, c', _, _, rfl, FS.out, FW.out, FB.out⟩
    | some a9 =>
      have P5 := Lib.hid (show ((w3.alloc (.cells #[] 49)).setCell ⟨w.heap.size, 4, none⟩ (.slice (some ⟨w3.heap.size, 0, none⟩) 0 0)).heap[w.heap.size]? = some (.cells #[.int .i64 en, .int .i64 mi, .int .i64 ma, .slice (some ⟨g, 0, none⟩) st.length c', .slice (some ⟨w3.heap.size, 0, none⟩) 0 0] 28) from block_set hp4 (o := 4) _)
      have O5 := one_ch (w3.alloc (.cells #[] 49)) w.heap.size 4 (.slice (some ⟨w3.heap.size, 0, none⟩) 0 0)
      have R5 := Lib.hid ((O5.block _ (lt_of_block (box_below R3.out BW)) (by omega)).trans (box_below R3.out BW))
      have S5 := Lib.hid (show StO ((w3.alloc (.cells #[] 49)).setCell ⟨w.heap.size, 4, none⟩ (.slice (some ⟨w3.heap.size, 0, none⟩) 0 0)) w1.heap.size (.slice (some ⟨g, 0, none⟩) st.length c') st from own_ch (RowO.below S3.out BW) O5 (fun i hi e => by have h1 := (S3.out.lt i hi).1; have h2 := SZ.out; omega))
      have W5 := Lib.hid (show WnO ((w3.alloc (.cells #[] 49)).setCell ⟨w.heap.size, 4, none⟩ (.slice (some ⟨w3.heap.size, 0, none⟩) 0 0)) w3.heap.size (.slice (some ⟨w3.heap.size, 0, none⟩) 0 0) [] from own_ch hrow O5 (fun i hi e => by have h1 := (hrow.lt i hi).1; have h2 := lt_of_block P3.out; omega))
      have B5 := Lib.hid (show Below w.heap.size w ((w3.alloc (.cells #[] 49)).setCell ⟨w.heap.size, 4, none⟩ (.slice (some ⟨w3.heap.size, 0, none⟩) 0 0)) from (B3.out.trans (BW.mono B3.out.size)).setCell (p := ⟨w.heap.size, 4, none⟩) (Nat.le_refl _) _)
      have k4 := box_cell hp4 4 (.slice (some a9) 0 wc) rfl
      have z4 := box_fz hp4 4
      have l4 := lt_of_block hp4
      clear hp4 O5 hrow BW d4 d4' e1 i0' i1 i2
      go_upto_region 3 with (fail)
      clear k4 z4 l4
      generalize (w3.alloc (.cells #[] 49)).setCell ⟨w.heap.size, 4, none⟩ (.slice (some ⟨w3.heap.size, 0, none⟩) 0 0) = w5 at *
      have hle3 : w1.heap.size ≤ w3.heap.size := HW3.out.size
      clear BA HOwn HW3 hap H0w P3 R3 S3 B3
      generalize w3.heap.size = gw at *
      have c0 := box_cell P5.out 0 (.int .i64 en) rfl
      have c1 := box_cell P5.out 1 (.int .i64 mi) rfl
      have c2 := box_cell P5.out 2 (.int .i64 ma) rfl
      have c3 := box_cell P5.out 3 (.slice (some ⟨g, 0, none⟩) st.length c') rfl
      have c4 := box_cell P5.out 4 (.slice (some ⟨gw, 0, none⟩) 0 0) rfl
      have r0 := box_cell R5.out 0 (.int .i64 0) rfl
      have r1 := box_cell R5.out 1 (.int .i64 0) rfl
      have r2 := box_cell R5.out 2 (.int .i64 0) rfl
      have r3 := box_cell R5.out 3 (.slice none 0 0) rfl
      have r4 := box_cell R5.out 4 (.slice none 0 0) rfl
      have z := fun i => box_fz R5.out i
      have z0 := z 0; have z1 := z 1; have z2 := z 2; have z3 := z 3; have z4 := z 4
      have hlr := lt_of_block R5.out
      obtain ⟨P6, O6⟩ := put5 R5.out (.int .i64 en) (.int .i64 mi) (.int .i64 ma) (.slice (some ⟨g, 0, none⟩) st.length c') (.slice (some ⟨gw, 0, none⟩) 0 0)
      have P6 := Lib.hid P6
      have FS := Lib.hid (show StO _ w.heap.size (.slice (some ⟨g, 0, none⟩) st.length c') st from RowO.mono (own_ch S5.out O6 (fun i hi e => by have h1 := (S5.out.lt i hi).1; have h2 := SZ.out; omega)) (by have := SZ.out; omega))
      have FW := Lib.hid (show WnO _ w.heap.size (.slice (some ⟨gw, 0, none⟩) 0 0) [] from RowO.mono (own_ch W5.out O6 (fun i hi e => by have h1 := (W5.out.lt i hi).1; have h2 := SZ.out; omega)) (by have := SZ.out; omega))
      have FB := Lib.hid (B5.out.trans (O6.below (B := w.heap.size) B5.out.size (fun i e => by omega)))
      clear z O6
      go_wp2_with fail
      clear c0 c1 c2 c3 c4 r0 r1 r2 r3 r4 z0 z1 z2 z3 z4 hlr
      generalize ((((w5.setCell ⟨w.heap.size + 1, 0, none⟩ (.int .i64 en)).setCell ⟨w.heap.size + 1, 1, none⟩ (.int .i64 mi)).setCell ⟨w.heap.size + 1, 2, none⟩ (.int .i64 ma)).setCell ⟨w.heap.size + 1, 3, none⟩ (.slice (some ⟨g, 0, none⟩) st.length c')).setCell ⟨w.heap.size + 1, 4, none⟩ (.slice (some ⟨gw, 0, none⟩) 0 0) = we at *
      have r0 := box_cell P6.out 0 (.int .i64 en) rfl
      have r1 := box_cell P6.out 1 (.int .i64 mi) rfl
      have r2 := box_cell P6.out 2 (.int .i64 ma) rfl
      have r3 := box_cell P6.out 3 (.slice (some ⟨g, 0, none⟩) st.length c') rfl
      have r4 := box_cell P6.out 4 (.slice (some ⟨gw, 0, none⟩) 0 0) rfl
      refine bodyPost_ret (v := .agg #[.int .i64 en, .int .i64 mi, .int .i64 ma, .slice (some ⟨g, 0, none⟩) st.length c', .slice (some ⟨gw, 0, none⟩) 0 0]) (by simp [results, Tryd.results17, go_sem, r0, r1, r2, r3, r4]) rfl ?_
      exact ⟨g, c', _, _, rfl, FS.out, FW.out, FB.out⟩
  · obtain ⟨b2, o2, rfl, -, -⟩ := H0w.out.at (show 0 < wn.length by omega)
    have HNw := Lib.hid (RowA.news win_len (by decide) (H0w.out.below BA.out))
    have hw1 : 0 < wn.length := by omega
    clear hw0
    go_wp2_with (at_builtin; refine wpList_append_own _ rfl _ _ 26 rfl w3.heap.size 49 j0 _ 3 24 Tryd.underlying26 hj0 hy0 hy1 hy2 rfl (by decide) _ _ _ rfl HOwn.out ⟨b2, o2, none⟩ wn.length wc (wn.flatMap winCells) rfl (flat_len win_len wn) HNw.out ?e2 ?e3 ?e4 ?e5 ?_)
    case e2 => intro u x _ hu; exact one_win x u hu
    case e3 => unfold maxLen; omega
    case e4 => omega
    intro v' w4 hrow hgrow _
    obtain ⟨a2, d', rfl, -⟩ := own_slice hrow
    have BW : Below w3.heap.size w3 w4 := BA.out.grown hgrow BA.out.size (fun b hb => (HOwn.out.lt b hb).1)
    have hp4 := box_below P3.out BW
    clear hgrow HOwn HNw
    have P5 := Lib.hid (show (w4.setCell ⟨w.heap.size, 4, none⟩ (.slice a2 wn.length d')).heap[w.heap.size]? = some (.cells #[.int .i64 en, .int .i64 mi, .int .i64 ma, .slice (some ⟨g, 0, none⟩) st.length c', .slice a2 wn.length d'] 28) from block_set hp4 (o := 4) _)
    have O5 := one_ch w4 w.heap.size 4 (.slice a2 wn.length d')
    have R5 := Lib.hid ((O5.block _ (lt_of_block (box_below R3.out BW)) (by omega)).trans (box_below R3.out BW))
    have S5 := Lib.hid (show StO (w4.setCell ⟨w.heap.size, 4, none⟩ (.slice a2 wn.length d')) w1.heap.size (.slice (some ⟨g, 0, none⟩) st.length c') st from own_ch (RowO.below S3.out BW) O5 (fun i hi e => by have h1 := (S3.out.lt i hi).1; have h2 := SZ.out; omega))
    have W5 := Lib.hid (show WnO (w4.setCell ⟨w.heap.size, 4, none⟩ (.slice a2 wn.length d')) w3.heap.size (.slice a2 wn.length d') wn from own_ch hrow O5 (fun i hi e => by have h1 := (hrow.lt i hi).1; have h2 := lt_of_block P3.out; omega))
    have B5 := Lib.hid (show Below w.heap.size w (w4.setCell ⟨w.heap.size, 4, none⟩ (.slice a2 wn.length d')) from (B3.out.trans (BW.mono B3.out.size)).setCell (p := ⟨w.heap.size, 4, none⟩) (Nat.le_refl _) _)
    have k4 := box_cell hp4 4 (.slice (some ⟨b2, o2, none⟩) wn.length wc) rfl
    have z4 := box_fz hp4 4
    have l4 := lt_of_block hp4
    clear hp4 O5 hrow BW d4 d4' e1 i0' i1 i2
    go_upto_region 3 with (fail)
    clear k4 z4 l4
    generalize w4.setCell ⟨w.heap.size, 4, none⟩ (.slice a2 wn.length d') = w5 at *
    have c0 := box_cell P5.out 0 (.int .i64 en) rfl
    have c1 := box_cell P5.out 1 (.int .i64 mi) rfl
    have c2 := box_cell P5.out 2 (.int .i64 ma) rfl
    have c3 := box_cell P5.out 3 (.slice (some ⟨g, 0, none⟩) st.length c') rfl
    have c4 := box_cell P5.out 4 (.slice a2 wn.length d') rfl
    have r0 := box_cell R5.out 0 (.int .i64 0) rfl
    have r1 := box_cell R5.out 1 (.int .i64 0) rfl
    have r2 := box_cell R5.out 2 (.int .i64 0) rfl
    have r3 := box_cell R5.out 3 (.slice none 0 0) rfl
    have r4 := box_cell R5.out 4 (.slice none 0 0) rfl
    have z := fun i => box_fz R5.out i
    have z0 := z 0; have z1 := z 1; have z2 := z 2; have z3 := z 3; have z4 := z 4
    have hlr := lt_of_block R5.out
    obtain ⟨P6, O6⟩ := put5 R5.out (.int .i64 en) (.int .i64 mi) (.int .i64 ma) (.slice (some ⟨g, 0, none⟩) st.length c') (.slice a2 wn.length d')
    have P6 := Lib.hid P6
    have hle3 : w1.heap.size ≤ w3.heap.size := HW3.out.size
    have FS := Lib.hid (show StO _ w.heap.size (.slice (some ⟨g, 0, none⟩) st.length c') st from RowO.mono (own_ch S5.out O6 (fun i hi e => by have h1 := (S5.out.lt i hi).1; have h2 := SZ.out; omega)) (by have := SZ.out; omega))
    have FW := Lib.hid (show WnO _ w.heap.size (.slice a2 wn.length d') wn from RowO.mono (own_ch W5.out O6 (fun i hi e => by have h1 := (W5.out.lt i hi).1; have h2 := SZ.out; omega)) (by have := SZ.out; omega))
    have FB := Lib.hid (B5.out.trans (O6.below (B := w.heap.size) B5.out.size (fun i e => by omega)))
    clear z O6
    go_wp2_with fail
    clear c0 c1 c2 c3 c4 r0 r1 r2 r3 r4 z0 z1 z2 z3 z4 hlr
    generalize ((((w5.setCell ⟨w.heap.size + 1, 0, none⟩ (.int .i64 en)).setCell ⟨w.heap.size + 1, 1, none⟩ (.int .i64 mi)).setCell ⟨w.heap.size + 1, 2, none⟩ (.int .i64 ma)).setCell ⟨w.heap.size + 1, 3, none⟩ (.slice (some ⟨g, 0, none⟩) st.length c')).setCell ⟨w.heap.size + 1, 4, none⟩ (.slice a2 wn.length d') = we at *
    have r0 := box_cell P6.out 0 (.int .i64 en) rfl
    have r1 := box_cell P6.out 1 (.int .i64 mi) rfl
    have r2 := box_cell P6.out 2 (.int .i64 ma) rfl
    have r3 := box_cell P6.out 3 (.slice (some ⟨g, 0, none⟩) st.length c') rfl
    have r4 := box_cell P6.out 4 (.slice a2 wn.length d') rfl
    refine bodyPost_ret (v := .agg #[.int .i64 en, .int .i64 mi, .int .i64 ma, .slice (some ⟨g, 0, none⟩) st.length c', .slice a2 wn.length d']) (by simp [results, Tryd.results17, go_sem, r0, r1, r2, r3, r4]) rfl ?_
    exact ⟨g, c', _, _, rfl, FS.out, FW.out, FB.out⟩
end Go.Proofs.YtihohjgjklcnlaaDoor

namespace Go.Proofs.YtihohjgjklcnlaaDoor
open Go.RowKit
/-- Block B holds the bytes L, and may be written. -/
def RowIs (W : World) (B : Nat) (L : List UInt8) : Prop :=
  B < W.heap.size ∧ (∀ i (h : i < L.length), W.cell? ⟨B, i, none⟩ = some (.int .u8 ((L[i].toNat : Nat) : Int))) ∧ ∀ i, i < L.length → W.frozen? ⟨B, i, none⟩ = false
theorem RowIs.set {W : World} {B : Nat} {L : List UInt8} (h : RowIs W B L) {k : Nat} (hk : k < L.length) (v : UInt8) : RowIs (W.setCell ⟨B, k, none⟩ (.int .u8 ((v.toNat : Nat) : Int))) B (L.set k v) := by
  refine ⟨by simpa using h.1, ?_, ?_⟩
  · intro i hi
    have hi' : i < L.length := by simpa using hi
    by_cases e : k = i
    · subst e
      rw [World.cell?_setCell_same' _ _ _ (by rw [h.2.1 k hk]; rfl)]
      simp
    · have hn := h.2.1 i hi'
      rw [List.getElem_set_ne e]
      rw [World.cell?_setCell_other]
      · exact hn
      · intro c; cases c; exact e rfl
  · intro i hi
    have hi' : i < L.length := by simpa using hi
    rw [World.frozen?_setCell]
    exact h.2.2 i hi'
theorem RowIs.take {W : World} {B : Nat} {L : List UInt8} (h : RowIs W B L) (n : Nat) : RowIs W B (L.take n) :=
  ⟨h.1, fun i hi => by rw [List.length_take] at hi; rw [h.2.1 i (by omega), List.getElem_take], fun i hi => by rw [List.length_take] at hi; exact h.2.2 i (by omega)⟩
theorem RowIs.below {W W' : World} {B : Nat} {L : List UInt8} (h : RowIs W B L) (hb : Below W.heap.size W W') : RowIs W' B L :=
  ⟨Nat.lt_of_lt_of_le h.1 hb.size, fun i hi => (World.cell?_of_block (a := ⟨B, i, none⟩) (hb.block B h.1)).trans (h.2.1 i hi), fun i hi => by
    have := h.2.2 i hi
    unfold World.frozen? at this ⊢
    rw [hb.block B h.1]; exact this⟩
/-- 'string(x)' of a row. -/
theorem RowIs.string {W : World} {B : Nat} {L : List UInt8} (h : RowIs W B L) (cap : Nat) :
    (convert 65 9 (.slice (some ⟨B, 0, none⟩) L.length cap)).run Tryd.prog W = .ok (.string ⟨L.toArray⟩) W :=
  run_convert_bytes_back W 65 9 5 ⟨B, 0, none⟩ cap L Tryd.underlying65 Tryd.underlying5 Tryd.underlying9 (fun j hj => by
    have := h.2.1 j hj
    cases j <;> simpa [Addr.add] using this)
/-- '[]byte(s)' lays a row of s's bytes. -/
theorem RowIs.ofString (w : World) (s : ByteArray) : ∃ (cap : Nat) (w' : World), (convert 9 65 (.string s)).run Tryd.prog w = .ok (.slice (some ⟨w.heap.size, 0, none⟩) s.size cap) w' ∧
    RowIs w' w.heap.size s.data.toList ∧ Below w.heap.size w w' ∧ s.size ≤ cap := by
  refine ⟨_, _, run_bytes_of_string w 9 65 5 s Tryd.underlying9 Tryd.underlying65 Tryd.underlying5, ⟨?_, ?_, ?_⟩, ?_, ?_⟩
  · simp
  · intro i hi
    have hi' : i < s.data.size := by simpa using hi
    have e := World.cell?_alloc_mark w.drew (bytesRow s (grownCap w s.size 0 5)) 5 ((bytesRow s (grownCap w s.size 0 5)).size, (bytesRow s (grownCap w s.size 0 5)).size + 1) i
    have hz : w.drew.heap.size = w.heap.size := rfl
    rw [hz] at e
    rw [e, bytesRow_at s _ i hi']
    simp
  · intro i hi
    have hi' : i < s.data.size := by simpa using hi
    have e := World.frozen?_alloc_mark w.drew (bytesRow s (grownCap w s.size 0 5)) 5 (bytesRow s (grownCap w s.size 0 5)).size ((bytesRow s (grownCap w s.size 0 5)).size + 1) i
    have hz : w.drew.heap.size = w.heap.size := rfl
    rw [hz] at e
    have hb : i < (bytesRow s (grownCap w s.size 0 5)).size := by
      have := bytesRow_at s (grownCap w s.size 0 5) i hi'
      exact (Array.getElem?_eq_some_iff.1 this).1
    rw [e]
    have : ¬ (bytesRow s (grownCap w s.size 0 5)).size ≤ i := by omega
    simp [this]
  · exact ((Below.refl _ w).drew).alloc (Nat.le_refl _) _
  · exact grownCap_ge w s.size 0 5
end Go.Proofs.YtihohjgjklcnlaaDoor

namespace Go.Proofs.YtihohjgjklcnlaaDoor
open Go.RowKit Go.Shelf
theorem cert_len (p : Pl.Plan) : (certB p).data.toList.length = (planB p).length + 32 := by
  rw [certB_list, List.length_append]
  have := Wb.Sha.shaS_size (bs (planB p))
  have e : (Wb.Sha.shaS (bs (planB p))).data.toList.length = (Wb.Sha.shaS (bs (planB p))).size := by simp
  omega
theorem bs_inj {a b : List UInt8} (h : bs a = bs b) : a = b := by
  have := congrArg (fun s : ByteArray => s.data.toList) h
  exact this
/-- A certificate in which a byte is changed, and that is opened all the same. -/
theorem tamper {p : Pl.Plan} {n k : Nat} {c : UInt8} {q : Pl.Plan} (hn : (certB p).data.toList.length = n + 32) (ho : openR (bs ((certB p).data.toList.set k c)) = .ok q) :
    bs ((certB p).data.toList.set k c) = certB p ∨ ((certB p).data.toList.take n ≠ ((certB p).data.toList.set k c).take n ∧ Wb.Sha.shaS (bs ((certB p).data.toList.take n)) = Wb.Sha.shaS (bs (((certB p).data.toList.set k c).take n))) := by
  obtain ⟨hq, e⟩ := open_ok ho
  have hp := cert_len p
  have hpn : (planB p).length = n := by omega
  have e1 : (certB p).data.toList.set k c = planB q ++ (Wb.Sha.shaS (bs (planB q))).data.toList := by
    rw [← certB_list, e]
  have hqn : (planB q).length = n := by
    have h1 := cert_len q
    rw [certB_list, ← e1, List.length_set] at h1
    omega
  have t1 : (certB p).data.toList.take n = planB p := by rw [certB_list, ← hpn, List.take_left]
  have t2 : ((certB p).data.toList.set k c).take n = planB q := by rw [e1, ← hqn, List.take_left]
  have d1 : (certB p).data.toList.drop n = (Wb.Sha.shaS (bs (planB p))).data.toList := by rw [certB_list, ← hpn, List.drop_left]
  have d2 : ((certB p).data.toList.set k c).drop n = (Wb.Sha.shaS (bs (planB q))).data.toList := by rw [e1, ← hqn, List.drop_left]
  by_cases hpq : planB p = planB q
  · left
    rw [e1, ← hpq, ← certB_list, bs_of]
  · right
    rw [t1, t2]
    refine ⟨hpq, ?_⟩
    have hk : k < n := by
      by_cases hk : k < n
      · exact hk
      · exfalso
        apply hpq
        rw [← t1, ← t2, List.take_set, List.set_eq_of_length_le (by rw [List.length_take]; omega)]
    have : (Wb.Sha.shaS (bs (planB p))).data.toList = (Wb.Sha.shaS (bs (planB q))).data.toList := by
      rw [← d1, ← d2, List.drop_set, if_pos hk]
    rw [← bs_of (Wb.Sha.shaS (bs (planB p))), this, bs_of]
/-- A certificate that is cut is refused. -/
theorem cut_no {p : Pl.Plan} (hp : (Pl.checkR p).2 = true) {k : Nat} (hk : k < (certB p).data.toList.length) {q : Pl.Plan} : openR (bs ((certB p).data.toList.take k)) ≠ .ok q := by
  intro ho
  obtain ⟨hq, e⟩ := open_ok ho
  obtain ⟨vp, -⟩ := Pl.safe_true hp
  obtain ⟨vq, -⟩ := Pl.safe_true hq
  have e1 : (certB p).data.toList.take k = planB q ++ (Wb.Sha.shaS (bs (planB q))).data.toList := by rw [← certB_list, e]
  have r1 := rdPlan_put (nums_in vp) vp.len vp.wlen (Wb.Sha.shaS (bs (planB p))).data.toList
  have r2 := rdPlan_put (nums_in vq) vq.len vq.wlen ((Wb.Sha.shaS (bs (planB q))).data.toList ++ (certB p).data.toList.drop k)
  rw [← List.append_assoc, ← e1, List.take_append_drop, certB_list, r1] at r2
  injection r2 with r2
  injection r2 with r2 _
  have h1 := congrArg List.length e1
  have h2 := cert_len q
  rw [certB_list, ← e1] at h2
  rw [List.length_take] at h2
  have h3 := cert_len p
  rw [r2] at h3
  rw [r2] at hk h2
  omega
end Go.Proofs.YtihohjgjklcnlaaDoor

namespace Go.Proofs.YtihohjgjklcnlaaDoor
open Go.RowKit Go.Shelf
attribute [local go_sem] Oper.semAt_some
theorem seal_is (q : PlanP) (w : World) (h : q.ok w) (ht : Wb.Tab w) {s : Pl.Scen} {b : Bool} (hR : Pl.checkR q.p = (s, b)) : Calls Tryd.prog 20 #[q.val] w fun e w' => e = .returned (.tuple #[.string (if b = true then certB q.p else bs []), .int .i64 (if b = true then 0 else 90)]) ∧ Below w.heap.size w w' := by
  refine (Seal_any q w h ht).mono fun e w' ⟨g, h3, h4⟩ => ⟨?_, g⟩
  cases b with
  | true => exact h3 (by rw [hR])
  | false => exact h4 (by rw [hR])
theorem open_some (s : ByteArray) (w : World) (hs : s.size ≤ 2000) (ht : Wb.Tab w) {p : Pl.Plan} (h : openR s = .ok p) : Calls Tryd.prog 21 #[.string s] w fun e w' => (∃ sa sc wa wc, e = .returned (.tuple #[.agg #[.int .i64 p.entry, .int .i64 p.mmin, .int .i64 p.mmax, .slice sa p.st.length sc, .slice wa p.wn.length wc], .int .i64 0]) ∧ PlanP.ok ⟨p, sa, sc, wa, wc⟩ w') ∧ Below w.heap.size w w' := by
  have := Open_any s w hs ht
  rw [h] at this
  exact this
theorem open_none (s : ByteArray) (w : World) (hs : s.size ≤ 2000) (ht : Wb.Tab w) {n : Int} (h : openR s = .error n) : Calls Tryd.prog 21 #[.string s] w fun e w' => e = .returned (.tuple #[.agg #[.int .i64 0, .int .i64 0, .int .i64 0, .slice none 0 0, .slice none 0 0], .int .i64 n]) ∧ Below w.heap.size w w' := by
  have := Open_any s w hs ht
  rw [h] at this
  exact this
/-- What Open answers for any string: its error, and all old memory kept. -/
theorem open_code (s : ByteArray) (w : World) (hs : s.size ≤ 2000) (ht : Wb.Tab w) : Calls Tryd.prog 21 #[.string s] w fun e w' => (∃ (n a b c : Int) (sa : Option Addr) (sl sc : Nat) (wa : Option Addr) (wl wc : Nat), e = .returned (.tuple #[.agg #[.int .i64 a, .int .i64 b, .int .i64 c, .slice sa sl sc, .slice wa wl wc], .int .i64 n]) ∧ ((n = 0 ∧ ∃ q, openR s = .ok q) ∨ (n ≠ 0 ∧ openR s = .error n))) ∧ Below w.heap.size w w' := by
  cases h : openR s with
  | ok p => exact (open_some s w hs ht h).mono fun e w' ⟨⟨sa, sc, wa, wc, h1, _⟩, g⟩ => ⟨⟨0, _, _, _, sa, _, sc, wa, _, wc, h1, .inl ⟨rfl, p, rfl⟩⟩, g⟩
  | error n => exact (open_none s w hs ht h).mono fun e w' ⟨h1, g⟩ => ⟨⟨n, 0, 0, 0, none, 0, 0, none, 0, 0, h1, .inr ⟨openR_err h, rfl⟩⟩, g⟩
theorem cut300 (s : ByteArray) : (s.extract 0 (min (s.size : Int) 300).toNat).size ≤ 300 := by rw [ByteArray.size_extract]; omega
theorem bs_extract (s : ByteArray) (k : Nat) : s.extract 0 k = bs (s.data.toList.take k) := by rw [← bs_of (s.extract 0 k), Lib.extract_data]; simp
theorem blen (s : ByteArray) : s.data.toList.length = s.size := by simp
theorem cert_size {p : Pl.Plan} (hv : Pl.Valid p) : (certB p).size ≤ 2000 := by
  rw [← blen, cert_len]; have := planB_len hv; omega
theorem u8_of {c : Int} (h0 : 0 ≤ c) (h1 : c ≤ 255) : ∃ cb : UInt8, c = ((cb.toNat : Nat) : Int) := ⟨UInt8.ofNat c.toNat, by rw [UInt8.toNat_ofNat']; omega⟩
theorem RowIs.drewN {W : World} {B : Nat} {L : List UInt8} (h : RowIs W B L) (m : Nat) : RowIs (W.drewN m) B L := ⟨by simpa using h.1, fun i hi => by simpa using h.2.1 i hi, fun i hi => by simpa using h.2.2 i hi⟩
theorem bs_nil : bs [] = ⟨#[]⟩ := by unfold bs; rfl
theorem toList_ne {a b : ByteArray} (h : a ≠ b) : (a.toList == b.toList) = false := beq_eq_false_iff_ne.2 (fun e => h (rc_toList e))
theorem toList_nb {a b : ByteArray} (h : a ≠ b) : (a.toList != b.toList) = true := by simp [bne, toList_ne h]
set_option maxRecDepth 100000 in
set_option maxHeartbeats 4000000 in
theorem roundTrip_any (xa : Option Addr) (xc : Nat) (X : List (List Int)) (t : Bool) (at' c : Int) (raw : ByteArray) (W : World) (ht : Wb.Tab W) (hX : ArrsA 6 W xa xc X) (ha1 : -9223372036854775808 ≤ at') (ha2 : at' ≤ 9223372036854775807) (hc0 : 0 ≤ c) (hc1 : c ≤ 255) (hraw : raw.size ≤ maxLen) :
    Calls Tryd.prog 8 #[.slice xa X.length xc, .bool t, .int .i64 at', .int .u8 c, .string raw] W fun e w' => e = .returned (.bool true) ∧ Below W.heap.size W w' := by
  have HX := Lib.hid hX; have HT := Lib.hid ht; clear hX ht
  have HFi := Lib.hid (Pl.made9_fine X t)
  go_enter Tryd.func8, Tryd.ntmps8
  go_wp2_with fail
  refine (sane_any W HT.out).mono ?_; rintro e w1 ⟨rfl, g1⟩
  have G1 := Lib.hid g1; clear g1
  go_wp2_with fail
  refine (made_any X t xa xc w1 (HX.out.below G1.out)).mono ?_; rintro e w2 ⟨sa, sc, wa, wc, rfl, s1, s2, g2⟩
  have G2 := Lib.hid (below_step G1.out g2)
  have O2 := Lib.hid (show StO w2 W.heap.size (.slice sa (Pl.made9 X t).st.length sc) (Pl.made9 X t).st ∧ WnO w2 W.heap.size (.slice wa (Pl.made9 X t).wn.length wc) (Pl.made9 X t).wn from ⟨s1.mono G1.out.size, s2.mono G1.out.size⟩)
  clear g2 s1 s2 G1
  obtain ⟨P, hP⟩ : ∃ P, Pl.made9 X t = P := ⟨_, rfl⟩
  rw [hP] at O2 HFi
  rw [hP]
  have HP := Lib.hid hP
  clear hP
  go_upto_region 3 with (fail)
  have hb := below_new w2 (.cells #[.int .i64 P.entry, .int .i64 P.mmin, .int .i64 P.mmax, .slice sa P.st.length sc, .slice wa P.wn.length wc] 28)
  have NP := Lib.hid (heap_alloc_new w2 (.cells #[.int .i64 P.entry, .int .i64 P.mmin, .int .i64 P.mmax, .slice sa P.st.length sc, .slice wa P.wn.length wc] 28))
  have G3 := Lib.hid (below_step G2.out hb)
  have O3 := Lib.hid (show StO (w2.alloc (.cells #[.int .i64 P.entry, .int .i64 P.mmin, .int .i64 P.mmax, .slice sa P.st.length sc, .slice wa P.wn.length wc] 28)) W.heap.size (.slice sa P.st.length sc) P.st ∧ WnO (w2.alloc (.cells #[.int .i64 P.entry, .int .i64 P.mmin, .int .i64 P.mmax, .slice sa P.st.length sc, .slice wa P.wn.length wc] 28)) W.heap.size (.slice wa P.wn.length wc) P.wn from ⟨RowO.below O2.out.1 hb, RowO.below O2.out.2 hb⟩)
  have S3 := Lib.hid (made_ok O3.out.1 O3.out.2 : PlanP.ok ⟨P, sa, sc, wa, wc⟩ _)
  clear hb O2 G2
  generalize w2.alloc (.cells #[.int .i64 P.entry, .int .i64 P.mmin, .int .i64 P.mmax, .slice sa P.st.length sc, .slice wa P.wn.length wc] 28) = w3 at *
  generalize w2.heap.size = n8 at *
  have c0 := box_cell NP.out 0 (.int .i64 P.entry) rfl
  have c1 := box_cell NP.out 1 (.int .i64 P.mmin) rfl
  have c2 := box_cell NP.out 2 (.int .i64 P.mmax) rfl
  have c3 := box_cell NP.out 3 (.slice sa P.st.length sc) rfl
  have c4 := box_cell NP.out 4 (.slice wa P.wn.length wc) rfl
  obtain ⟨⟨s1, B⟩, hR⟩ : ∃ x, Pl.checkR P = x := ⟨_, rfl⟩
  have HR := Lib.hid hR
  clear hR
  have HRaw := Lib.hid hraw
  clear hraw
  have CK := Lib.hid (check_is ⟨P, sa, sc, wa, wc⟩ w3 S3.out HR.out)
  go_wp2_with fail
  refine CK.out.mono ?_; rintro e w4 ⟨da1, dc1, ma1, mc1, rfl, -, g⟩
  have hb := below_step g (below_new w4 (.cells #[.slice da1 s1.dur.length dc1, .slice ma1 s1.mv.length mc1, .int .i64 s1.det, .int .i64 s1.tool, .int .i64 s1.at_] 32))
  have NP5 := Lib.hid (box_below NP.out hb)
  have S5 := Lib.hid (S3.out.below hb)
  have G5 := Lib.hid (below_step G3.out hb)
  clear g CK c0 c1 c2 c3 c4 hb NP S3 G3 O3
  go_upto_region 4 with (fail)
  generalize w4.alloc (.cells #[.slice da1 s1.dur.length dc1, .slice ma1 s1.mv.length mc1, .int .i64 s1.det, .int .i64 s1.tool, .int .i64 s1.at_] 32) = w5 at *
  generalize w4.heap.size = nS at *
  have c0 := box_cell NP5.out 0 (.int .i64 P.entry) rfl
  have c1 := box_cell NP5.out 1 (.int .i64 P.mmin) rfl
  have c2 := box_cell NP5.out 2 (.int .i64 P.mmax) rfl
  have c3 := box_cell NP5.out 3 (.slice sa P.st.length sc) rfl
  have c4 := box_cell NP5.out 4 (.slice wa P.wn.length wc) rfl
  have SL := Lib.hid (seal_is ⟨P, sa, sc, wa, wc⟩ w5 S5.out (HT.out.below G5.out) HR.out)
  go_wp2_with fail
  refine SL.out.mono ?_; rintro e w6 ⟨rfl, g⟩
  clear c0 c1 c2 c3 c4 SL
  have NP6 := Lib.hid (box_below NP5.out g)
  have S6 := Lib.hid (S5.out.below g)
  have G6 := Lib.hid (below_step G5.out g)
  clear g NP5 S5 G5
  have HRw := Lib.hid (cut300 raw)
  have hrs : raw.size ≤ 9223372036854775807 := HRaw.out
  obtain ⟨E, hE⟩ : ∃ E, (if B = true then certB P else bs []) = E := ⟨_, rfl⟩
  obtain ⟨er, her⟩ : ∃ er : Int, (if B = true then (0 : Int) else 90) = er := ⟨_, rfl⟩
  rw [show (if B = true then certB (PlanP.p ⟨P, sa, sc, wa, wc⟩) else bs []) = E from hE, her]
  have HE := Lib.hid hE; have Her := Lib.hid her
  clear hE her
  have m0 : (0 : Int) ≤ min (raw.size : Int) 300 := by omega
  have m1 : min (raw.size : Int) 300 ≤ (raw.size : Int) := by omega
  have m2 : (min (raw.size : Int) 300).toNat ≤ raw.size := by omega
  cases B with
  | false =>
    as_aux_lemma =>
    have hE0 : E = ⟨#[]⟩ := by rw [← HE.out]; exact bs_nil
    have he0 : er = 90 := by rw [← Her.out]; rfl
    subst he0
    have n1 : E.toList.isEmpty = true := by rw [hE0, Lib.toList_data]; rfl
    have n2 : (!E.toList.isEmpty) = false := by rw [n1]; rfl
    clear hE0
    go_upto_region 8 with (fail)
    clear n1 n2
    obtain ⟨R0, hR0⟩ : ∃ R0, raw.extract 0 (min (raw.size : Int) 300).toNat = R0 := ⟨_, rfl⟩
    rw [hR0] at HRw
    rw [hR0]
    clear m0 m1 m2 hrs HRaw
    cases hO : openR R0 with
    | error n =>
      as_aux_lemma =>
      have hn : (n == 0) = false := beq_eq_false_iff_ne.2 (openR_err hO)
      have OP := Lib.hid (open_none R0 w6 (Nat.le_trans HRw.out (by decide)) (HT.out.below G6.out) hO)
      clear hO hR0
      go_wp2_with fail
      refine OP.out.mono ?_; rintro e w7 ⟨rfl, g⟩
      have hb := below_step g (below_new w7 (.cells #[.int .i64 0, .int .i64 0, .int .i64 0, .slice none 0 0, .slice none 0 0] 28))
      have NP8 := Lib.hid (box_below NP6.out hb)
      have S8 := Lib.hid (S6.out.below hb)
      have G8 := Lib.hid (below_step G6.out hb)
      clear g OP hb NP6 S6 G6
      go_upto_region 9 with (fail)
      generalize w7.alloc (.cells #[.int .i64 0, .int .i64 0, .int .i64 0, .slice none 0 0, .slice none 0 0] 28) = w8 at *
      clear HRw
      go_upto_region 14 with (fail)
      go_wp2_with fail
      go_ret
      exact ⟨rfl, G8.out⟩
    | ok q =>
      as_aux_lemma =>
      obtain ⟨s2, hq⟩ : ∃ s2, Pl.checkR q = (s2, true) := ⟨(Pl.checkR q).1, by rw [← (open_ok hO).1]⟩
      have HQ := Lib.hid hq
      have HCq := Lib.hid (open_ok hO).2
      have OP := Lib.hid (open_some R0 w6 (Nat.le_trans HRw.out (by decide)) (HT.out.below G6.out) hO)
      clear hO hR0 hq
      go_wp2_with fail
      refine OP.out.mono ?_; rintro e w7 ⟨⟨qa, qc, qb, qd, rfl, qok⟩, g⟩
      have hn := below_new w7 (.cells #[.int .i64 q.entry, .int .i64 q.mmin, .int .i64 q.mmax, .slice qa q.st.length qc, .slice qb q.wn.length qd] 28)
      have NQ := Lib.hid (heap_alloc_new w7 (.cells #[.int .i64 q.entry, .int .i64 q.mmin, .int .i64 q.mmax, .slice qa q.st.length qc, .slice qb q.wn.length qd] 28))
      have QO := Lib.hid (qok.below hn)
      have hb := below_step g hn
      have NP8 := Lib.hid (box_below NP6.out hb)
      have S8 := Lib.hid (S6.out.below hb)
      have G8 := Lib.hid (below_step G6.out hb)
      clear g OP hb hn qok NP6 S6 G6
      go_upto_region 9 with (fail)
      generalize w7.alloc (.cells #[.int .i64 q.entry, .int .i64 q.mmin, .int .i64 q.mmax, .slice qa q.st.length qc, .slice qb q.wn.length qd] 28) = w8 at *
      generalize w7.heap.size = nq at *
      have k0 := box_cell NQ.out 0 (.int .i64 q.entry) rfl
      have k1 := box_cell NQ.out 1 (.int .i64 q.mmin) rfl
      have k2 := box_cell NQ.out 2 (.int .i64 q.mmax) rfl
      have k3 := box_cell NQ.out 3 (.slice qa q.st.length qc) rfl
      have k4 := box_cell NQ.out 4 (.slice qb q.wn.length qd) rfl
      have CQ := Lib.hid (check_is ⟨q, qa, qc, qb, qd⟩ w8 QO.out HQ.out)
      go_wp2_with fail
      refine CQ.out.mono ?_; rintro e w9 ⟨da2, dc2, ma2, mc2, rfl, -, g⟩
      have hb := below_step g (below_new w9 (.cells #[.slice da2 s2.dur.length dc2, .slice ma2 s2.mv.length mc2, .int .i64 s2.det, .int .i64 s2.tool, .int .i64 s2.at_] 32))
      have NQ := Lib.hid (box_below NQ.out hb)
      have QO := Lib.hid (QO.out.below hb)
      have NP10 := Lib.hid (box_below NP8.out hb)
      have S10 := Lib.hid (S8.out.below hb)
      have G10 := Lib.hid (below_step G8.out hb)
      clear g CQ hb k0 k1 k2 k3 k4 NP8 S8 G8
      go_upto_region 11 with (fail)
      generalize w9.alloc (.cells #[.slice da2 s2.dur.length dc2, .slice ma2 s2.mv.length mc2, .int .i64 s2.det, .int .i64 s2.tool, .int .i64 s2.at_] 32) = w10 at *
      have k0 := box_cell NQ.out 0 (.int .i64 q.entry) rfl
      have k1 := box_cell NQ.out 1 (.int .i64 q.mmin) rfl
      have k2 := box_cell NQ.out 2 (.int .i64 q.mmax) rfl
      have k3 := box_cell NQ.out 3 (.slice qa q.st.length qc) rfl
      have k4 := box_cell NQ.out 4 (.slice qb q.wn.length qd) rfl
      have SQ := Lib.hid (seal_is ⟨q, qa, qc, qb, qd⟩ w10 QO.out (HT.out.below G10.out) HQ.out)
      rw [show certB (PlanP.p ⟨q, qa, qc, qb, qd⟩) = R0 from HCq.out, if_pos rfl, if_pos rfl] at SQ
      go_wp2_with fail
      refine SQ.out.mono ?_; rintro e w11 ⟨rfl, g⟩
      have NP11 := Lib.hid (box_below NP10.out g)
      have S11 := Lib.hid (S10.out.below g)
      have G11 := Lib.hid (below_step G10.out g)
      clear g SQ k0 k1 k2 k3 k4 NP10 S10 G10 NQ QO HQ HCq HRw
      have n1 : (R0.toList != R0.toList) = false := by simp [bne]
      have n2 : (R0.toList == R0.toList) = true := by simp
      go_upto_region 14 with (fail)
      go_wp2_with fail
      go_ret
      exact ⟨rfl, G11.out⟩
  | true =>
    have hE1 : E = certB P := by rw [← HE.out]; rfl
    have he0 : er = 0 := by rw [← Her.out]; rfl
    subst he0
    have hvP : Pl.Valid P := (Pl.safe_true (p := P) (by rw [HR.out])).1
    have HSz := Lib.hid (show E.size ≤ 2000 by rw [hE1]; exact cert_size hvP)
    have hE32 : E.size = (planB P).length + 32 := by rw [← blen, hE1]; exact cert_len P
    have HE1 := Lib.hid hE1
    have H32 := Lib.hid hE32
    clear hE1 hvP hE32
    go_upto_region 8 with (fail)
    obtain ⟨R0, hR0⟩ : ∃ R0, raw.extract 0 (min (raw.size : Int) 300).toNat = R0 := ⟨_, rfl⟩
    rw [hR0] at HRw
    rw [hR0]
    clear m0 m1 m2 hrs HRaw
    cases hO : openR R0 with
    | error n =>
      as_aux_lemma =>
      have hn : (n == 0) = false := beq_eq_false_iff_ne.2 (openR_err hO)
      have OP := Lib.hid (open_none R0 w6 (Nat.le_trans HRw.out (by decide)) (HT.out.below G6.out) hO)
      clear hO hR0
      go_wp2_with fail
      refine OP.out.mono ?_; rintro e w7 ⟨rfl, g⟩
      have hb := below_step g (below_new w7 (.cells #[.int .i64 0, .int .i64 0, .int .i64 0, .slice none 0 0, .slice none 0 0] 28))
      have NP8 := Lib.hid (box_below NP6.out hb)
      have S8 := Lib.hid (S6.out.below hb)
      have G8 := Lib.hid (below_step G6.out hb)
      clear g OP hb NP6 S6 G6
      go_upto_region 9 with (fail)
      generalize w7.alloc (.cells #[.int .i64 0, .int .i64 0, .int .i64 0, .slice none 0 0, .slice none 0 0] 28) = w8 at *
      clear HRw
      go_upto_region 15 with (fail)
      have HL := Lib.hid (show E.size ≤ 2000 from HSz.out)
      have HO := Lib.hid (show openR E = .ok P by rw [HE1.out]; exact open_cert (by rw [HR.out]))
      have OE := Lib.hid (open_some E w8 HL.out (HT.out.below G8.out) HO.out)
      go_wp2_with fail
      refine OE.out.mono ?_; rintro e w12 ⟨⟨ra, rc, rb, rd, rfl, rok⟩, g⟩
      have hn := below_new w12 (.cells #[.int .i64 P.entry, .int .i64 P.mmin, .int .i64 P.mmax, .slice ra P.st.length rc, .slice rb P.wn.length rd] 28)
      have RO := Lib.hid (rok.below hn)
      have NR := Lib.hid (heap_alloc_new w12 (.cells #[.int .i64 P.entry, .int .i64 P.mmin, .int .i64 P.mmax, .slice ra P.st.length rc, .slice rb P.wn.length rd] 28))
      have hb := below_step g hn
      have NP13 := Lib.hid (box_below NP8.out hb)
      have S13 := Lib.hid (S8.out.below hb)
      have G13 := Lib.hid (below_step G8.out hb)
      clear g OE hb hn rok NP8 S8 G8
      go_upto_region 17 with (fail)
      generalize w12.alloc (.cells #[.int .i64 P.entry, .int .i64 P.mmin, .int .i64 P.mmax, .slice ra P.st.length rc, .slice rb P.wn.length rd] 28) = w13 at *
      generalize w12.heap.size = nr at *
      have c0 := box_cell NP13.out 0 (.int .i64 P.entry) rfl
      have c1 := box_cell NP13.out 1 (.int .i64 P.mmin) rfl
      have c2 := box_cell NP13.out 2 (.int .i64 P.mmax) rfl
      have c3 := box_cell NP13.out 3 (.slice sa P.st.length sc) rfl
      have c4 := box_cell NP13.out 4 (.slice wa P.wn.length wc) rfl
      have k0 := box_cell NR.out 0 (.int .i64 P.entry) rfl
      have k1 := box_cell NR.out 1 (.int .i64 P.mmin) rfl
      have k2 := box_cell NR.out 2 (.int .i64 P.mmax) rfl
      have k3 := box_cell NR.out 3 (.slice ra P.st.length rc) rfl
      have k4 := box_cell NR.out 4 (.slice rb P.wn.length rd) rfl
      have SM := Same_any ⟨P, sa, sc, wa, wc⟩ ⟨P, ra, rc, rb, rd⟩ w13 S13.out RO.out
      rw [show decide (PlanP.p ⟨P, sa, sc, wa, wc⟩ = PlanP.p ⟨P, ra, rc, rb, rd⟩) = true from decide_eq_true rfl] at SM
      have SM := Lib.hid SM
      go_wp2_with fail
      refine SM.out.mono ?_; rintro e w14 ⟨rfl, g⟩
      have G14 := Lib.hid (below_step G13.out g)
      clear g SM c0 c1 c2 c3 c4 k0 k1 k2 k3 k4 NP13 NR S13 RO G13
      have q1 : ¬ (E.size : Int) < 32 := by have := H32.out; omega
      have q2 : decide ((E.size : Int) < 32) = false := decide_eq_false q1
      go_upto_region 19 with (fail)
      clear q1 q2
      obtain ⟨cb, rfl⟩ := u8_of hc0 hc1
      obtain ⟨cap, w15, hcv, hr0, hbw, hcp⟩ := RowIs.ofString w14 E
      have hlo : W.heap.size ≤ w14.heap.size := G14.out.size
      have R15 := Lib.hid hr0
      have G15 := Lib.hid (below_step G14.out hbw)
      have HCp := Lib.hid hcp
      obtain ⟨nn, hnn⟩ : ∃ nn, E.size = nn + 32 := ⟨_, H32.out⟩
      have HNn := Lib.hid hnn
      have HLo := Lib.hid hlo
      have hkb := pickZ_bd (c := at') (n := (E.size : Int)) (by omega)
      obtain ⟨k, hkk⟩ := Int.eq_ofNat_of_zero_le hkb.1
      have PK := Lib.hid (fun w => lpick_any at' (E.size : Int) w ⟨ha1, ha2⟩ (by have := HL.out; omega))
      rw [hkk] at hkb PK
      have hkl : k < E.data.toList.length := by rw [blen]; omega
      have HK := Lib.hid hkl
      clear hr0 hbw hcp H32 G14 hnn hkk hlo
      go_upto_region 20 with (fail)
      clear hcv
      generalize w14.heap.size = nb at *
      have y0 := R15.out.2.1 k hkl
      have y1 := R15.out.2.2 k hkl
      have i1 : (0 : Int) ≤ (k : Int) := by omega
      have i2 : (k : Int) < (E.size : Int) := by omega
      have i3 : ((k : Int)).toNat = k := by omega
      clear hkb
      go_wp2_with fail
      refine (PK.out w15).mono ?_; rintro e w15 ⟨rfl, rfl⟩
      have R16 := Lib.hid (RowIs.set R15.out HK.out cb)
      have G16 := Lib.hid (G15.out.setCell (p := ⟨nb, k, none⟩) HLo.out (.int .u8 ((cb.toNat : Nat) : Int)))
      go_upto_region 21 with (fail)
      clear y0 y1 R15 G15
      generalize w15.setCell ⟨nb, k, none⟩ (.int .u8 ((cb.toNat : Nat) : Int)) = w16 at *
      obtain ⟨L, hL⟩ : ∃ L, E.data.toList.set k cb = L := ⟨_, rfl⟩
      rw [hL] at R16
      have hLl : L.length = E.size := by rw [← hL, List.length_set, blen]
      have HLs := Lib.hid hL
      have HLl := Lib.hid hLl
      have hst : (convert 65 9 (.slice (some ⟨nb, 0, none⟩) E.size cap)).run Tryd.prog w16 = .ok (.string (bs L)) w16 := by
        have := R16.out.string cap
        rw [hLl] at this; exact this
      clear hL hLl hkl
      have OT := Lib.hid (open_code (bs L) w16 (by rw [bs_size, HLl.out]; exact HL.out) (HT.out.below G16.out))
      go_wp2_with fail
      refine OT.out.mono ?_; rintro e w17 ⟨⟨m, x0, x1, x2, xa', xl', xc', xb', xn', xd', rfl, hm⟩, g⟩
      have HM := Lib.hid hm
      have hb := below_step g (below_new w17 (.cells #[.int .i64 x0, .int .i64 x1, .int .i64 x2, .slice xa' xl' xc', .slice xb' xn' xd'] 28))
      have R18 := Lib.hid (R16.out.below hb)
      have G18 := Lib.hid (below_step G16.out hb)
      clear g hb OT hst hm R16 G16
      go_upto_region 22 with (fail)
      generalize w17.alloc (.cells #[.int .i64 x0, .int .i64 x1, .int .i64 x2, .slice xa' xl' xc', .slice xb' xn' xd'] 28) = w18 at *
      go_wp2_with fail
      refine (PK.out w18).mono ?_; rintro e w18 ⟨rfl, rfl⟩
      have i4 : (k : Int) ≤ (E.size : Int) := by omega
      have hX : (E.extract 0 k).size ≤ 2000 := by rw [ByteArray.size_extract]; have := HL.out; omega
      obtain ⟨ec, hec⟩ : ∃ ec, openR (E.extract 0 k) = .error ec := by
        cases h : openR (E.extract 0 k) with
        | error ec => exact ⟨ec, rfl⟩
        | ok q =>
          exfalso
          rw [bs_extract, HE1.out] at h
          exact cut_no (by rw [HR.out]) (by rw [← HE1.out]; exact HK.out) h
      have hne : (ec != 0) = true := bne_iff_ne.2 (openR_err hec)
      have HNe := Lib.hid hne
      have OC := Lib.hid (open_none (E.extract 0 k) w18 hX (HT.out.below G18.out) hec)
      clear hX hec hne
      go_wp2_with fail
      refine OC.out.mono ?_; rintro e w19 ⟨rfl, g⟩
      have hb := below_step g (below_new w19 (.cells #[.int .i64 0, .int .i64 0, .int .i64 0, .slice none 0 0, .slice none 0 0] 28))
      have R20 := Lib.hid (R18.out.below hb)
      have G20 := Lib.hid (below_step G18.out hb)
      clear g hb OC R18 G18 i1 i2 i3 i4
      go_upto_region 23 with (fail)
      generalize w19.alloc (.cells #[.int .i64 0, .int .i64 0, .int .i64 0, .slice none 0 0, .slice none 0 0] 28) = w20 at *
      have h2 := HL.out
      have h3 := HNn.out
      have z0 : (0 : Int) ≤ (E.size : Int) - 32 := by omega
      have z1 : (E.size : Int) - 32 ≤ (E.size : Int) := by omega
      have z2 : ((E.size : Int) - 32).toNat = nn := by omega
      have z3 : (E.size : Int) - 32 ≤ (cap : Int) := by have := HCp.out; omega
      have hst : (convert 65 9 (.slice (some ⟨nb, 0, none⟩) nn cap)).run Tryd.prog w20 = .ok (.string (bs (L.take nn))) w20 := by
        have := (R20.out.take nn).string cap
        rw [List.length_take, HLl.out, Nat.min_eq_left (by omega)] at this; exact this
      go_upto_region 25 with (fail)
      clear hst z0 z1 z2 z3 h2 h3
      obtain ⟨T1, hT1⟩ : ∃ T1, E.extract 0 nn = T1 := ⟨_, rfl⟩
      obtain ⟨T2, hT2⟩ : ∃ T2, bs (L.take nn) = T2 := ⟨_, rfl⟩
      rw [hT1, hT2]
      have hF : (m = 0 ∧ (bs L = E ∨ (T1 ≠ T2 ∧ Wb.Sha.shaS T1 = Wb.Sha.shaS T2))) ∨ (m ≠ 0 ∧ bs L ≠ E) := by
        rcases HM.out with ⟨h1, q, hq⟩ | ⟨h1, hq⟩
        · refine .inl ⟨h1, ?_⟩
          have hn : (certB P).data.toList.length = nn + 32 := by rw [← HE1.out, blen]; exact HNn.out
          rw [← HLs.out, HE1.out] at hq
          rcases tamper hn hq with h | ⟨h, h'⟩
          · left; rw [← HLs.out, HE1.out]; exact h
          · right
            rw [← hT1, ← hT2, bs_extract, ← HLs.out, HE1.out]
            exact ⟨fun e => h (bs_inj e), h'⟩
        · refine .inr ⟨h1, fun e => ?_⟩
          rw [e, HE1.out, open_cert (by rw [HR.out])] at hq
          cases hq
      have HT1 := Lib.hid (show T1.size ≤ 2000 by rw [← hT1, ByteArray.size_extract]; have := HL.out; omega)
      have HT2 := Lib.hid (show T2.size ≤ 2000 by rw [← hT2, bs_size, List.length_take]; have := HLl.out; have := HL.out; omega)
      clear hT1 hT2
      obtain ⟨S, hS⟩ : ∃ S, bs L = S := ⟨_, rfl⟩
      rw [hS] at hF
      have HS := Lib.hid hS
      clear hS
      by_cases hbo : T1 = T2
      · subst hbo
        have n1 : (T1.toList != T1.toList) = false := by simp [bne]
        have HFF := Lib.hid hF
        clear hF
        go_upto_region 26 with (fail)
        have hF := HFF.out
        clear HFF n1
        have hst : (convert 65 9 (.slice (some ⟨nb, 0, none⟩) E.size cap)).run Tryd.prog w20 = .ok (.string (S)) w20 := by
          have := R20.out.string cap
          rw [HLl.out, show (⟨L.toArray⟩ : ByteArray) = S from HS.out] at this; exact this
        have n3 := HNe.out
        rcases hF with ⟨rfl, hF⟩ | ⟨hm0, hne⟩
        · by_cases hbe : S = E
          · have n4 : ((S).toList == E.toList) = true := by rw [hbe]; simp
            have n5 : ((S).toList != E.toList) = false := by rw [hbe]; simp [bne]
            clear hbe hF
            go_wp2_with fail
            go_ret
            exact ⟨rfl, G20.out⟩
          · exfalso
            rcases hF with h | ⟨h1, h2⟩
            · exact hbe h
            · exact h1 rfl
        · have n4 : ((S).toList == E.toList) = false := toList_ne hne
          have n5 : ((S).toList != E.toList) = true := toList_nb hne
          have n6 : (m != 0) = true := bne_iff_ne.2 hm0
          have n7 : (m == 0) = false := beq_eq_false_iff_ne.2 hm0
          clear hm0 hne
          go_wp2_with fail
          go_ret
          exact ⟨rfl, G20.out⟩
      have n1 : (T1.toList != T2.toList) = true := toList_nb hbo
      have n1' : ¬ T1.toList = T2.toList := fun e => hbo (rc_toList e)
      have n1'' : (T1.toList == T2.toList) = false := toList_ne hbo
      have HFF := Lib.hid hF
      clear hF hbo
      have RS1 := Lib.hid (Wb.refSum_any T1 w20 HT1.out)
      go_wp2_with fail
      refine RS1.out.mono ?_; rintro e w21 ⟨rfl, g1⟩
      have RS2 := Lib.hid (Wb.refSum_any T2 w21 HT2.out)
      have G21 := Lib.hid g1
      clear g1
      go_wp2_with fail
      refine RS2.out.mono ?_; rintro e w22 ⟨rfl, g2⟩
      have R22 := Lib.hid ((R20.out.below G21.out).below g2)
      have G22 := Lib.hid (below_step (below_step G20.out G21.out) g2)
      clear g2 RS1 RS2 G21 R20 G20
      obtain ⟨D1, hD1⟩ : ∃ D1, Wb.Sha.shaS T1 = D1 := ⟨_, rfl⟩
      obtain ⟨D2, hD2⟩ : ∃ D2, Wb.Sha.shaS T2 = D2 := ⟨_, rfl⟩
      rw [hD1, hD2] at HFF
      rw [hD1, hD2]
      clear hD1 hD2
      by_cases hds : D1 = D2
      · subst hds
        have n2 : (D1.toList == D1.toList) = true := by simp
        go_upto_region 26 with (fail)
        have hF := HFF.out
        clear HFF
        have hst : (convert 65 9 (.slice (some ⟨nb, 0, none⟩) E.size cap)).run Tryd.prog w22 = .ok (.string (S)) w22 := by
          have := R22.out.string cap
          rw [HLl.out, show (⟨L.toArray⟩ : ByteArray) = S from HS.out] at this; exact this
        have n3 := HNe.out
        rcases hF with ⟨rfl, hF⟩ | ⟨hm0, hne⟩
        · by_cases hbe : S = E
          · have n4 : ((S).toList == E.toList) = true := by rw [hbe]; simp
            have n5 : ((S).toList != E.toList) = false := by rw [hbe]; simp [bne]
            clear hbe hF
            go_wp2_with fail
            go_ret
            exact ⟨rfl, G22.out⟩
          · have n4 : ((S).toList == E.toList) = false := toList_ne hbe
            have n5 : ((S).toList != E.toList) = true := toList_nb hbe
            clear hbe hF
            go_wp2_with fail
            go_ret
            exact ⟨rfl, G22.out⟩
        · have n4 : ((S).toList == E.toList) = false := toList_ne hne
          have n5 : ((S).toList != E.toList) = true := toList_nb hne
          have n6 : (m != 0) = true := bne_iff_ne.2 hm0
          have n7 : (m == 0) = false := beq_eq_false_iff_ne.2 hm0
          clear hm0 hne
          go_wp2_with fail
          go_ret
          exact ⟨rfl, G22.out⟩
      · have n2 : (D1.toList == D2.toList) = false := toList_ne hds
        have n2' : ¬ D1.toList = D2.toList := fun e => hds (rc_toList e)
        have HDs := Lib.hid hds
        clear hds
        go_upto_region 26 with (fail)
        have hF := HFF.out
        clear HFF
        have hst : (convert 65 9 (.slice (some ⟨nb, 0, none⟩) E.size cap)).run Tryd.prog w22 = .ok (.string (S)) w22 := by
          have := R22.out.string cap
          rw [HLl.out, show (⟨L.toArray⟩ : ByteArray) = S from HS.out] at this; exact this
        have n3 := HNe.out
        rcases hF with ⟨rfl, hF⟩ | ⟨hm0, hne⟩
        · by_cases hbe : S = E
          · have n4 : ((S).toList == E.toList) = true := by rw [hbe]; simp
            have n5 : ((S).toList != E.toList) = false := by rw [hbe]; simp [bne]
            clear hbe hF
            go_wp2_with fail
            go_ret
            exact ⟨rfl, G22.out⟩
          · exfalso
            rcases hF with h | ⟨h1, h2⟩
            · exact hbe h
            · exact HDs.out h2
        · have n4 : ((S).toList == E.toList) = false := toList_ne hne
          have n5 : ((S).toList != E.toList) = true := toList_nb hne
          have n6 : (m != 0) = true := bne_iff_ne.2 hm0
          have n7 : (m == 0) = false := beq_eq_false_iff_ne.2 hm0
          clear hm0 hne
          go_wp2_with fail
          go_ret
          exact ⟨rfl, G22.out⟩
    | ok q =>
      as_aux_lemma =>
      obtain ⟨s2, hq⟩ : ∃ s2, Pl.checkR q = (s2, true) := ⟨(Pl.checkR q).1, by rw [← (open_ok hO).1]⟩
      have HQ := Lib.hid hq
      have HCq := Lib.hid (open_ok hO).2
      have OP := Lib.hid (open_some R0 w6 (Nat.le_trans HRw.out (by decide)) (HT.out.below G6.out) hO)
      clear hO hR0 hq
      go_wp2_with fail
      refine OP.out.mono ?_; rintro e w7 ⟨⟨qa, qc, qb, qd, rfl, qok⟩, g⟩
      have hn := below_new w7 (.cells #[.int .i64 q.entry, .int .i64 q.mmin, .int .i64 q.mmax, .slice qa q.st.length qc, .slice qb q.wn.length qd] 28)
      have NQ := Lib.hid (heap_alloc_new w7 (.cells #[.int .i64 q.entry, .int .i64 q.mmin, .int .i64 q.mmax, .slice qa q.st.length qc, .slice qb q.wn.length qd] 28))
      have QO := Lib.hid (qok.below hn)
      have hb := below_step g hn
      have NP8 := Lib.hid (box_below NP6.out hb)
      have S8 := Lib.hid (S6.out.below hb)
      have G8 := Lib.hid (below_step G6.out hb)
      clear g OP hb hn qok NP6 S6 G6
      go_upto_region 9 with (fail)
      generalize w7.alloc (.cells #[.int .i64 q.entry, .int .i64 q.mmin, .int .i64 q.mmax, .slice qa q.st.length qc, .slice qb q.wn.length qd] 28) = w8 at *
      generalize w7.heap.size = nq at *
      have k0 := box_cell NQ.out 0 (.int .i64 q.entry) rfl
      have k1 := box_cell NQ.out 1 (.int .i64 q.mmin) rfl
      have k2 := box_cell NQ.out 2 (.int .i64 q.mmax) rfl
      have k3 := box_cell NQ.out 3 (.slice qa q.st.length qc) rfl
      have k4 := box_cell NQ.out 4 (.slice qb q.wn.length qd) rfl
      have CQ := Lib.hid (check_is ⟨q, qa, qc, qb, qd⟩ w8 QO.out HQ.out)
      go_wp2_with fail
      refine CQ.out.mono ?_; rintro e w9 ⟨da2, dc2, ma2, mc2, rfl, -, g⟩
      have hb := below_step g (below_new w9 (.cells #[.slice da2 s2.dur.length dc2, .slice ma2 s2.mv.length mc2, .int .i64 s2.det, .int .i64 s2.tool, .int .i64 s2.at_] 32))
      have NQ := Lib.hid (box_below NQ.out hb)
      have QO := Lib.hid (QO.out.below hb)
      have NP10 := Lib.hid (box_below NP8.out hb)
      have S10 := Lib.hid (S8.out.below hb)
      have G10 := Lib.hid (below_step G8.out hb)
      clear g CQ hb k0 k1 k2 k3 k4 NP8 S8 G8
      go_upto_region 11 with (fail)
      generalize w9.alloc (.cells #[.slice da2 s2.dur.length dc2, .slice ma2 s2.mv.length mc2, .int .i64 s2.det, .int .i64 s2.tool, .int .i64 s2.at_] 32) = w10 at *
      have k0 := box_cell NQ.out 0 (.int .i64 q.entry) rfl
      have k1 := box_cell NQ.out 1 (.int .i64 q.mmin) rfl
      have k2 := box_cell NQ.out 2 (.int .i64 q.mmax) rfl
      have k3 := box_cell NQ.out 3 (.slice qa q.st.length qc) rfl
      have k4 := box_cell NQ.out 4 (.slice qb q.wn.length qd) rfl
      have SQ := Lib.hid (seal_is ⟨q, qa, qc, qb, qd⟩ w10 QO.out (HT.out.below G10.out) HQ.out)
      rw [show certB (PlanP.p ⟨q, qa, qc, qb, qd⟩) = R0 from HCq.out, if_pos rfl, if_pos rfl] at SQ
      go_wp2_with fail
      refine SQ.out.mono ?_; rintro e w11 ⟨rfl, g⟩
      have NP11 := Lib.hid (box_below NP10.out g)
      have S11 := Lib.hid (S10.out.below g)
      have G11 := Lib.hid (below_step G10.out g)
      clear g SQ k0 k1 k2 k3 k4 NP10 S10 G10 NQ QO HQ HCq HRw
      have n1 : (R0.toList != R0.toList) = false := by simp [bne]
      have n2 : (R0.toList == R0.toList) = true := by simp
      go_upto_region 15 with (fail)
      have HL := Lib.hid (show E.size ≤ 2000 from HSz.out)
      have HO := Lib.hid (show openR E = .ok P by rw [HE1.out]; exact open_cert (by rw [HR.out]))
      have OE := Lib.hid (open_some E w11 HL.out (HT.out.below G11.out) HO.out)
      go_wp2_with fail
      refine OE.out.mono ?_; rintro e w12 ⟨⟨ra, rc, rb, rd, rfl, rok⟩, g⟩
      have hn := below_new w12 (.cells #[.int .i64 P.entry, .int .i64 P.mmin, .int .i64 P.mmax, .slice ra P.st.length rc, .slice rb P.wn.length rd] 28)
      have RO := Lib.hid (rok.below hn)
      have NR := Lib.hid (heap_alloc_new w12 (.cells #[.int .i64 P.entry, .int .i64 P.mmin, .int .i64 P.mmax, .slice ra P.st.length rc, .slice rb P.wn.length rd] 28))
      have hb := below_step g hn
      have NP13 := Lib.hid (box_below NP11.out hb)
      have S13 := Lib.hid (S11.out.below hb)
      have G13 := Lib.hid (below_step G11.out hb)
      clear g OE hb hn rok NP11 S11 G11
      go_upto_region 17 with (fail)
      generalize w12.alloc (.cells #[.int .i64 P.entry, .int .i64 P.mmin, .int .i64 P.mmax, .slice ra P.st.length rc, .slice rb P.wn.length rd] 28) = w13 at *
      generalize w12.heap.size = nr at *
      have c0 := box_cell NP13.out 0 (.int .i64 P.entry) rfl
      have c1 := box_cell NP13.out 1 (.int .i64 P.mmin) rfl
      have c2 := box_cell NP13.out 2 (.int .i64 P.mmax) rfl
      have c3 := box_cell NP13.out 3 (.slice sa P.st.length sc) rfl
      have c4 := box_cell NP13.out 4 (.slice wa P.wn.length wc) rfl
      have k0 := box_cell NR.out 0 (.int .i64 P.entry) rfl
      have k1 := box_cell NR.out 1 (.int .i64 P.mmin) rfl
      have k2 := box_cell NR.out 2 (.int .i64 P.mmax) rfl
      have k3 := box_cell NR.out 3 (.slice ra P.st.length rc) rfl
      have k4 := box_cell NR.out 4 (.slice rb P.wn.length rd) rfl
      have SM := Same_any ⟨P, sa, sc, wa, wc⟩ ⟨P, ra, rc, rb, rd⟩ w13 S13.out RO.out
      rw [show decide (PlanP.p ⟨P, sa, sc, wa, wc⟩ = PlanP.p ⟨P, ra, rc, rb, rd⟩) = true from decide_eq_true rfl] at SM
      have SM := Lib.hid SM
      go_wp2_with fail
      refine SM.out.mono ?_; rintro e w14 ⟨rfl, g⟩
      have G14 := Lib.hid (below_step G13.out g)
      clear g SM c0 c1 c2 c3 c4 k0 k1 k2 k3 k4 NP13 NR S13 RO G13
      have q1 : ¬ (E.size : Int) < 32 := by have := H32.out; omega
      have q2 : decide ((E.size : Int) < 32) = false := decide_eq_false q1
      go_upto_region 19 with (fail)
      clear q1 q2
      obtain ⟨cb, rfl⟩ := u8_of hc0 hc1
      obtain ⟨cap, w15, hcv, hr0, hbw, hcp⟩ := RowIs.ofString w14 E
      have hlo : W.heap.size ≤ w14.heap.size := G14.out.size
      have R15 := Lib.hid hr0
      have G15 := Lib.hid (below_step G14.out hbw)
      have HCp := Lib.hid hcp
      obtain ⟨nn, hnn⟩ : ∃ nn, E.size = nn + 32 := ⟨_, H32.out⟩
      have HNn := Lib.hid hnn
      have HLo := Lib.hid hlo
      have hkb := pickZ_bd (c := at') (n := (E.size : Int)) (by omega)
      obtain ⟨k, hkk⟩ := Int.eq_ofNat_of_zero_le hkb.1
      have PK := Lib.hid (fun w => lpick_any at' (E.size : Int) w ⟨ha1, ha2⟩ (by have := HL.out; omega))
      rw [hkk] at hkb PK
      have hkl : k < E.data.toList.length := by rw [blen]; omega
      have HK := Lib.hid hkl
      clear hr0 hbw hcp H32 G14 hnn hkk hlo
      go_upto_region 20 with (fail)
      clear hcv
      generalize w14.heap.size = nb at *
      have y0 := R15.out.2.1 k hkl
      have y1 := R15.out.2.2 k hkl
      have i1 : (0 : Int) ≤ (k : Int) := by omega
      have i2 : (k : Int) < (E.size : Int) := by omega
      have i3 : ((k : Int)).toNat = k := by omega
      clear hkb
      go_wp2_with fail
      refine (PK.out w15).mono ?_; rintro e w15 ⟨rfl, rfl⟩
      have R16 := Lib.hid (RowIs.set R15.out HK.out cb)
      have G16 := Lib.hid (G15.out.setCell (p := ⟨nb, k, none⟩) HLo.out (.int .u8 ((cb.toNat : Nat) : Int)))
      go_upto_region 21 with (fail)
      clear y0 y1 R15 G15
      generalize w15.setCell ⟨nb, k, none⟩ (.int .u8 ((cb.toNat : Nat) : Int)) = w16 at *
      obtain ⟨L, hL⟩ : ∃ L, E.data.toList.set k cb = L := ⟨_, rfl⟩
      rw [hL] at R16
      have hLl : L.length = E.size := by rw [← hL, List.length_set, blen]
      have HLs := Lib.hid hL
      have HLl := Lib.hid hLl
      have hst : (convert 65 9 (.slice (some ⟨nb, 0, none⟩) E.size cap)).run Tryd.prog w16 = .ok (.string (bs L)) w16 := by
        have := R16.out.string cap
        rw [hLl] at this; exact this
      clear hL hLl hkl
      have OT := Lib.hid (open_code (bs L) w16 (by rw [bs_size, HLl.out]; exact HL.out) (HT.out.below G16.out))
      go_wp2_with fail
      refine OT.out.mono ?_; rintro e w17 ⟨⟨m, x0, x1, x2, xa', xl', xc', xb', xn', xd', rfl, hm⟩, g⟩
      have HM := Lib.hid hm
      have hb := below_step g (below_new w17 (.cells #[.int .i64 x0, .int .i64 x1, .int .i64 x2, .slice xa' xl' xc', .slice xb' xn' xd'] 28))
      have R18 := Lib.hid (R16.out.below hb)
      have G18 := Lib.hid (below_step G16.out hb)
      clear g hb OT hst hm R16 G16
      go_upto_region 22 with (fail)
      generalize w17.alloc (.cells #[.int .i64 x0, .int .i64 x1, .int .i64 x2, .slice xa' xl' xc', .slice xb' xn' xd'] 28) = w18 at *
      go_wp2_with fail
      refine (PK.out w18).mono ?_; rintro e w18 ⟨rfl, rfl⟩
      have i4 : (k : Int) ≤ (E.size : Int) := by omega
      have hX : (E.extract 0 k).size ≤ 2000 := by rw [ByteArray.size_extract]; have := HL.out; omega
      obtain ⟨ec, hec⟩ : ∃ ec, openR (E.extract 0 k) = .error ec := by
        cases h : openR (E.extract 0 k) with
        | error ec => exact ⟨ec, rfl⟩
        | ok q =>
          exfalso
          rw [bs_extract, HE1.out] at h
          exact cut_no (by rw [HR.out]) (by rw [← HE1.out]; exact HK.out) h
      have hne : (ec != 0) = true := bne_iff_ne.2 (openR_err hec)
      have HNe := Lib.hid hne
      have OC := Lib.hid (open_none (E.extract 0 k) w18 hX (HT.out.below G18.out) hec)
      clear hX hec hne
      go_wp2_with fail
      refine OC.out.mono ?_; rintro e w19 ⟨rfl, g⟩
      have hb := below_step g (below_new w19 (.cells #[.int .i64 0, .int .i64 0, .int .i64 0, .slice none 0 0, .slice none 0 0] 28))
      have R20 := Lib.hid (R18.out.below hb)
      have G20 := Lib.hid (below_step G18.out hb)
      clear g hb OC R18 G18 i1 i2 i3 i4
      go_upto_region 23 with (fail)
      generalize w19.alloc (.cells #[.int .i64 0, .int .i64 0, .int .i64 0, .slice none 0 0, .slice none 0 0] 28) = w20 at *
      have h2 := HL.out
      have h3 := HNn.out
      have z0 : (0 : Int) ≤ (E.size : Int) - 32 := by omega
      have z1 : (E.size : Int) - 32 ≤ (E.size : Int) := by omega
      have z2 : ((E.size : Int) - 32).toNat = nn := by omega
      have z3 : (E.size : Int) - 32 ≤ (cap : Int) := by have := HCp.out; omega
      have hst : (convert 65 9 (.slice (some ⟨nb, 0, none⟩) nn cap)).run Tryd.prog w20 = .ok (.string (bs (L.take nn))) w20 := by
        have := (R20.out.take nn).string cap
        rw [List.length_take, HLl.out, Nat.min_eq_left (by omega)] at this; exact this
      go_upto_region 25 with (fail)
      clear hst z0 z1 z2 z3 h2 h3
      obtain ⟨T1, hT1⟩ : ∃ T1, E.extract 0 nn = T1 := ⟨_, rfl⟩
      obtain ⟨T2, hT2⟩ : ∃ T2, bs (L.take nn) = T2 := ⟨_, rfl⟩
      rw [hT1, hT2]
      have hF : (m = 0 ∧ (bs L = E ∨ (T1 ≠ T2 ∧ Wb.Sha.shaS T1 = Wb.Sha.shaS T2))) ∨ (m ≠ 0 ∧ bs L ≠ E) := by
        rcases HM.out with ⟨h1, q, hq⟩ | ⟨h1, hq⟩
        · refine .inl ⟨h1, ?_⟩
          have hn : (certB P).data.toList.length = nn + 32 := by rw [← HE1.out, blen]; exact HNn.out
          rw [← HLs.out, HE1.out] at hq
          rcases tamper hn hq with h | ⟨h, h'⟩
          · left; rw [← HLs.out, HE1.out]; exact h
          · right
            rw [← hT1, ← hT2, bs_extract, ← HLs.out, HE1.out]
            exact ⟨fun e => h (bs_inj e), h'⟩
        · refine .inr ⟨h1, fun e => ?_⟩
          rw [e, HE1.out, open_cert (by rw [HR.out])] at hq
          cases hq
      have HT1 := Lib.hid (show T1.size ≤ 2000 by rw [← hT1, ByteArray.size_extract]; have := HL.out; omega)
      have HT2 := Lib.hid (show T2.size ≤ 2000 by rw [← hT2, bs_size, List.length_take]; have := HLl.out; have := HL.out; omega)
      clear hT1 hT2
      obtain ⟨S, hS⟩ : ∃ S, bs L = S := ⟨_, rfl⟩
      rw [hS] at hF
      have HS := Lib.hid hS
      clear hS
      by_cases hbo : T1 = T2
      · subst hbo
        have n1 : (T1.toList != T1.toList) = false := by simp [bne]
        have HFF := Lib.hid hF
        clear hF
        go_upto_region 26 with (fail)
        have hF := HFF.out
        clear HFF n1
        have hst : (convert 65 9 (.slice (some ⟨nb, 0, none⟩) E.size cap)).run Tryd.prog w20 = .ok (.string (S)) w20 := by
          have := R20.out.string cap
          rw [HLl.out, show (⟨L.toArray⟩ : ByteArray) = S from HS.out] at this; exact this
        have n3 := HNe.out
        rcases hF with ⟨rfl, hF⟩ | ⟨hm0, hne⟩
        · by_cases hbe : S = E
          · have n4 : ((S).toList == E.toList) = true := by rw [hbe]; simp
            have n5 : ((S).toList != E.toList) = false := by rw [hbe]; simp [bne]
            clear hbe hF
            go_wp2_with fail
            go_ret
            exact ⟨rfl, G20.out⟩
          · exfalso
            rcases hF with h | ⟨h1, h2⟩
            · exact hbe h
            · exact h1 rfl
        · have n4 : ((S).toList == E.toList) = false := toList_ne hne
          have n5 : ((S).toList != E.toList) = true := toList_nb hne
          have n6 : (m != 0) = true := bne_iff_ne.2 hm0
          have n7 : (m == 0) = false := beq_eq_false_iff_ne.2 hm0
          clear hm0 hne
          go_wp2_with fail
          go_ret
          exact ⟨rfl, G20.out⟩
      have n1 : (T1.toList != T2.toList) = true := toList_nb hbo
      have n1' : ¬ T1.toList = T2.toList := fun e => hbo (rc_toList e)
      have n1'' : (T1.toList == T2.toList) = false := toList_ne hbo
      have HFF := Lib.hid hF
      clear hF hbo
      have RS1 := Lib.hid (Wb.refSum_any T1 w20 HT1.out)
      go_wp2_with fail
      refine RS1.out.mono ?_; rintro e w21 ⟨rfl, g1⟩
      have RS2 := Lib.hid (Wb.refSum_any T2 w21 HT2.out)
      have G21 := Lib.hid g1
      clear g1
      go_wp2_with fail
      refine RS2.out.mono ?_; rintro e w22 ⟨rfl, g2⟩
      have R22 := Lib.hid ((R20.out.below G21.out).below g2)
      have G22 := Lib.hid (below_step (below_step G20.out G21.out) g2)
      clear g2 RS1 RS2 G21 R20 G20
      obtain ⟨D1, hD1⟩ : ∃ D1, Wb.Sha.shaS T1 = D1 := ⟨_, rfl⟩
      obtain ⟨D2, hD2⟩ : ∃ D2, Wb.Sha.shaS T2 = D2 := ⟨_, rfl⟩
      rw [hD1, hD2] at HFF
      rw [hD1, hD2]
      clear hD1 hD2
      by_cases hds : D1 = D2
      · subst hds
        have n2 : (D1.toList == D1.toList) = true := by simp
        go_upto_region 26 with (fail)
        have hF := HFF.out
        clear HFF
        have hst : (convert 65 9 (.slice (some ⟨nb, 0, none⟩) E.size cap)).run Tryd.prog w22 = .ok (.string (S)) w22 := by
          have := R22.out.string cap
          rw [HLl.out, show (⟨L.toArray⟩ : ByteArray) = S from HS.out] at this; exact this
        have n3 := HNe.out
        rcases hF with ⟨rfl, hF⟩ | ⟨hm0, hne⟩
        · by_cases hbe : S = E
          · have n4 : ((S).toList == E.toList) = true := by rw [hbe]; simp
            have n5 : ((S).toList != E.toList) = false := by rw [hbe]; simp [bne]
            clear hbe hF
            go_wp2_with fail
            go_ret
            exact ⟨rfl, G22.out⟩
          · have n4 : ((S).toList == E.toList) = false := toList_ne hbe
            have n5 : ((S).toList != E.toList) = true := toList_nb hbe
            clear hbe hF
            go_wp2_with fail
            go_ret
            exact ⟨rfl, G22.out⟩
        · have n4 : ((S).toList == E.toList) = false := toList_ne hne
          have n5 : ((S).toList != E.toList) = true := toList_nb hne
          have n6 : (m != 0) = true := bne_iff_ne.2 hm0
          have n7 : (m == 0) = false := beq_eq_false_iff_ne.2 hm0
          clear hm0 hne
          go_wp2_with fail
          go_ret
          exact ⟨rfl, G22.out⟩
      · have n2 : (D1.toList == D2.toList) = false := toList_ne hds
        have n2' : ¬ D1.toList = D2.toList := fun e => hds (rc_toList e)
        have HDs := Lib.hid hds
        clear hds
        go_upto_region 26 with (fail)
        have hF := HFF.out
        clear HFF
        have hst : (convert 65 9 (.slice (some ⟨nb, 0, none⟩) E.size cap)).run Tryd.prog w22 = .ok (.string (S)) w22 := by
          have := R22.out.string cap
          rw [HLl.out, show (⟨L.toArray⟩ : ByteArray) = S from HS.out] at this; exact this
        have n3 := HNe.out
        rcases hF with ⟨rfl, hF⟩ | ⟨hm0, hne⟩
        · by_cases hbe : S = E
          · have n4 : ((S).toList == E.toList) = true := by rw [hbe]; simp
            have n5 : ((S).toList != E.toList) = false := by rw [hbe]; simp [bne]
            clear hbe hF
            go_wp2_with fail
            go_ret
            exact ⟨rfl, G22.out⟩
          · exfalso
            rcases hF with h | ⟨h1, h2⟩
            · exact hbe h
            · exact HDs.out h2
        · have n4 : ((S).toList == E.toList) = false := toList_ne hne
          have n5 : ((S).toList != E.toList) = true := toList_nb hne
          have n6 : (m != 0) = true := bne_iff_ne.2 hm0
          have n7 : (m == 0) = false := beq_eq_false_iff_ne.2 hm0
          clear hm0 hne
          go_wp2_with fail
          go_ret
          exact ⟨rfl, G22.out⟩
end Go.Proofs.YtihohjgjklcnlaaDoor

namespace Go.Proofs.YtihohjgjklcnlaaDoor.lawCertifyRoundTrip
open Go.ChangeShapes Go.WideShapes Go.ChangeAt Go.RowKit
open Go.ChangeMaps (open_string shut_string)

set_option maxRecDepth 100000 in
theorem lifted (os : Os) (started : os.Started) (H : Type) (enc : TypeId × Value → H) :
    ReturnsInHanded {} Tryd.checked os 8 .any (fun w args => (Rows.certifyRoundTripSpec.pre enc Tryd.prog Tryd.f8 [] false w args ∧ laidMetH Tryd.prog laidList w) ∧ sizedMet enc Tryd.prog Tryd.f8 (OpenSpec.ofChange Rows.certifyRoundTripSpec) false w args)
      (Rows.certifyRoundTripSpec.post enc Tryd.prog Tryd.f8 false true false false) := by
  refine returnsInHanded_of_change_and (C := Tryd.checked) (X := fun w _ => laidMetH Tryd.prog laidList w) (fun _ _ _ hh h => h.of_heap hh) own started (by kernel_rfl) Tryd.func8
    (ChangeSpec.witness_shaped (enc := enc) (C := Tryd.checked) (os := os) (X := fun w _ => laidMetH Tryd.prog laidList w) false (World.doorLaid Tryd.prog 400 os) #[.slice none 0 0, .bool false, .int .i64 0, .int .u8 0, .string ByteArray.empty] 8 rfl (World.shaped_of_RefB (by kernel_rfl) (by kernel_rfl)) (by kernel_rfl) (by kernel_rfl) (by kernel_rfl) (door_met os _)) ?_
  intro W base args ds gs before hval0 hW _ _ hL _
  have hval : ∀ (j : Nat) t v, Tryd.f8.params[j]? = some t → args[j]? = some v → Value.okWide Tryd.prog W .any base t v := hval0
  have hW' := hW
  obtain ⟨p, q, hA0, hV, rfl, hfz, hnd⟩ := hW
  have hA : DataW.TrodAll enc Tryd.prog W 0 (fun _ => true) true Tryd.f8.params.toList args.toList ds p := hA0
  rw [Tryd.params8] at hA hval
  obtain ⟨v0, vs0, d0, ds0, p0, q0, hargs, rfl, rfl, h0, r0⟩ := trodAll_cons hA
  obtain ⟨v1, vs1, d1, ds1, p1, q1, rfl, rfl, rfl, h1, r1⟩ := trodAll_cons r0
  obtain ⟨v2, vs2, d2, ds2, p2, q2, rfl, rfl, rfl, h2, r2⟩ := trodAll_cons r1
  obtain ⟨v3, vs3, d3, ds3, p3, q3, rfl, rfl, rfl, h3, r3⟩ := trodAll_cons r2
  obtain ⟨v4, vs4, d4, ds4, p4, q4, rfl, rfl, rfl, h4, r4⟩ := trodAll_cons r3
  obtain ⟨rfl, rfl, rfl⟩ := trodAll_nil r4
  obtain rfl : args = #[v0, v1, v2, v3, v4] := by cases args; simp_all
  obtain ⟨rfl, rfl⟩ := trodVars_none hV
  have k0 := h0
  have lt0 : ∀ x ∈ p0, x.block < W.heap.size := by obtain ⟨m, hm⟩ := k0; exact DataW.trod_lt m _ _ _ hm
  have k1 := h1
  have lt1 : ∀ x ∈ p1, x.block < W.heap.size := by obtain ⟨m, hm⟩ := k1; exact DataW.trod_lt m _ _ _ hm
  have k2 := h2
  have lt2 : ∀ x ∈ p2, x.block < W.heap.size := by obtain ⟨m, hm⟩ := k2; exact DataW.trod_lt m _ _ _ hm
  have k3 := h3
  have lt3 : ∀ x ∈ p3, x.block < W.heap.size := by obtain ⟨m, hm⟩ := k3; exact DataW.trod_lt m _ _ _ hm
  have k4 := h4
  have lt4 : ∀ x ∈ p4, x.block < W.heap.size := by obtain ⟨m, hm⟩ := k4; exact DataW.trod_lt m _ _ _ hm
  obtain ⟨a0, c0, z0, rfl, w0⟩ := open_sixes (hval 0 22 v0 rfl rfl) h0
  obtain ⟨a1, rfl, hd1, hp1⟩ := open_bool Tryd.underlying4 (hval 1 4 v1 rfl rfl) h1
  obtain ⟨a2, rfl, hd2, hp2, w2⟩ := open_int Tryd.underlying3 (hval 2 3 v2 rfl rfl) h2
  have b2 := bounds_i64 w2
  obtain ⟨a3, rfl, hd3, hp3, w3⟩ := open_int Tryd.underlying5 (hval 3 5 v3 rfl rfl) h3
  have b3 := bounds_u8 w3
  obtain ⟨a4, rfl, hd4, hp4, w4⟩ := open_string Tryd.underlying9 (hval 4 9 v4 rfl rfl) h4
  clear hA0 hval0
  refine (roundTrip_any a0 c0 z0 a1 a2 a3 a4 W (tab_of_laid hL) w0 b2.1 b2.2 b3.1 b3.2 w4).mono fun e W' ⟨he, bel⟩ => ?_
  subst he
  exact ⟨_, rfl, _, _, _, [], _, [], hW', trodAll_mk1 (shut_bool Tryd.underlying4 _), (trodAll_cons_mk (Below.trod laidOut (by kernel_rfl) (of_decide_eq_true (by kernel_rfl)) k0 bel lt0) (trodAll_cons_mk (Below.trod laidOut (by kernel_rfl) (of_decide_eq_true (by kernel_rfl)) k1 bel lt1) (trodAll_cons_mk (Below.trod laidOut (by kernel_rfl) (of_decide_eq_true (by kernel_rfl)) k2 bel lt2) (trodAll_cons_mk (Below.trod laidOut (by kernel_rfl) (of_decide_eq_true (by kernel_rfl)) k3 bel lt3) (trodAll_cons_mk (Below.trod laidOut (by kernel_rfl) (of_decide_eq_true (by kernel_rfl)) k4 bel lt4) trodAll_mk0))))), rfl, bel.frame _, fun h => by cases h⟩

theorem over : Rows.certifyRoundTripRow.holds Tryd.pinned (OpenSpec.ofChange Rows.certifyRoundTripSpec) :=
  OpenClaim.holds_of_wide 8 Tryd.f8 rfl rfl rfl rfl rfl rfl rfl ⟨rfl, rfl, rfl, rfl, rfl⟩ rfl rfl rfl rfl rfl (by kernel_rfl) Tryd.func8 (by kernel_rfl)
    (of_decide_eq_true (by kernel_rfl)) (by unfold Func.isWrapper; rw [if_neg (of_decide_eq_false (by kernel_rfl))]; exact ⟨rfl, rfl⟩)
    (fun os started H enc _ => lifted os started H enc)

theorem proved : Rows.CertifyRoundTripCardSaid :=
  Claim7.holds_tied_plain_at .later [] [.data] true (true, "5525114c7adf425dbb03f7f3d5bfd400766d8dc32cebf7ba860010d8e3e61684") true
    over (fun _ h => by cases h) (by kernel_rfl) (fun _ h => by cases h) certifyRoundTrip_row_tie rfl ⟨rfl, rfl⟩ (by kernel_rfl) rfl
    (fun f fn hf hfn => by
      obtain rfl : f = 8 := Option.some.inj ((show Tryd.prog.funcNamed "cleanroom/cleanroomlaw09.CertifyRoundTrip" = some 8 by kernel_rfl).symm.trans hf) |>.symm
      obtain rfl : fn = Tryd.f8 := (Option.some.inj (Tryd.func8.symm.trans hfn)).symm
      exact ⟨by kernel_rfl, fun j t ht => by
        rw [Tryd.params8] at ht
        have hm : t ∈ [22, 4, 3, 5, 9] := by simpa using Array.mem_of_getElem? ht
        have hall : ([22, 4, 3, 5, 9].all fun u => !Tryd.prog.wantsStandIn u) = true := by kernel_rfl
        exact (show Tryd.prog.wantsStandIn t = false by simpa using List.all_eq_true.1 hall t hm)⟩)
    (by kernel_rfl)
#print axioms proved
end Go.Proofs.YtihohjgjklcnlaaDoor.lawCertifyRoundTrip
