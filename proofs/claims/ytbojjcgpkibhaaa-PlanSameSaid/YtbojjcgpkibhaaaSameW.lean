/-
  PlanSame walked: plans that differ in one place are told apart.
-/
import Derived.Test.YtbojjcgpkibhaaaMw
import Derived.Test.YtbojjcgpkibhaaaSa
import Derived.Test.YtbojjcgpkibhaaaEq
import Derived.Test.YtbojjcgpkibhaaaCd
import Derived.Test.YtbojjcgpkibhaaaTwo
import Derived.Deep.DeepCutAuto
import Derived.Deep.CutBlock
import Derived.Deep.AppendLies
namespace Go.Proofs.Ytbojjcgpkibhaaa
open Go.RowKit

theorem own_slice_some {w : World} {B : Nat} {t : TypeId} {k : Nat} {a : Option Addr} {n c : Nat} {xs : List Value} (h : w.ownsRow B t k (.slice a n c) n xs) (hn : 0 < n) : ∃ g : Nat, ∃ cap : Nat, a = some ⟨g, 0, none⟩ ∧ cap = c := by
  obtain ⟨a', c', e, h1, h2, h3⟩ := own_slice h
  injection e with e1 _ e2
  subst e1
  obtain ⟨g, hg, -⟩ := h3 hn
  exact ⟨g, c, hg, rfl⟩
theorem set_ne {l : List Pl.Stage} {i : Nat} {x : Pl.Stage} (hi : i < l.length) (h : l[i] ≠ x) : l ≠ l.set i x := by
  intro e
  have := congrArg (fun l => l[i]?) e
  simp only [List.getElem?_set_self hi, List.getElem?_eq_getElem hi] at this
  injection this with this
  exact h this
set_option maxRecDepth 100000 in
set_option maxHeartbeats 4000000 in
theorem same_any (xa : Option Addr) (xc : Nat) (X : List (List Int)) (what which : Int) (W : World) (hX : ArrsA 6 W xa xc X) (f1 : Fits what) (f2 : Fits which) :
    Calls Try.prog 10 #[.slice xa X.length xc, .int .i64 what, .int .i64 which] W fun e w' => e = .returned (.bool true) ∧ Below W.heap.size W w' := by
  have HX := Lib.hid hX; clear hX
  have HFi := Lib.hid (Pl.made_fine X)
  have hl := Pl.mkN_bd X
  rw [← Pl.made_len X] at hl
  obtain ⟨hl1, hl5⟩ := hl
  go_enter Try.func10, Try.ntmps10
  go_wp2_with fail
  refine (sane_any W).mono ?_; rintro e w1 ⟨rfl, g1⟩
  have G1 := Lib.hid g1; clear g1
  go_wp2_with fail
  refine (Made_any X xa xc w1 (HX.out.below G1.out)).mono ?_; rintro e w2 ⟨sa, sc, wa, wc1, rfl, s1, s2, g2⟩
  have G2 := Lib.hid (below_step G1.out g2)
  have S2 := Lib.hid s1; have T2 := Lib.hid s2
  clear g2 s1 s2
  go_upto_region 3 with (fail)
  have NP := Lib.hid (heap_alloc_new w2 (planObj ⟨Pl.made X, sa, sc, wa, wc1⟩))
  have GP := Lib.hid (below_new w2 (planObj ⟨Pl.made X, sa, sc, wa, wc1⟩))
  have eL : w2.alloc (.cells #[.int .i64 (Pl.made X).entry, .int .i64 (Pl.made X).mmin, .int .i64 (Pl.made X).mmax, .slice sa (Pl.made X).st.length sc, .slice wa (Pl.made X).wn.length wc1] 28) = w2.alloc (planObj ⟨Pl.made X, sa, sc, wa, wc1⟩) := rfl
  rw [eL]
  clear eL
  generalize w2.alloc (planObj ⟨Pl.made X, sa, sc, wa, wc1⟩) = w3 at *
  generalize hn8 : w2.heap.size = n8 at *
  have H8 := Lib.hid hn8
  clear hn8
  go_wp2_with fail
  refine (Made_any X xa xc w3 (HX.out.below (below_step G2.out (by rw [H8.out]; exact GP.out)))).mono ?_; rintro e w4 ⟨sb, sd, wb, wd, rfl, s3, s4, g4⟩
  have G4 := Lib.hid g4
  have S4 := Lib.hid s3; have T4 := Lib.hid s4
  clear g4 s3 s4
  go_upto_region 4 with (fail)
  have TM : Hid (TwoM W w3.heap.size n8 w4.heap.size ⟨Pl.made X, sa, sc, wa, wc1⟩ ⟨Pl.made X, sb, sd, wb, wd⟩ (w4.alloc (planObj ⟨Pl.made X, sb, sd, wb, wd⟩))) := Lib.hid (by
    have GP' : Below w2.heap.size w2 w3 := by rw [H8.out]; exact GP.out
    have hb := below_step G4.out (below_new w4 (planObj ⟨Pl.made X, sb, sd, wb, wd⟩))
    have hs2 := own_below (S2.out : w2.ownsRow _ _ _ _ _ _) GP'
    have ht2 := own_below (T2.out : w2.ownsRow _ _ _ _ _ _) GP'
    obtain ⟨a1, c1, e1, k1, l1⟩ := RowO.arg stage_len (S2.out.below GP')
    injection e1 with e1 _ e2
    obtain ⟨a2, c2, e3, k2, l2⟩ := RowO.arg win_len (T2.out.below GP')
    injection e3 with e3 _ e4
    subst e1; subst e2; subst e3; subst e4
    refine ⟨box_below NP.out hb, heap_alloc_new _ _, k1.below hb, k2.below hb, ⟨fun x hx => (S2.out.below GP' |>.lt _ (l1 x hx)).2, fun x hx => (T2.out.below GP' |>.lt _ (l2 x hx)).2, lt_of_block NP.out⟩, S4.out.below (below_new _ _), T4.out.below (below_new _ _), G4.out.size, below_step (below_step G2.out GP') hb, ?_⟩
    exact Nat.le_trans G2.out.size GP'.size)
  have eL : w4.alloc (.cells #[.int .i64 (Pl.made X).entry, .int .i64 (Pl.made X).mmin, .int .i64 (Pl.made X).mmax, .slice sb (Pl.made X).st.length sd, .slice wb (Pl.made X).wn.length wd] 28) = w4.alloc (planObj ⟨Pl.made X, sb, sd, wb, wd⟩) := rfl
  rw [eL]
  clear eL G1 G2 G4 S2 T2 S4 T4 NP GP HX H8
  generalize w4.alloc (planObj ⟨Pl.made X, sb, sd, wb, wd⟩) = wx at *
  generalize w4.heap.size = n9 at *
  generalize w3.heap.size = B at *
  generalize Pl.made X = P at *
  obtain ⟨en, mi, ma, st, wn⟩ := P
  simp only at hl1 hl5
  have CI := Lib.hid (pick_any which st.length)
  have C7 := Lib.hid (pick_any what 7)
  have hwi := pickZ_bd (c := which) (n := st.length) (by omega)
  have hwa := pickZ_bd (c := what) (n := 7) (by omega)
  generalize hpi : pickZ which st.length = pi at *
  generalize pickZ what 7 = c at *
  clear hpi
  obtain ⟨i, rfl⟩ := Int.eq_ofNat_of_zero_le hwi.1
  obtain ⟨hc0, hc7⟩ := hwa
  have hil : i < st.length := by omega
  clear hwi
  have SM := Lib.hid (fun (v : World) (hv : Below wx.heap.size wx v) => Same_any ⟨⟨en, mi, ma, st, wn⟩, sa, sc, wa, wc1⟩ ⟨⟨en, mi, ma, st, wn⟩, sb, sd, wb, wd⟩ v ((⟨TM.out.ps, TM.out.pw⟩ : PlanP.ok ⟨⟨en, mi, ma, st, wn⟩, sa, sc, wa, wc1⟩ wx).below hv) (TM.out.arg.below hv))
  have SN := Lib.hid (fun (v : World) (hv : Below wx.heap.size wx v) => Same_any ⟨⟨en, mi, ma, st, wn⟩, sb, sd, wb, wd⟩ ⟨⟨en, mi, ma, st, wn⟩, sa, sc, wa, wc1⟩ v (TM.out.arg.below hv) ((⟨TM.out.ps, TM.out.pw⟩ : PlanP.ok ⟨⟨en, mi, ma, st, wn⟩, sa, sc, wa, wc1⟩ wx).below hv))
  simp only at SM SN
  have p0 := box_cell TM.out.pb 0 (.int .i64 en) rfl
  have p1 := box_cell TM.out.pb 1 (.int .i64 mi) rfl
  have p2 := box_cell TM.out.pb 2 (.int .i64 ma) rfl
  have p3 := box_cell TM.out.pb 3 (.slice sa st.length sc) rfl
  have p4 := box_cell TM.out.pb 4 (.slice wa wn.length wc1) rfl
  have q0 := box_cell TM.out.qb 0 (.int .i64 en) rfl
  have q1 := box_cell TM.out.qb 1 (.int .i64 mi) rfl
  have q2 := box_cell TM.out.qb 2 (.int .i64 ma) rfl
  have q3 := box_cell TM.out.qb 3 (.slice sb st.length sd) rfl
  have q4 := box_cell TM.out.qb 4 (.slice wb wn.length wd) rfl
  go_wp2_with fail
  refine (CI.out _ f2 (by omega)).mono ?_; rintro e wz ⟨rfl, rfl⟩
  go_wp2_with fail
  refine (SM.out _ (Below.refl _ _)).mono ?_; rintro e wy ⟨rfl, g5⟩
  clear p0 p1 p2 p3 p4 q0 q1 q2 q3 q4
  have PB5 := box_below TM.out.pb g5
  have QB5 := box_below TM.out.qb g5
  have p0 := box_cell PB5 0 (.int .i64 en) rfl
  have p1 := box_cell PB5 1 (.int .i64 mi) rfl
  have p2 := box_cell PB5 2 (.int .i64 ma) rfl
  have p3 := box_cell PB5 3 (.slice sa st.length sc) rfl
  have p4 := box_cell PB5 4 (.slice wa wn.length wc1) rfl
  have q0 := box_cell QB5 0 (.int .i64 en) rfl
  have q1 := box_cell QB5 1 (.int .i64 mi) rfl
  have q2 := box_cell QB5 2 (.int .i64 ma) rfl
  have q3 := box_cell QB5 3 (.slice sb st.length sd) rfl
  have q4 := box_cell QB5 4 (.slice wb wn.length wd) rfl
  go_wp2_with fail
  refine (SN.out _ g5).mono ?_; rintro e wu ⟨rfl, g6⟩
  have TM2 := Lib.hid (TM.out.step (below_step g5 g6))
  clear p0 p1 p2 p3 p4 q0 q1 q2 q3 q4 PB5 QB5 g5 g6 SM SN TM
  go_wp2_with fail
  refine (C7.out _ f1 (by omega)).mono ?_; rintro e wv ⟨rfl, rfl⟩
  go_upto_block 0 with (fail)
  go_cut [7, 8, 9, 11] (fun s7 s8 s9 s11 wx => s7 = .bool true ∧ s8 = .pointer (some ⟨n8, 0, none⟩) ∧ s9 = .pointer (some ⟨n9, 0, none⟩) ∧ s11 = .bool true ∧ ∃ q : PlanP, Hid (Apart W n8 n9 ⟨⟨en, mi, ma, st, wn⟩, sa, sc, wa, wc1⟩ q wx))
  case first => as_aux_lemma =>
    have d0 := box_cell TM2.out.qb 0 (.int .i64 en) rfl
    have d1 := box_cell TM2.out.qb 1 (.int .i64 mi) rfl
    have d2 := box_cell TM2.out.qb 2 (.int .i64 ma) rfl
    have d3 := box_cell TM2.out.qb 3 (.slice sb st.length sd) rfl
    have d4 := box_cell TM2.out.qb 4 (.slice wb wn.length wd) rfl
    have z0 := box_fz TM2.out.qb 0
    have z1 := box_fz TM2.out.qb 1
    have z2 := box_fz TM2.out.qb 2
    have z3 := box_fz TM2.out.qb 3
    have z4 := box_fz TM2.out.qb 4
    have hlt := lt_of_block TM2.out.qb
    have hV := HFi.out.v
    have b0 := hV.entry; have b1 := hV.mmin; have b2 := hV.mmax
    simp only at b0 b1 b2
    have e0 : IntKind.i64.wrap (en + 1) = en + 1 := IntWalk.i64_in _ (by omega)
    have e1 : IntKind.i64.wrap (mi + 1) = mi + 1 := IntWalk.i64_in _ (by omega)
    have e2 : IntKind.i64.wrap (ma + 1) = ma + 1 := IntWalk.i64_in _ (by omega)
    have e3 : IntKind.i64.wrap ((st.length : Int) - 1) = ((st.length - 1 : Nat) : Int) := by rw [IntWalk.i64_in _ (by omega)]; omega
    clear hV b0 b1 b2
    rcases Classical.em (c = 0) with hc0 | hc0
    · subst hc0
      have k0 : ((0 : Int) == 0) = true := by decide
      have k1 : ((0 : Int) == 1) = false := by decide
      have k2 : ((0 : Int) == 2) = false := by decide
      have k3 : ((0 : Int) == 3) = false := by decide
      have k4 : ((0 : Int) == 4) = false := by decide
      have k5 : ((0 : Int) == 5) = false := by decide
      go_wp2_with fail
      have AP := TM2.out.box (o := 0) (u := .int .i64 (en + 1)) (en' := en + 1) (mi' := mi) (ma' := ma) (st' := st) rfl (fun _ h => h) (by intro e; injection e; omega)
      go_meet
      exact ⟨rfl, rfl, rfl, rfl, _, Lib.hid AP⟩
    rcases Classical.em (c = 1) with hc1 | hc1
    · subst hc1
      have k0 : ((1 : Int) == 0) = false := by decide
      have k1 : ((1 : Int) == 1) = true := by decide
      have k2 : ((1 : Int) == 2) = false := by decide
      have k3 : ((1 : Int) == 3) = false := by decide
      have k4 : ((1 : Int) == 4) = false := by decide
      have k5 : ((1 : Int) == 5) = false := by decide
      go_wp2_with fail
      have AP := TM2.out.box (o := 1) (u := .int .i64 (mi + 1)) (en' := en) (mi' := mi + 1) (ma' := ma) (st' := st) rfl (fun _ h => h) (by intro e; injection e; omega)
      go_meet
      exact ⟨rfl, rfl, rfl, rfl, _, Lib.hid AP⟩
    rcases Classical.em (c = 2) with hc2 | hc2
    · subst hc2
      have k0 : ((2 : Int) == 0) = false := by decide
      have k1 : ((2 : Int) == 1) = false := by decide
      have k2 : ((2 : Int) == 2) = true := by decide
      have k3 : ((2 : Int) == 3) = false := by decide
      have k4 : ((2 : Int) == 4) = false := by decide
      have k5 : ((2 : Int) == 5) = false := by decide
      go_wp2_with fail
      have AP := TM2.out.box (o := 2) (u := .int .i64 (ma + 1)) (en' := en) (mi' := mi) (ma' := ma + 1) (st' := st) rfl (fun _ h => h) (by intro e; injection e; omega)
      go_meet
      exact ⟨rfl, rfl, rfl, rfl, _, Lib.hid AP⟩
    rcases Classical.em (c = 3) with hc3 | hc3
    · subst hc3
      have k0 : ((3 : Int) == 0) = false := by decide
      have k1 : ((3 : Int) == 1) = false := by decide
      have k2 : ((3 : Int) == 2) = false := by decide
      have k3 : ((3 : Int) == 3) = true := by decide
      have k4 : ((3 : Int) == 4) = false := by decide
      have k5 : ((3 : Int) == 5) = false := by decide
      have hsq := TM2.out.arg.st
      simp only at hsq
      obtain ⟨g, cap, hg, hrow⟩ := own_slice_some TM2.out.qs (show 0 < st.length by omega)
      simp only at hg
      subst hg
      obtain ⟨b', off', ebo, -, s0, s1, s2, s3, s4, s5⟩ := st_getD2 hsq hil
      injection ebo with ebo
      injection ebo with eb eo
      subst eb; subst eo
      have hst : st.getD i Pl.stage0 = st[i] := by rw [List.getD_eq_getElem?_getD, List.getElem?_eq_getElem hil]; rfl
      rw [hst] at s5
      have hsm := HFi.out.s st[i] (List.getElem_mem hil)
      have bm := hsm.mn; have bs := hsm.ss
      have ef : IntKind.i64.wrap (st[i].s.start + 1) = st[i].s.start + 1 := IntWalk.i64_in _ (by omega)
      have i1 : (0 : Int) ≤ (i : Int) := by omega
      have i2 : (i : Int) < (st.length : Int) := by omega
      have i4 : ((i : Int)).toNat = i := by omega
      have hx : Hid (st[i].s.start = st[i].s.start) := Lib.hid rfl
      have AP := Lib.hid (TM2.out.field (i := i) (o := 5) (u := .int .i64 (st[i].s.start + 1)) (x := { st[i] with s := { st[i].s with start := st[i].s.start + 1 } }) hil (by decide) rfl rfl (by intro e; injection e with _ _ _ e; exact set_ne hil (by intro e; have := congrArg (fun y => y.s.start) e; simp only at this; omega) e))
      obtain ⟨cs, hcs⟩ := own_block TM2.out.qs (show (Value.slice (some ⟨g, 0, none⟩) st.length sd).ownBlock = some g from rfl)
      have zf := box_fz hcs (0 + i * 6 + 5)
      have hlg := lt_of_block hcs
      rw [Nat.zero_add] at s5 zf AP
      clear hsq hsm bm bs hx hcs hst
      generalize st[i].s.start = old at *
      go_wp2_with fail
      go_meet
      exact ⟨rfl, rfl, rfl, rfl, _, Lib.hid AP.out⟩
    rcases Classical.em (c = 4) with hc4 | hc4
    · subst hc4
      have k0 : ((4 : Int) == 0) = false := by decide
      have k1 : ((4 : Int) == 1) = false := by decide
      have k2 : ((4 : Int) == 2) = false := by decide
      have k3 : ((4 : Int) == 3) = false := by decide
      have k4 : ((4 : Int) == 4) = true := by decide
      have k5 : ((4 : Int) == 5) = false := by decide
      have hlen : (st.take (st.length - 1)).length = st.length - 1 := by rw [List.length_take]; omega
      have AP := Lib.hid (TM2.out.box (o := 3) (u := .slice sb (st.length - 1) sd) (en' := en) (mi' := mi) (ma' := ma) (st' := st.take (st.length - 1)) (by rw [hlen]; rfl) (fun _ h => h.take _) (by intro e; injection e with _ _ _ e; have := congrArg List.length e; omega))
      have hcap : st.length ≤ sd := TM2.out.arg.st.1
      have h5 : ((st.length - 1 : Nat) : Int) ≤ (sd : Int) := by omega
      have h6 : (0 : Int) ≤ ((st.length - 1 : Nat) : Int) := by omega
      have h7 : (((st.length - 1 : Nat) : Int)).toNat = st.length - 1 := by omega
      clear hlen
      go_wp2_with fail
      go_meet
      exact ⟨rfl, rfl, rfl, rfl, _, Lib.hid AP.out⟩
    rcases Classical.em (c = 5) with hc5 | hc5
    · subst hc5
      have k0 : ((5 : Int) == 0) = false := by decide
      have k1 : ((5 : Int) == 1) = false := by decide
      have k2 : ((5 : Int) == 2) = false := by decide
      have k3 : ((5 : Int) == 3) = false := by decide
      have k4 : ((5 : Int) == 4) = false := by decide
      have k5 : ((5 : Int) == 5) = true := by decide
      have HOwn := Lib.hid (show (wu.alloc (.cells #[.int .i64 9, .int .i64 9, .int .i64 0] 47)).ownsRow B 47 3 (.slice wb wn.length wd) wn.length (wn.flatMap winCells) from own_below TM2.out.qw (below_new _ _))
      have HNW := Lib.hid (World.news_of_block (w := wu.alloc (.cells #[.int .i64 9, .int .i64 9, .int .i64 0] 47)) (B := wu.heap.size) (cs := #[.int .i64 9, .int .i64 9, .int .i64 0]) (t := 47) (fr := (0, 0)) (heap_alloc_new wu _))
      have hsw : B ≤ wu.heap.size := Nat.le_trans TM2.out.hi (Nat.le_of_lt hlt)
      have hl20 : wn.length ≤ 20 := HFi.out.v.wlen
      obtain ⟨i0, hi0, hz0, hz1, hz2⟩ := info_parts info_window
      go_wp2_with (at_builtin; refine wpList_append_own _ rfl _ _ 26 rfl B 47 i0 _ 3 24 Try.underlying26 hi0 hz0 hz1 hz2 rfl (by decide) _ _ _ rfl HOwn.out ⟨wu.heap.size, 0, none⟩ 1 1 [.int .i64 9, .int .i64 9, .int .i64 0] rfl rfl HNW.out ?c2 ?c3 ?c4 ?c5 ?_)
      case c2 => simp [Value.oneCell']
      case c3 => unfold maxLen; omega
      case c4 => omega
      case c5 => omega
      intro v' w3 hown' hgrow _
      obtain ⟨a', c', rfl, -⟩ := own_slice hown'
      obtain ⟨AP, hq9⟩ := TM2.out.win ⟨9, 9, 0⟩ (below_new _ _) hown' hgrow (by intro e; injection e with _ _ _ _ e; have := congrArg List.length e; simp at this)
      have p4 := box_cell hq9 4 (.slice wb wn.length wd) rfl
      have y4 := box_fz hq9 4
      have hl9 := lt_of_block hq9
      have AP := Lib.hid AP
      clear hown' hgrow HOwn HNW d0 d1 d2 d3 d4 z0 z1 z2 z3 z4 hlt hi0 hz0 hz1 hz2 hq9
      go_wp2_with fail
      go_meet
      exact ⟨rfl, rfl, rfl, rfl, _, Lib.hid AP.out⟩
    · have hnot : ∀ j : Int, j = 0 ∨ j = 1 ∨ j = 2 ∨ j = 3 ∨ j = 4 ∨ j = 5 → (c == j) = false := fun j hj => by rw [beq_eq_false_iff_ne]; omega
      have k0 := hnot 0 (by simp)
      have k1 := hnot 1 (by simp)
      have k2 := hnot 2 (by simp)
      have k3 := hnot 3 (by simp)
      have k4 := hnot 4 (by simp)
      have k5 := hnot 5 (by simp)
      clear hnot
      have hsq := TM2.out.arg.st
      simp only at hsq
      obtain ⟨g, cap, hg, hrow⟩ := own_slice_some TM2.out.qs (show 0 < st.length by omega)
      simp only at hg
      subst hg
      obtain ⟨b', off', ebo, -, s0, s1, s2, s3, s4, s5⟩ := st_getD2 hsq hil
      injection ebo with ebo
      injection ebo with eb eo
      subst eb; subst eo
      have hst : st.getD i Pl.stage0 = st[i] := by rw [List.getD_eq_getElem?_getD, List.getElem?_eq_getElem hil]; rfl
      rw [hst] at s1
      have hsm := HFi.out.s st[i] (List.getElem_mem hil)
      have bm := hsm.mn; have bs := hsm.ss
      have ef : IntKind.i64.wrap (st[i].mx + 1) = st[i].mx + 1 := IntWalk.i64_in _ (by omega)
      have i1 : (0 : Int) ≤ (i : Int) := by omega
      have i2 : (i : Int) < (st.length : Int) := by omega
      have i4 : ((i : Int)).toNat = i := by omega
      have hx : Hid (st[i].mx = st[i].mx) := Lib.hid rfl
      have AP := Lib.hid (TM2.out.field (i := i) (o := 1) (u := .int .i64 (st[i].mx + 1)) (x := { st[i] with mx := st[i].mx + 1 }) hil (by decide) rfl rfl (by intro e; injection e with _ _ _ e; exact set_ne hil (by intro e; have := congrArg (fun y => y.mx) e; simp only at this; omega) e))
      obtain ⟨cs, hcs⟩ := own_block TM2.out.qs (show (Value.slice (some ⟨g, 0, none⟩) st.length sd).ownBlock = some g from rfl)
      have zf := box_fz hcs (0 + i * 6 + 1)
      have hlg := lt_of_block hcs
      rw [Nat.zero_add] at s1 zf AP
      clear hsq hsm bm bs hx hcs hst
      generalize st[i].mx = old at *
      go_wp2_with fail
      go_meet
      exact ⟨rfl, rfl, rfl, rfl, _, Lib.hid AP.out⟩
  case rest =>
    obtain ⟨rfl, rfl, rfl, rfl, q, AP⟩ := hcut
    clear TM2 HFi
    rename World => wc
    obtain ⟨⟨en', mi', ma', st', wn'⟩, sb', sd', wb', wd'⟩ := q
    have S1 := Lib.hid (fun (v : World) (hv : Below wc.heap.size wc v) => Same_any ⟨⟨en, mi, ma, st, wn⟩, sa, sc, wa, wc1⟩ ⟨⟨en', mi', ma', st', wn'⟩, sb', sd', wb', wd'⟩ v (AP.out.po.below hv) (AP.out.qo.below hv))
    have S2 := Lib.hid (fun (v : World) (hv : Below wc.heap.size wc v) => Same_any ⟨⟨en', mi', ma', st', wn'⟩, sb', sd', wb', wd'⟩ ⟨⟨en, mi, ma, st, wn⟩, sa, sc, wa, wc1⟩ v (AP.out.qo.below hv) (AP.out.po.below hv))
    have hn1 : decide ((⟨en, mi, ma, st, wn⟩ : Pl.Plan) = ⟨en', mi', ma', st', wn'⟩) = false := decide_eq_false AP.out.ne
    have hn2 : decide ((⟨en', mi', ma', st', wn'⟩ : Pl.Plan) = ⟨en, mi, ma, st, wn⟩) = false := decide_eq_false (fun e => AP.out.ne e.symm)
    simp only [hn1] at S1
    simp only [hn2] at S2
    clear hn1 hn2
    have p0 := box_cell AP.out.pb 0 (.int .i64 en) rfl
    have p1 := box_cell AP.out.pb 1 (.int .i64 mi) rfl
    have p2 := box_cell AP.out.pb 2 (.int .i64 ma) rfl
    have p3 := box_cell AP.out.pb 3 (.slice sa st.length sc) rfl
    have p4 := box_cell AP.out.pb 4 (.slice wa wn.length wc1) rfl
    have q0 := box_cell AP.out.qb 0 (.int .i64 en') rfl
    have q1 := box_cell AP.out.qb 1 (.int .i64 mi') rfl
    have q2 := box_cell AP.out.qb 2 (.int .i64 ma') rfl
    have q3 := box_cell AP.out.qb 3 (.slice sb' st'.length sd') rfl
    have q4 := box_cell AP.out.qb 4 (.slice wb' wn'.length wd') rfl
    go_wp2_with fail
    refine (S1.out _ (Below.refl _ _)).mono ?_; rintro e wd1 ⟨rfl, g1⟩
    clear p0 p1 p2 p3 p4 q0 q1 q2 q3 q4
    have PB := box_below AP.out.pb g1
    have QB := box_below AP.out.qb g1
    have p0 := box_cell PB 0 (.int .i64 en) rfl
    have p1 := box_cell PB 1 (.int .i64 mi) rfl
    have p2 := box_cell PB 2 (.int .i64 ma) rfl
    have p3 := box_cell PB 3 (.slice sa st.length sc) rfl
    have p4 := box_cell PB 4 (.slice wa wn.length wc1) rfl
    have q0 := box_cell QB 0 (.int .i64 en') rfl
    have q1 := box_cell QB 1 (.int .i64 mi') rfl
    have q2 := box_cell QB 2 (.int .i64 ma') rfl
    have q3 := box_cell QB 3 (.slice sb' st'.length sd') rfl
    have q4 := box_cell QB 4 (.slice wb' wn'.length wd') rfl
    go_wp2_with fail
    refine (S2.out _ g1).mono ?_; rintro e we1 ⟨rfl, g2⟩
    have G := Lib.hid (below_step AP.out.bel (below_step g1 g2))
    clear g1 g2 PB QB
    go_wp2_with fail
    go_ret
    exact ⟨rfl, G.out⟩
end Go.Proofs.Ytbojjcgpkibhaaa
