/-
  PlanLate walked: how a flow that is late ends.
-/
import Derived.Test.YtngpkipblcihaaaSt
import Derived.Test.YtngpkipblcihaaaVb
namespace Go.Proofs.Ytngpkipblcihaaa
open Go.RowKit

/-- Where a flow ends that is not late at a slot: L is the window, or -1. -/
def LateAt (P : Pl.Plan) (R : Pl.Res) (L : Int) : Prop := (L = -1 ∧ R.V.length = P.st.length ∧ Pl.Kept P P.st.length R.V) ∨ ∃ (j k : Nat), ∃ hk : k < P.wn.length, L = (k : Int) ∧ j < P.st.length ∧ R.V.length = j + 1 ∧ Pl.Kept P j R.V ∧ P.wn[k].t = (j : Int) ∧ Pl.missed R.V P.wn[k] = true ∧ ∀ q (hq : q < k), P.wn[q].t = (j : Int) → Pl.missed R.V P.wn[q] = false
theorem late_at {P : Pl.Plan} {s : Pl.Scen} {R : Pl.Res} (hs : ¬ R.kind = 1) (h : Pl.Ended P s R) : (R.kind = 0 ∧ R.V.length = P.st.length ∧ Pl.Kept P P.st.length R.V) ∨ ∃ (j k : Nat), ∃ hk : k < P.wn.length, R.kind = 2 ∧ R.num = (k : Int) ∧ j < P.st.length ∧ R.V.length = j + 1 ∧ Pl.Kept P j R.V ∧ P.wn[k].t = (j : Int) ∧ Pl.missed R.V P.wn[k] = true ∧ ∀ q (hq : q < k), P.wn[q].t = (j : Int) → Pl.missed R.V P.wn[q] = false := by
  rcases h with ⟨h1, h2, h3, h4⟩ | ⟨j, h1, h2, hj, h3, h4⟩ | ⟨j, k, hk, h1, h2, hj, h3, h4, h5, h6, h7⟩
  · exact .inl ⟨h1, h3.len, h4⟩
  · exact absurd h1 hs
  · exact .inr ⟨j, k, hk, h1, h2, hj, h3.len, h4, h5, h6, h7⟩
/-- What the law's loop asks of the window at place i, where it does not pass it over. -/
theorem late_keeps {P : Pl.Plan} {R : Pl.Res} {L : Int} (h : LateAt P R L) {i : Nat} (hi : i < P.wn.length) (h1 : P.wn[i].t < (R.V.length : Int)) (h2 : ∀ hk : L.toNat < P.wn.length, ¬ (0 ≤ L ∧ P.wn[i].t = P.wn[L.toNat].t ∧ L < (i : Int))) : Pl.missed R.V P.wn[i] = decide ((i : Int) = L) := by
  rcases h with ⟨rfl, h3, h4⟩ | ⟨j, k, hk, rfl, hj, h3, h4, h5, h6, h7⟩
  · rw [h4 P.wn[i] (List.getElem_mem hi) (by omega)]
    exact (decide_eq_false (by omega)).symm
  · by_cases e : P.wn[i].t = (j : Int)
    · have hik : i ≤ k := by
        by_cases hc : i ≤ k
        · exact hc
        · exact absurd ⟨by omega, e.trans h5.symm, by omega⟩ (h2 hk)
      by_cases e2 : i = k
      · subst e2
        rw [h6]
        exact (decide_eq_true rfl).symm
      · rw [h7 i (by omega) e]
        exact (decide_eq_false (by omega)).symm
    · rw [h4 P.wn[i] (List.getElem_mem hi) (by omega)]
      refine (decide_eq_false (fun e3 => e ?_)).symm
      have : i = k := by omega
      subst this
      exact h5
set_option maxRecDepth 100000 in
set_option maxHeartbeats 4000000 in
theorem late_any (xa ya : Option Addr) (xc yc : Nat) (X Y : List (List Int)) (tool at_ : Int) (W : World) (hX : ArrsA 6 W xa xc X) (hY : ArrsA 2 W ya yc Y) (ft : Fits tool) (fa : Fits at_) :
    Calls Try.prog 4 #[.slice xa X.length xc, .slice ya Y.length yc, .int .i64 tool, .int .i64 at_] W fun e w' => e = .returned (.bool true) ∧ Below W.heap.size W w' := by
  have HX := Lib.hid hX; have HY := Lib.hid hY; clear hX hY
  have HFi := Lib.hid (Pl.made_fine X)
  have hl := Pl.mkN_bd X
  rw [← Pl.made_len X] at hl
  obtain ⟨hl1, hl5⟩ := hl
  go_enter Try.func4, Try.ntmps4
  go_wp2_with fail
  refine (sane_any W).mono ?_; rintro e w1 ⟨rfl, g1⟩
  have G1 := Lib.hid g1; clear g1
  go_wp2_with fail
  refine (Made_any X xa xc w1 (HX.out.below G1.out)).mono ?_; rintro e w2 ⟨sa, sc, wa, wc1, rfl, s1, s2, g2⟩
  have G2 := Lib.hid (below_step G1.out g2)
  have S2 := Lib.hid (made_ok s1 s2)
  clear g2 s1 s2 G1
  go_upto_region 3 with (fail)
  have NP := Lib.hid (heap_alloc_new w2 (planObj ⟨Pl.made X, sa, sc, wa, wc1⟩))
  have G3 := Lib.hid (below_step G2.out (below_new w2 (planObj ⟨Pl.made X, sa, sc, wa, wc1⟩)))
  have S3 := Lib.hid (S2.out.below (below_new w2 (planObj ⟨Pl.made X, sa, sc, wa, wc1⟩)))
  have eL : w2.alloc (.cells #[.int .i64 (Pl.made X).entry, .int .i64 (Pl.made X).mmin, .int .i64 (Pl.made X).mmax, .slice sa (Pl.made X).st.length sc, .slice wa (Pl.made X).wn.length wc1] 28) = w2.alloc (planObj ⟨Pl.made X, sa, sc, wa, wc1⟩) := rfl
  rw [eL]
  clear eL S2 G2
  generalize w2.alloc (planObj ⟨Pl.made X, sa, sc, wa, wc1⟩) = w3 at *
  generalize w2.heap.size = n8 at *
  generalize Pl.made X = P at *
  have c0 := box_cell NP.out 0 (.int .i64 P.entry) rfl
  have c1 := box_cell NP.out 1 (.int .i64 P.mmin) rfl
  have c2 := box_cell NP.out 2 (.int .i64 P.mmax) rfl
  have c3 := box_cell NP.out 3 (.slice sa P.st.length sc) rfl
  have c4 := box_cell NP.out 4 (.slice wa P.wn.length wc1) rfl
  go_wp2_with fail
  refine (Chosen_any ⟨P, sa, sc, wa, wc1⟩ Y ya yc tool at_ w3 S3.out HFi.out (HY.out.below G3.out) ft fa).mono ?_; rintro e w4 ⟨da, dc, ma, mc, rfl, d1, d2, g4, -⟩
  clear c0 c1 c2 c3 c4
  have D4 := Lib.hid (scen_ok d1 d2)
  have NP4 := Lib.hid (box_below NP.out g4)
  have G4 := Lib.hid (below_step G3.out g4)
  have S4 := Lib.hid (S3.out.below g4)
  have HPo := Lib.hid (Pl.chosen_poss HFi.out Y tool at_)
  clear d1 d2 g4 NP G3 S3
  go_upto_region 4 with (fail)
  have NS := Lib.hid (heap_alloc_new w4 (scenObj ⟨Pl.chosen P Y tool at_, da, dc, ma, mc⟩))
  have hb5 := below_new w4 (scenObj ⟨Pl.chosen P Y tool at_, da, dc, ma, mc⟩)
  have NP5 := Lib.hid (box_below NP4.out hb5)
  have G5 := Lib.hid (below_step G4.out hb5)
  have S5 := Lib.hid (S4.out.below hb5)
  have D5 := Lib.hid (D4.out.below hb5)
  have eL : w4.alloc (.cells #[.slice da (Pl.chosen P Y tool at_).dur.length dc, .slice ma (Pl.chosen P Y tool at_).mv.length mc, .int .i64 (Pl.chosen P Y tool at_).det, .int .i64 (Pl.chosen P Y tool at_).tool, .int .i64 (Pl.chosen P Y tool at_).at_] 32) = w4.alloc (scenObj ⟨Pl.chosen P Y tool at_, da, dc, ma, mc⟩) := rfl
  rw [eL]
  clear eL hb5 NP4 G4 S4 D4
  generalize w4.alloc (scenObj ⟨Pl.chosen P Y tool at_, da, dc, ma, mc⟩) = w5 at *
  generalize w4.heap.size = n9 at *
  have HEn := Lib.hid (Pl.ended (s := Pl.chosen P Y tool at_) HFi.out.v)
  have HAn := Lib.hid (show Pl.answer P (Pl.chosen P Y tool at_) = (Pl.run P (Pl.chosen P Y tool at_), 0) by unfold Pl.answer; rw [if_pos (Pl.possible_iff.2 HPo.out)])
  generalize Pl.chosen P Y tool at_ = s at *
  have c0 := box_cell NP5.out 0 (.int .i64 P.entry) rfl
  have c1 := box_cell NP5.out 1 (.int .i64 P.mmin) rfl
  have c2 := box_cell NP5.out 2 (.int .i64 P.mmax) rfl
  have c3 := box_cell NP5.out 3 (.slice sa P.st.length sc) rfl
  have c4 := box_cell NP5.out 4 (.slice wa P.wn.length wc1) rfl
  have k0 := box_cell NS.out 0 (.slice da s.dur.length dc) rfl
  have k1 := box_cell NS.out 1 (.slice ma s.mv.length mc) rfl
  have k2 := box_cell NS.out 2 (.int .i64 s.det) rfl
  have k3 := box_cell NS.out 3 (.int .i64 s.tool) rfl
  have k4 := box_cell NS.out 4 (.int .i64 s.at_) rfl
  go_wp2_with fail
  refine (Run_any ⟨P, sa, sc, wa, wc1⟩ ⟨s, da, dc, ma, mc⟩ w5 S5.out D5.out).mono ?_; rintro e w6 ⟨va, vc, rfl, hv, g6⟩
  rw [HAn.out] at hv
  simp only [HAn.out]
  clear c0 c1 c2 c3 c4 k0 k1 k2 k3 k4
  obtain ⟨a6, c6, e6, hv6, -⟩ := RowO.arg visit_len hv
  injection e6 with e6 _ e6'
  subst e6; subst e6'
  have V6 := Lib.hid (show VsA w6 va vc (Pl.run P s).V from hv6)
  have NP6 := Lib.hid (box_below NP5.out g6)
  have NS6 := Lib.hid (box_below NS.out g6)
  have S6 := Lib.hid (S5.out.below g6)
  have G6 := Lib.hid (below_step G5.out g6)
  clear hv hv6 g6 NP5 NS S5 D5 G5
  generalize hR : Pl.run P s = R at *
  go_upto_region 5 with (fail)
  have NL := Lib.hid (heap_alloc_new w6 (lateObj R.kind R.num))
  have hb7 := below_new w6 (lateObj R.kind R.num)
  have V7 := Lib.hid (V6.out.below hb7)
  have NP7 := Lib.hid (box_below NP6.out hb7)
  have S7 := Lib.hid (S6.out.below hb7)
  have G7 := Lib.hid (below_step G6.out hb7)
  have eL : w6.alloc (.cells #[.int .i64 R.kind, .int .i64 R.num] 36) = w6.alloc (lateObj R.kind R.num) := rfl
  rw [eL]
  clear eL hb7 V6 NP6 NS6 S6 G6
  generalize w6.alloc (lateObj R.kind R.num) = w7 at *
  generalize w6.heap.size = n10 at *
  have l0 := box_cell NL.out 0 (.int .i64 R.kind) rfl
  have l1 := box_cell NL.out 1 (.int .i64 R.num) rfl
  have c3 := box_cell NP7.out 3 (.slice sa P.st.length sc) rfl
  have c4 := box_cell NP7.out 4 (.slice wa P.wn.length wc1) rfl
  by_cases hs : R.kind = 1
  · rcases HEn.out with ⟨h1, h2, h3, h4⟩ | ⟨j, h1, h2, hj, h3, h4⟩ | ⟨j, k, hk, h1, h2, hj, h3, h4, h5, h6, h7⟩
    · omega
    · rw [h1] at l0
      rw [h2] at l1
      have q1 : (0 : Int) ≤ (j : Int) := by omega
      have q2 : (j : Int) < (P.st.length : Int) := by omega
      have q3 : ((R.V.length : Nat) : Int) = (j : Int) := by have := h3.len; omega
      clear hs
      go_wp2_with fail
      go_ret
      exact ⟨rfl, G7.out⟩
    · omega
  have HLa := Lib.hid (late_at hs HEn.out)
  have hs2 : ¬ R.kind = (1 : Int) := hs
  go_upto_if 62 with (fail)
  go_cut [15] (fun s15 wx => ∃ L, s15 = .int .i64 L ∧ wx = w7 ∧ LateAt P R L)
  case first =>
    rcases HLa.out with ⟨h1, h2, h3⟩ | ⟨j, k, hk, h1, h2, hj, h3, h4, h5, h6, h7⟩
    · rw [h1] at l0
      have q3 : ((R.V.length : Nat) : Int) = (P.st.length : Int) := by omega
      have H2 := Lib.hid h2
      clear h2
      go_wp2_with fail
      go_meet
      exact ⟨-1, rfl, rfl, .inl ⟨rfl, H2.out, h3⟩⟩
    · rw [h1] at l0
      rw [h2] at l1
      have q3 : ((R.V.length : Nat) : Int) = (j : Int) + 1 := by omega
      have q1 : (0 : Int) ≤ (k : Int) := by omega
      have q2 : (k : Int) < (P.wn.length : Int) := by omega
      have q4 : ((k : Int)).toNat = k := by omega
      have hjn : P.st.length ≤ 5 := hl5
      have q5 : IntKind.i64.wrap ((j : Int) + 1) = (j : Int) + 1 := IntWalk.i64_in _ (by omega)
      obtain ⟨b, off, rfl, hb, hc⟩ := S7.out.wn.2.2 k hk
      have w1 := hc 1 (.int .i64 P.wn[k].t) rfl
      rw [h5] at w1
      have H3 := Lib.hid h3; have H5 := Lib.hid h5; have H6 := Lib.hid h6
      clear h3 h5 h6
      go_wp2_with fail
      go_meet
      exact ⟨(k : Int), rfl, rfl, .inr ⟨j, k, hk, rfl, hj, H3.out, h4, H5.out, H6.out, h7⟩⟩
  case rest =>
    obtain ⟨L, rfl, rfl, HL⟩ := hcut
    have HL := Lib.hid HL
    clear HLa l0 l1 hs hs2
    rename World => w7
    go_wp2_with fail
    have hwl : P.wn.length ≤ 20 := HFi.out.v.wlen
    go_loopg [16] P.wn.length (fun g iv wr => ∃ k : Nat, k ≤ P.wn.length ∧ g = P.wn.length - k ∧ iv = .int .i64 (k : Int) ∧ Hid (Below w7.heap.size w7 wr))
    case atStart => exact ⟨0, by omega, by omega, rfl, Lib.hid (Below.refl _ _)⟩
    case round =>
      obtain ⟨k, hk, rfl, rfl, HK⟩ := hrel
      rename World => wk
      have c4 := cell_below HK.out c4
      by_cases hlt : k < P.wn.length
      · obtain ⟨b, off, rfl, hb, hwc⟩ := S7.out.wn.at (show 0 < P.wn.length by omega)
        have HWC := Lib.hid hwc
        clear hwc
        have hc := HWC.out k hlt
        have f0 := cell_below HK.out (hc 0 (.int .i64 P.wn[k].f) rfl)
        have f1 := cell_below HK.out (hc 1 (.int .i64 P.wn[k].t) rfl)
        have f2 := cell_below HK.out (hc 2 (.int .i64 P.wn[k].lim) rfl)
        have hw := HFi.out.v.wn P.wn[k] (List.getElem_mem hlt)
        obtain ⟨x, hx⟩ : ∃ x, P.wn[k] = x := ⟨_, rfl⟩
        have HXk := Lib.hid hx
        rw [hx] at f0 f1 f2 hw
        clear hx hc
        have i1 : (0 : Int) ≤ (k : Int) := by omega
        have i2 : (k : Int) < (P.wn.length : Int) := by omega
        have i4 : ((k : Int)).toNat = k := by omega
        simp only [Nat.add_zero] at f0
        go_upto_region 22 with (fail)
        have NW := Lib.hid (heap_alloc_new wk (.cells #[.int .i64 x.f, .int .i64 x.t, .int .i64 x.lim] 47))
        have HK2 := Lib.hid (below_step HK.out (below_new wk (.cells #[.int .i64 x.f, .int .i64 x.t, .int .i64 x.lim] 47)))
        clear f0 f1 f2 c4
        generalize wk.alloc (.cells #[.int .i64 x.f, .int .i64 x.t, .int .i64 x.lim] 47) = wl at *
        generalize wk.heap.size = n11 at *
        have f0 := box_cell NW.out 0 (.int .i64 x.f) rfl
        have f1 := box_cell NW.out 1 (.int .i64 x.t) rfl
        have f2 := box_cell NW.out 2 (.int .i64 x.lim) rfl
        have c4 := box_cell (box_below NP7.out HK2.out) 4 (.slice (some ⟨b, off, none⟩) P.wn.length wc1) rfl
        by_cases h1 : x.t ≥ (R.V.length : Int)
        · go_quiet (fail)
          go_wp2_with fail
          go_roundg (P.wn.length - (k + 1))
          case rel => exact ⟨k + 1, by omega, rfl, by go_num, Lib.hid (below_drewN HK2.out _)⟩
          case measure => omega
        · have htl : x.t < (R.V.length : Int) := by omega
          obtain ⟨tn, htn⟩ := Int.eq_ofNat_of_zero_le (show 0 ≤ x.t by have := hw.f; have := hw.ft; omega)
          obtain ⟨fn, hfn⟩ := Int.eq_ofNat_of_zero_le hw.f
          have hft := hw.ft
          have ht1 : tn < R.V.length := by omega
          have hf1 : fn < R.V.length := by omega
          have B1 := Pl.ended_bd HPo.out HEn.out ht1
          have B2 := Pl.ended_bd HPo.out HEn.out hf1
          have HM := Lib.hid (show (∀ hk : L.toNat < P.wn.length, ¬ (0 ≤ L ∧ x.t = P.wn[L.toNat].t ∧ L < (k : Int))) → Pl.missed R.V x = decide ((k : Int) = L) from fun h => by
            have := late_keeps HL.out hlt (by rw [HXk.out]; exact htl) (fun hk => by rw [HXk.out]; exact h hk)
            rwa [HXk.out] at this)
          obtain ⟨vb, vo, rfl, hvb, hvc⟩ := V7.out.at (by omega)
          have v2 := hvc tn ht1 2 (.int .i64 R.V[tn].start) rfl
          have u3 := hvc fn hf1 3 (.int .i64 R.V[fn].fin) rfl
          unfold Pl.missed at HM
          rw [htn, hfn] at HM
          rw [Pl.nth_lt ht1] at HM B1
          rw [Pl.nth_lt hf1] at HM B2
          generalize R.V[tn].start = s at *
          generalize R.V[fn].fin = u at *
          have v2 := cell_below HK2.out v2
          have u3 := cell_below HK2.out u3
          have q2 : IntKind.i64.wrap (s - u) = s - u := IntWalk.i64_in _ (by omega)
          clear hvc B1 B2
          by_cases hL : L < 0
          · have hgo : ∀ hk : L.toNat < P.wn.length, ¬ (0 ≤ L ∧ (tn : Int) = P.wn[L.toNat].t ∧ L < (k : Int)) := fun _ h => by omega
            rw [htn] at htl f1 h1
            rw [hfn] at f0
            have j1 : ¬ L ≥ 0 := by omega
            clear hft hL
            go_quiet (fail)
            have HD := Lib.hid (below_drewN (Below.refl wl.heap.size wl) nq)
            have f0 := cell_below HD.out f0
            have f1 := cell_below HD.out f1
            have f2 := cell_below HD.out f2
            have v2 := cell_below HD.out v2
            have u3 := cell_below HD.out u3
            have hmk := HM.out hgo
            have HK3 := Lib.hid (below_step HK2.out HD.out)
            generalize wl.drewN nq = wm at *
            clear HM hgo HD c4
            go_upto_region 23 with (fail)
            by_cases hkl : (k : Int) = L
            · have q1 : ¬ s - u ≤ x.lim := by rw [decide_eq_true hkl] at hmk; have := of_decide_eq_true hmk; omega
              clear hmk
              go_quiet (fail)
              go_wp2_with fail
              go_roundg (P.wn.length - (k + 1))
              case rel => exact ⟨k + 1, by omega, rfl, by go_num, Lib.hid (below_drewN HK3.out _)⟩
              case measure => omega
            · have q1 : s - u ≤ x.lim := by rw [decide_eq_false hkl] at hmk; have := of_decide_eq_false hmk; omega
              clear hmk
              go_quiet (fail)
              go_wp2_with fail
              go_roundg (P.wn.length - (k + 1))
              case rel => exact ⟨k + 1, by omega, rfl, by go_num, Lib.hid (below_drewN HK3.out _)⟩
              case measure => omega
          · have HLk := HL.out
            obtain ⟨kk, hkk, rfl⟩ : ∃ kk : Nat, kk < P.wn.length ∧ L = (kk : Int) := by
              rcases HLk with ⟨rfl, -⟩ | ⟨-, kk, hkk, rfl, -⟩
              · exact absurd (by decide) hL
              · exact ⟨kk, hkk, rfl⟩
            clear HLk hL
            have g1 := cell_below HK2.out (HWC.out kk hkk 1 (.int .i64 P.wn[kk].t) rfl)
            have j1 : (kk : Int) ≥ 0 := by omega
            have j2 : (0 : Int) ≤ (kk : Int) := by omega
            have j3 : (kk : Int) < (P.wn.length : Int) := by omega
            have j4 : ((kk : Int)).toNat = kk := by omega
            obtain ⟨y, hy⟩ : ∃ y, P.wn[kk].t = y := ⟨_, rfl⟩
            have HYk := Lib.hid hy
            rw [hy] at g1
            clear hy hft
            rw [htn] at htl f1 h1
            rw [hfn] at f0
            by_cases e1 : (tn : Int) = y
            · subst e1
              by_cases e2 : (k : Int) > (kk : Int)
              · clear htl
                go_quiet (fail)
                go_wp2_with fail
                go_roundg (P.wn.length - (k + 1))
                case rel => exact ⟨k + 1, by omega, rfl, by go_num, Lib.hid (below_drewN HK2.out _)⟩
                case measure => omega
              · have hgo : ∀ hk : ((kk : Int)).toNat < P.wn.length, ¬ (0 ≤ (kk : Int) ∧ (tn : Int) = P.wn[((kk : Int)).toNat].t ∧ (kk : Int) < (k : Int)) := fun _ h => by omega
                go_quiet (fail)
                have HD := Lib.hid (below_drewN (Below.refl wl.heap.size wl) nq)
                have f0 := cell_below HD.out f0
                have f1 := cell_below HD.out f1
                have f2 := cell_below HD.out f2
                have v2 := cell_below HD.out v2
                have u3 := cell_below HD.out u3
                have hmk := HM.out hgo
                have HK3 := Lib.hid (below_step HK2.out HD.out)
                generalize wl.drewN nq = wm at *
                clear HM hgo HD c4
                go_upto_region 23 with (fail)
                by_cases hkl : (k : Int) = (kk : Int)
                · have q1 : ¬ s - u ≤ x.lim := by rw [decide_eq_true hkl] at hmk; have := of_decide_eq_true hmk; omega
                  clear hmk
                  go_quiet (fail)
                  go_wp2_with fail
                  go_roundg (P.wn.length - (k + 1))
                  case rel => exact ⟨k + 1, by omega, rfl, by go_num, Lib.hid (below_drewN HK3.out _)⟩
                  case measure => omega
                · have q1 : s - u ≤ x.lim := by rw [decide_eq_false hkl] at hmk; have := of_decide_eq_false hmk; omega
                  clear hmk
                  go_quiet (fail)
                  go_wp2_with fail
                  go_roundg (P.wn.length - (k + 1))
                  case rel => exact ⟨k + 1, by omega, rfl, by go_num, Lib.hid (below_drewN HK3.out _)⟩
                  case measure => omega
            · have hgo : ∀ hk : ((kk : Int)).toNat < P.wn.length, ¬ (0 ≤ (kk : Int) ∧ (tn : Int) = P.wn[((kk : Int)).toNat].t ∧ (kk : Int) < (k : Int)) := fun _ h => e1 (h.2.1.trans (by simp only [Int.toNat_natCast]; exact HYk.out))
              have e3 : ((tn : Int) == y) = false := by simp [e1]
              go_quiet (fail)
              have HD := Lib.hid (below_drewN (Below.refl wl.heap.size wl) nq)
              have f0 := cell_below HD.out f0
              have f1 := cell_below HD.out f1
              have f2 := cell_below HD.out f2
              have v2 := cell_below HD.out v2
              have u3 := cell_below HD.out u3
              have hmk := HM.out hgo
              have HK3 := Lib.hid (below_step HK2.out HD.out)
              generalize wl.drewN nq = wm at *
              clear HM hgo HD c4
              go_upto_region 23 with (fail)
              by_cases hkl : (k : Int) = (kk : Int)
              · have q1 : ¬ s - u ≤ x.lim := by rw [decide_eq_true hkl] at hmk; have := of_decide_eq_true hmk; omega
                clear hmk
                go_quiet (fail)
                go_wp2_with fail
                go_roundg (P.wn.length - (k + 1))
                case rel => exact ⟨k + 1, by omega, rfl, by go_num, Lib.hid (below_drewN HK3.out _)⟩
                case measure => omega
              · have q1 : s - u ≤ x.lim := by rw [decide_eq_false hkl] at hmk; have := of_decide_eq_false hmk; omega
                clear hmk
                go_quiet (fail)
                go_wp2_with fail
                go_roundg (P.wn.length - (k + 1))
                case rel => exact ⟨k + 1, by omega, rfl, by go_num, Lib.hid (below_drewN HK3.out _)⟩
                case measure => omega
      · have k1 : ¬ (k : Int) < (P.wn.length : Int) := by omega
        have G8 := Lib.hid (below_step G7.out HK.out)
        go_wp2_with fail
        go_ret
        exact ⟨rfl, G8.out⟩
end Go.Proofs.Ytngpkipblcihaaa
