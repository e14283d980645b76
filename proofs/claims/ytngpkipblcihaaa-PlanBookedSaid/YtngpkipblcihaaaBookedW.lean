/-
  PlanBooked walked: what is processed lies within the plan's bookings.
-/
import Derived.Test.YtngpkipblcihaaaKl
namespace Go.Proofs.Ytngpkipblcihaaa
open Go.RowKit

set_option maxRecDepth 100000 in
set_option maxHeartbeats 8000000 in
theorem booked_any (xa ya : Option Addr) (xc yc : Nat) (X Y : List (List Int)) (tool at_ o0 o1 o2 : Int) (W : World) (hX : ArrsA 6 W xa xc X) (hY : ArrsA 2 W ya yc Y) (ft : Fits tool) (fa : Fits at_) (f0 : Fits o0) (f1 : Fits o1) (f2 : Fits o2) :
    Calls Try.prog 8 #[.slice xa X.length xc, .slice ya Y.length yc, .int .i64 tool, .int .i64 at_, .agg #[.int .i64 o0, .int .i64 o1, .int .i64 o2]] W fun e w' => e = .returned (.bool true) ∧ Below W.heap.size W w' := by
  have HX := Lib.hid hX; have HY := Lib.hid hY; clear hX hY
  have HFi := Lib.hid (Pl.made_fine X)
  have hl := Pl.mkN_bd X
  rw [← Pl.made_len X] at hl
  obtain ⟨hl1, hl5⟩ := hl
  go_enter Try.func8, Try.ntmps8
  go_upto_region 1 with (fail)
  have NO0 := Lib.hid (heap_alloc_new W (.cells #[.int .i64 o0, .int .i64 o1, .int .i64 o2] 53))
  have hb0 := below_new W (.cells #[.int .i64 o0, .int .i64 o1, .int .i64 o2] 53)
  generalize W.alloc (.cells #[.int .i64 o0, .int .i64 o1, .int .i64 o2] 53) = w0 at *
  go_wp2_with fail
  refine (sane_any w0).mono ?_; rintro e w1 ⟨rfl, g1⟩
  have NO1 := Lib.hid (box_below NO0.out g1)
  have G1 := Lib.hid (below_step hb0 g1); clear g1 hb0 NO0
  go_wp2_with fail
  refine (Made_any X xa xc w1 (HX.out.below G1.out)).mono ?_; rintro e w2 ⟨sa, sc, wa, wc1, rfl, s1, s2, g2⟩
  have G2 := Lib.hid (below_step G1.out g2)
  have S2 := Lib.hid (made_ok s1 s2)
  have HPM := Lib.hid (PlM.new (q := ⟨Pl.made X, sa, sc, wa, wc1⟩) s1 s2 g2.size)
  have NO3 := Lib.hid (box_below NO1.out (below_step g2 (below_new w2 (planObj ⟨Pl.made X, sa, sc, wa, wc1⟩))))
  clear g2 s1 s2 G1 NO1
  go_upto_region 3 with (fail)
  have NP := Lib.hid (heap_alloc_new w2 (planObj ⟨Pl.made X, sa, sc, wa, wc1⟩))
  have G3 := Lib.hid (below_step G2.out (below_new w2 (planObj ⟨Pl.made X, sa, sc, wa, wc1⟩)))
  have S3 := Lib.hid (S2.out.below (below_new w2 (planObj ⟨Pl.made X, sa, sc, wa, wc1⟩)))
  have eL : w2.alloc (.cells #[.int .i64 (Pl.made X).entry, .int .i64 (Pl.made X).mmin, .int .i64 (Pl.made X).mmax, .slice sa (Pl.made X).st.length sc, .slice wa (Pl.made X).wn.length wc1] 28) = w2.alloc (planObj ⟨Pl.made X, sa, sc, wa, wc1⟩) := rfl
  rw [eL]
  clear eL S2 G2
  generalize w2.alloc (planObj ⟨Pl.made X, sa, sc, wa, wc1⟩) = w3 at *
  generalize w2.heap.size = n8 at *
  generalize Pl.made X = P at *
  have c0 := box_cell NP.out 0 (.int .i64 P.entry) rfl
  have c1 := box_cell NP.out 1 (.int .i64 P.mmin) rfl
  have c2 := box_cell NP.out 2 (.int .i64 P.mmax) rfl
  have c3 := box_cell NP.out 3 (.slice sa P.st.length sc) rfl
  have c4 := box_cell NP.out 4 (.slice wa P.wn.length wc1) rfl
  go_wp2_with fail
  refine (Chosen_any ⟨P, sa, sc, wa, wc1⟩ Y ya yc tool at_ w3 S3.out HFi.out (HY.out.below G3.out) ft fa).mono ?_; rintro e w4 ⟨da, dc, ma, mc, rfl, d1, d2, g4, d3⟩
  clear c0 c1 c2 c3 c4
  have HPo := Lib.hid (Pl.chosen_poss HFi.out Y tool at_)
  go_upto_region 4 with (fail)
  have hb5 := below_step g4 (below_new w4 (scenObj ⟨Pl.chosen P Y tool at_, da, dc, ma, mc⟩))
  have hsm := ScM.new (r := ⟨Pl.chosen P Y tool at_, da, dc, ma, mc⟩) d1 d2 d3 g4.size
  have HS5 := Lib.hid hsm.is
  have HP5 := Lib.hid ((HPM.out.is.below hb5).mono hb5.size)
  have NO5 := Lib.hid (box_below NO3.out hb5)
  have G5 := Lib.hid (below_step G3.out hb5)
  have eL : w4.alloc (.cells #[.slice da (Pl.chosen P Y tool at_).dur.length dc, .slice ma (Pl.chosen P Y tool at_).mv.length mc, .int .i64 (Pl.chosen P Y tool at_).det, .int .i64 (Pl.chosen P Y tool at_).tool, .int .i64 (Pl.chosen P Y tool at_).at_] 32) = w4.alloc (scenObj ⟨Pl.chosen P Y tool at_, da, dc, ma, mc⟩) := rfl
  rw [eL]
  clear eL d1 d2 d3 g4 HPM NP G3 S3 hsm hb5 NO3
  generalize w4.alloc (scenObj ⟨Pl.chosen P Y tool at_, da, dc, ma, mc⟩) = w5 at *
  generalize w4.heap.size = n9 at *
  have HEn := Lib.hid (Pl.ended (s := Pl.chosen P Y tool at_) HFi.out.v)
  have HAn := Lib.hid (show Pl.answer P (Pl.chosen P Y tool at_) = (Pl.run P (Pl.chosen P Y tool at_), 0) by unfold Pl.answer; rw [if_pos (Pl.possible_iff.2 HPo.out)])
  generalize Pl.chosen P Y tool at_ = s at *
  generalize Pl.run P s = R at *
  go_wp2_with fail
  refine (new_is w5).mono ?_; rintro e w6 ⟨C, rfl, hC⟩
  have hb6 : Below w5.heap.size w5 w6 := by obtain ⟨d, h1, h2, h3⟩ := hC; exact h3
  have HC6 := Lib.hid hC
  have NO6 := Lib.hid (box_below NO5.out hb6)
  have HP6 := Lib.hid (HP5.out.below hb6)
  have HS6 := Lib.hid (HS5.out.below hb6)
  have G6 := Lib.hid (below_step G5.out hb6)
  clear hC hb6 NO5 HP5 HS5
  have P1 := Lib.hid (show ∀ w, Calls Try.prog 15 #[.int .i64 o0, .int .i64 6] w fun e w' => e = .returned (.int .i64 (pickZ o0 6)) ∧ w = w' from fun w => pick_any o0 6 w f0 (by omega))
  have P2 := Lib.hid (show ∀ w, Calls Try.prog 15 #[.int .i64 o1, .int .i64 300] w fun e w' => e = .returned (.int .i64 (pickZ o1 300)) ∧ w = w' from fun w => pick_any o1 300 w f1 (by omega))
  have P3 := Lib.hid (show ∀ w, Calls Try.prog 15 #[.int .i64 o2, .int .i64 40] w fun e w' => e = .returned (.int .i64 (pickZ o2 40)) ∧ w' = w from fun w => (pick_any o2 40 w f2 (by omega)).mono fun _ _ h => ⟨h.1, h.2.symm⟩)
  have b1 := pickZ_bd (c := o0) (n := 6) (by omega)
  have b2 := pickZ_bd (c := o1) (n := 300) (by omega)
  have b3 := pickZ_bd (c := o2) (n := 40) (by omega)
  generalize pickZ o0 6 = t0 at *
  generalize pickZ o1 300 = s0 at *
  generalize pickZ o2 40 = l0 at *
  have v0 := box_cell NO6.out 0 (.int .i64 o0) rfl
  have v1 := box_cell NO6.out 1 (.int .i64 o1) rfl
  go_upto_region 5 with (fail)
  go_cut [15] (fun s15 wx => s15 = .pointer (some ⟨w6.heap.size, 0, none⟩) ∧ Hid (wx.heap[w6.heap.size]? = some (bkObj ⟨t0, s0, 0, 9⟩) ∧ Below w6.heap.size w6 wx))
  case first => as_aux_lemma =>
    go_region_held3 (fun v => v.cell? ⟨W.heap.size, 0, none⟩ = some (.int .i64 o0) ∧ v.cell? ⟨W.heap.size, 1, none⟩ = some (.int .i64 o1)) (go_keep) (first | (go_at_call 15; with_reducible refine (P1.out _).mono ?_; rintro e v ⟨rfl, rfl⟩) | (go_at_call 15; with_reducible refine (P2.out _).mono ?_; rintro e v ⟨rfl, rfl⟩))
    all_goals
      go_wp2_with fail
      go_meet
      exact ⟨rfl, Lib.hid ⟨heap_alloc_new w6 (bkObj ⟨t0, s0, 0, 9⟩), (below_new w6 (bkObj ⟨t0, s0, 0, 9⟩)).drew⟩⟩
  case rest =>
    obtain ⟨rfl, HW7⟩ := hcut
    rename World => w7
    have v2 := box_cell (box_below NO6.out HW7.out.2) 2 (.int .i64 o2) rfl
    have HP7 := Lib.hid (HP6.out.below HW7.out.2)
    have HS7 := Lib.hid (HS6.out.below HW7.out.2)
    have G7 := Lib.hid (below_step G6.out HW7.out.2)
    have HC7 := Lib.hid (HC6.out.off HW7.out.2)
    have hC5 : w5.heap.size ≤ w6.heap.size := by obtain ⟨d, h1, h2, h3⟩ := HC6.out; exact h3.size
    have NB := Lib.hid HW7.out.1
    have HC5 := Lib.hid hC5
    have HG5 := Lib.hid G5.out.size
    clear HC6 HP6 HS6 G6 NO6 HW7 v0 v1 hC5 G5
    generalize w6.heap.size = nb at *
    have a1 := box_cell NB.out 1 (.int .i64 s0) rfl
    have a2 := box_cell NB.out 2 (.int .i64 0) rfl
    have z2 := box_fz NB.out 2
    have hlt := lt_of_block NB.out
    have r1 : IntKind.i64.wrap (s0 + 1) = s0 + 1 := IntWalk.i64_in _ (by omega)
    have r2 : IntKind.i64.wrap (s0 + 1 + l0) = s0 + 1 + l0 := IntWalk.i64_in _ (by omega)
    go_upto_region 6 with (fail)
    go_still_tail 8, (by kernel_rfl)
    repeat still_step
    still_call (P3.out _)
    repeat still_step
    refine wpStill_nil ?_
    change wpList _ _ _ _ _ (World.drew _)
    go_upto_region 7 with (fail)
    have hch : Ch (fun k => k = nb) w7 (w7.setCell ⟨nb, 2, none⟩ (.int .i64 (s0 + 1 + l0))).drew := (one_ch w7 nb 2 (.int .i64 (s0 + 1 + l0))).drewN 1
    have NB8 := Lib.hid (show (w7.setCell ⟨nb, 2, none⟩ (.int .i64 (s0 + 1 + l0))).drew.heap[nb]? = some (bkObj ⟨t0, s0, s0 + 1 + l0, 9⟩) from block_set NB.out (.int .i64 (s0 + 1 + l0)))
    have HC8 := Lib.hid (HC7.out.ch hch (fun k hk => ⟨Nat.le_of_eq hk.symm, by have := HC5.out; omega⟩))
    have HP8 := Lib.hid (HP7.out.ch hch (fun k hk => by have := HC5.out; omega))
    have HS8 := Lib.hid (HS7.out.ch hch (fun k hk => by have := HC5.out; omega))
    have G8 := Lib.hid (G7.out.trans (hch.below G7.out.size (fun k hk => by have := HC5.out; have := HG5.out; omega)))
    have HBo := Lib.hid (show Kal.okB ⟨t0, s0, s0 + 1 + l0, 9⟩ = true from Kal.okB_iff.2 (by simp only; omega))
    clear hch HC7 HP7 HS7 G7 NB a1 a2 z2 hlt r1 r2 v2 P1 P2 P3
    generalize (w7.setCell ⟨nb, 2, none⟩ (.int .i64 (s0 + 1 + l0))).drew = w8 at *
    generalize s0 + 1 + l0 = e0 at *
    have a0 := box_cell NB8.out 0 (.int .i64 t0) rfl
    have a1 := box_cell NB8.out 1 (.int .i64 s0) rfl
    have a2 := box_cell NB8.out 2 (.int .i64 e0) rfl
    have a3 := box_cell NB8.out 3 (.int .i64 9) rfl
    go_wp2_with fail
    refine (book_off ⟨t0, s0, e0, 9⟩ HC8.out).mono ?_; rintro e w9 ⟨rfl, hc9, hch⟩
    rw [if_pos (free_empty HBo.out)]
    have NB9 := Lib.hid (show w9.heap[nb]? = some (bkObj ⟨t0, s0, e0, 9⟩) from (hch.block _ (lt_of_block NB8.out) (fun e => e.1 (Nat.le_refl _))).trans NB8.out)
    have HP9 := Lib.hid (HP8.out.ch hch (fun k hk => hk.2))
    have HS9 := Lib.hid (HS8.out.ch hch (fun k hk => hk.2))
    have G9 := Lib.hid (G8.out.trans (hch.below G8.out.size (fun k hk => Nat.le_trans HG5.out hk.2)))
    have HC9 := Lib.hid hc9
    have HN9 := Lib.hid (lt_of_block NB8.out)
    clear hch hc9 a0 a1 a2 a3 NB8 HC8 HP8 HS8 G8
    have c0 := box_cell HP9.out.box 0 (.int .i64 P.entry) rfl
    have c1 := box_cell HP9.out.box 1 (.int .i64 P.mmin) rfl
    have c2 := box_cell HP9.out.box 2 (.int .i64 P.mmax) rfl
    have c3 := box_cell HP9.out.box 3 (.slice sa P.st.length sc) rfl
    have c4 := box_cell HP9.out.box 4 (.slice wa P.wn.length wc1) rfl
    go_wp2_with fail
    refine (Bookings_any ⟨P, sa, sc, wa, wc1⟩ 4 w9 HP9.out.ok).mono ?_; rintro e w10 ⟨aa, ac, rfl, hr, g10⟩
    have eB : Pl.bookings P 4 = Pl.books P.st 4 := by unfold Pl.bookings; rw [if_pos]; rw [Pl.valid_iff.2 HFi.out.v]; rfl
    simp only [eB] at hr
    simp only [eB]
    clear c0 c1 c2 c3 c4 eB
    have MM := Lib.hid (show BkM W w5 C n8 n9 nb (Kal.book Kal.empty ⟨t0, s0, e0, 9⟩) ⟨P, sa, sc, wa, wc1⟩ ⟨s, da, dc, ma, mc⟩ ⟨t0, s0, e0, 9⟩ aa ac (Pl.books P.st 4) w10 by
      have hal := RowO.at_ hr
      obtain ⟨a6, c6, e6, hr6, -⟩ := RowO.arg pb_len hr
      injection e6 with e6 _ e6'
      subst e6; subst e6'
      refine ⟨(HC9.out.more g10).sub (fun k hk => ?_), HP9.out.below g10, HS9.out.below g10, box_below NB9.out g10, hr6, below_step G9.out g10, HG5.out, fun k hk => ?_⟩
      · rcases hk with rfl | ⟨x, hx, rfl⟩
        · exact .inl ⟨Nat.le_refl _, HN9.out⟩
        · exact .inr (hal.lt x hx).1
      · rcases hk with rfl | ⟨x, hx, rfl⟩
        · exact Nat.lt_of_lt_of_le (lt_of_block NB9.out) g10.size
        · exact (hal.lt x hx).2)
    clear hr g10 HC9 HP9 HS9 NB9 G9 HN9 HG5 HC5
    have HI := Lib.hid (BkInv.start HBo.out rfl (Pl.books P.st 4))
    have HLn := Lib.hid (books_len P.st 4)
    have HO4 := Lib.hid (fun x hx => books_owner (l := P.st) (o := 4) x hx)
    have HCv := Lib.hid (fun (k : Nat) (hk : k < R.V.length) => cov_all HPo.out (Pl.ended_steps HEn.out).1 (Pl.ended_steps HEn.out).2 hk hk)
    generalize Pl.books P.st 4 = L at *
    have c3 := box_cell MM.out.p.box 3 (.slice sa P.st.length sc) rfl
    have n0 : ((L.length : Int) != 2 * (P.st.length : Int)) = false := by rw [HLn.out]; simp
    have hL10 : L.length ≤ 10 := by have := HLn.out; omega
    have r1 : IntKind.i64.wrap (2 * (P.st.length : Int)) = 2 * (P.st.length : Int) := IntWalk.i64_in _ (by omega)
    go_wp2_with fail
    clear c3 n0 r1
    go_loopg [17, 18] L.length (fun g nv iv wr => ∃ (k : Nat) (n : Int) (K : Kal.Kal), k ≤ L.length ∧ g = L.length - k ∧ nv = .int .i64 n ∧ iv = .int .i64 (k : Int) ∧ Hid (BkInv ⟨t0, s0, e0, 9⟩ L k K n) ∧ Hid (BkM W w5 C n8 n9 nb K ⟨P, sa, sc, wa, wc1⟩ ⟨s, da, dc, ma, mc⟩ ⟨t0, s0, e0, 9⟩ aa ac L wr))
    case atStart => exact ⟨0, 0, _, by omega, by omega, rfl, rfl, HI, MM⟩
    case round =>
      clear HI MM
      obtain ⟨k, n, K, hk, rfl, rfl, rfl, HI, MM⟩ := hrel
      rename World => wk
      have hn := HI.out.le
      by_cases hlt : k < L.length
      · obtain ⟨ab, ao, rfl, hab, hac⟩ := MM.out.row.at (show 0 < L.length by omega)
        have x0 := hac k hlt 0 (.int .i64 L[k].tool) rfl
        have x1 := hac k hlt 1 (.int .i64 L[k].s) rfl
        have x2 := hac k hlt 2 (.int .i64 L[k].e) rfl
        have x3 := hac k hlt 3 (.int .i64 L[k].o) rfl
        simp only [Nat.add_zero] at x0
        have HI2 := Lib.hid (HI.out.step hlt (HO4.out _ (List.getElem_mem hlt)))
        clear hac
        generalize L[k] = x at *
        have i1 : (0 : Int) ≤ (k : Int) := by omega
        have i2 : (k : Int) < (L.length : Int) := by omega
        have i4 : ((k : Int)).toNat = k := by omega
        have HB := Lib.hid (MM.out.book (kb x))
        go_wp2_with fail
        refine HB.out.mono ?_; rintro e wl ⟨rfl, hM⟩
        have MM2 := Lib.hid hM
        clear hM HB MM x0 x1 x2 x3
        by_cases hf : Kal.free K (kb x) = true
        · rw [if_pos hf] at HI2
          rw [if_pos hf]
          have r1 : IntKind.i64.wrap (n + 1) = n + 1 := IntWalk.i64_in _ (by omega)
          clear hf
          go_wp2_with fail
          go_roundg (L.length - (k + 1))
          case rel => exact ⟨k + 1, n + 1, _, by omega, rfl, rfl, by go_num, HI2, MM2⟩
          case measure => omega
        · rw [if_neg hf, Int.add_zero] at HI2
          rw [if_neg hf]
          clear hf
          go_wp2_with fail
          go_roundg (L.length - (k + 1))
          case rel => exact ⟨k + 1, n, _, by omega, rfl, rfl, by go_num, HI2, MM2⟩
          case measure => omega
      · have k1 : ¬ (k : Int) < (L.length : Int) := by omega
        obtain rfl : k = L.length := by omega
        go_upto_region 18 with (fail)
        clear k1
        have c0 := box_cell MM.out.p.box 0 (.int .i64 P.entry) rfl
        have c1 := box_cell MM.out.p.box 1 (.int .i64 P.mmin) rfl
        have c2 := box_cell MM.out.p.box 2 (.int .i64 P.mmax) rfl
        have c3 := box_cell MM.out.p.box 3 (.slice sa P.st.length sc) rfl
        have c4 := box_cell MM.out.p.box 4 (.slice wa P.wn.length wc1) rfl
        have k0 := box_cell MM.out.s.box 0 (.slice da s.dur.length dc) rfl
        have k1 := box_cell MM.out.s.box 1 (.slice ma s.mv.length mc) rfl
        have k2 := box_cell MM.out.s.box 2 (.int .i64 s.det) rfl
        have k3 := box_cell MM.out.s.box 3 (.int .i64 s.tool) rfl
        have k4 := box_cell MM.out.s.box 4 (.int .i64 s.at_) rfl
        go_wp2_with fail
        refine (Run_any ⟨P, sa, sc, wa, wc1⟩ ⟨s, da, dc, ma, mc⟩ wk MM.out.p.ok MM.out.s.ok).mono ?_; rintro e wl ⟨va, vc, rfl, hv, gl⟩
        rw [HAn.out] at hv
        simp only [HAn.out]
        clear c0 c1 c2 c3 c4 k0 k1 k2 k3 k4
        obtain ⟨a6, c6, e6, hv6, -⟩ := RowO.arg visit_len hv
        injection e6 with e6 _ e6'
        subst e6; subst e6'
        go_upto_region 19 with (fail)
        have hbl := below_step gl (below_new wl (lateObj R.kind R.num))
        have V1 := Lib.hid (hv6.below (below_new wl (lateObj R.kind R.num)))
        have MB := Lib.hid (MM.out.below hbl)
        have eL : wl.alloc (.cells #[.int .i64 R.kind, .int .i64 R.num] 36) = wl.alloc (lateObj R.kind R.num) := rfl
        rw [eL]
        clear eL hbl hv hv6 gl MM
        generalize wl.alloc (lateObj R.kind R.num) = wb at *
        generalize wl.heap.size = nl at *
        have hlen := (Pl.ended_steps HEn.out).2
        have hlb : R.V.length ≤ 5 := Nat.le_trans hlen hl5
        clear hlen
        go_wp2_with fail
        go_loopg [22] R.V.length (fun g iv wr => ∃ k : Nat, k ≤ R.V.length ∧ g = R.V.length - k ∧ iv = .int .i64 (k : Int) ∧ Hid (Below wb.heap.size wb wr))
        case atStart => exact ⟨0, by omega, by omega, rfl, Lib.hid (Below.refl _ _)⟩
        case round =>
          obtain ⟨k, hk, rfl, rfl, HK⟩ := hrel
          rename World => wk
          by_cases hlt : k < R.V.length
          · obtain ⟨vb, vo, rfl, hvb, hvc⟩ := V1.out.at (show 0 < R.V.length by omega)
            have V1' := Lib.hid (cell_below HK.out (hvc k hlt 1 (.int .i64 R.V[k].tool) rfl))
            have V2' := Lib.hid (cell_below HK.out (hvc k hlt 2 (.int .i64 R.V[k].start) rfl))
            have V3' := Lib.hid (cell_below HK.out (hvc k hlt 3 (.int .i64 R.V[k].fin) rfl))
            have HCk := Lib.hid (HCv.out k hlt)
            have HAp := Lib.hid (fun (m : Nat) (hm : m < L.length) (hn : n = (L.length : Int)) (hc : Cov L[m] R.V[k]) (ht : t0 = R.V[k].tool) => cov_apart HI.out hn hm hc ht)
            clear hvc
            generalize R.V[k] = v at *
            have i1 : (0 : Int) ≤ (k : Int) := by omega
            have i2 : (k : Int) < (R.V.length : Int) := by omega
            have i4 : ((k : Int)).toNat = k := by omega
            go_wp2_with fail
            go_loopg [23, 24] L.length (fun g bv jv wr => ∃ (j : Nat) (B : Bool), j ≤ L.length ∧ g = L.length - j ∧ bv = .bool B ∧ jv = .int .i64 (j : Int) ∧ Hid (B = true ↔ ∃ m, ∃ hm : m < L.length, m < j ∧ Cov L[m] v) ∧ Hid (Below wk.heap.size wk wr))
            case atStart => exact ⟨0, false, by omega, by omega, rfl, rfl, Lib.hid ⟨fun h => (by cases h), fun ⟨m, hm, h, _⟩ => absurd h (Nat.not_lt_zero m)⟩, Lib.hid (Below.refl _ _)⟩
            case round =>
              obtain ⟨j, B, hj, rfl, rfl, rfl, HB, HJ⟩ := hrel
              rename World => wj
              have v1 := cell_below HJ.out V1'.out
              have v2 := cell_below HJ.out V2'.out
              have v3 := cell_below HJ.out V3'.out
              have MJ := Lib.hid ((MB.out.below HK.out).below HJ.out)
              by_cases hjl : j < L.length
              · obtain ⟨ab, ao, rfl, hab, hac⟩ := MJ.out.row.at (show 0 < L.length by omega)
                have x0 := hac j hjl 0 (.int .i64 L[j].tool) rfl
                have x1 := hac j hjl 1 (.int .i64 L[j].s) rfl
                have x2 := hac j hjl 2 (.int .i64 L[j].e) rfl
                simp only [Nat.add_zero] at x0
                have HBt := Lib.hid (show B = true ∨ Cov L[j] v → (true = true ↔ ∃ m, ∃ hm : m < L.length, m < j + 1 ∧ Cov L[m] v) from fun h => ⟨fun _ => by
                  rcases h with h | h
                  · obtain ⟨m, hm, h1, h2⟩ := HB.out.1 h; exact ⟨m, hm, by omega, h2⟩
                  · exact ⟨j, hjl, by omega, h⟩, fun _ => rfl⟩)
                have HBf := Lib.hid (show B = false → ¬ Cov L[j] v → (false = true ↔ ∃ m, ∃ hm : m < L.length, m < j + 1 ∧ Cov L[m] v) from fun h1 h2 => ⟨(fun h => (by cases h)), fun ⟨m, hm, h3, h4⟩ => by
                  by_cases e : m = j
                  · subst e; exact absurd h4 h2
                  · exact absurd (HB.out.2 ⟨m, hm, by omega, h4⟩) (by rw [h1]; decide)⟩)
                clear hac HB
                generalize L[j] = x at *
                obtain ⟨xt, xs, xe, xo⟩ := x
                obtain ⟨w0', vt, vs, vf⟩ := v
                simp only at x0 x1 x2 v1 v2 v3
                have j1 : (0 : Int) ≤ (j : Int) := by omega
                have j2 : (j : Int) < (L.length : Int) := by omega
                have j4 : ((j : Int)).toNat = j := by omega
                go_upto_region 28 with (fail)
                clear HAp HCk V1' V2' V3'
                cases B
                · by_cases e1 : xt = vt
                  · subst e1
                    by_cases e2 : xs ≤ vs
                    · by_cases e3 : xe ≥ vf
                      · have HC := Lib.hid (HBt.out (.inr ⟨rfl, e2, e3⟩))
                        clear HBt HBf
                        go_quiet (fail)
                        go_wp2_with fail
                        go_roundg (L.length - (j + 1))
                        case rel => exact ⟨j + 1, true, by omega, rfl, rfl, by go_num, Lib.hid (by simpa using HC.out), Lib.hid (below_drewN HJ.out _)⟩
                        case measure => omega
                      · have HC := Lib.hid (HBf.out rfl (fun h => e3 h.2.2))
                        clear HBt HBf
                        go_quiet (fail)
                        go_wp2_with fail
                        go_roundg (L.length - (j + 1))
                        case rel => exact ⟨j + 1, false, by omega, rfl, rfl, by go_num, Lib.hid (by simpa using HC.out), Lib.hid (below_drewN HJ.out _)⟩
                        case measure => omega
                    · have HC := Lib.hid (HBf.out rfl (fun h => e2 h.2.1))
                      clear HBt HBf
                      go_quiet (fail)
                      go_wp2_with fail
                      go_roundg (L.length - (j + 1))
                      case rel => exact ⟨j + 1, false, by omega, rfl, rfl, by go_num, Lib.hid (by simpa using HC.out), Lib.hid (below_drewN HJ.out _)⟩
                      case measure => omega
                  · have HC := Lib.hid (HBf.out rfl (fun h => e1 h.1))
                    have e4 : (xt == vt) = false := by simp [e1]
                    clear HBt HBf
                    go_quiet (fail)
                    go_wp2_with fail
                    go_roundg (L.length - (j + 1))
                    case rel => exact ⟨j + 1, false, by omega, rfl, rfl, by go_num, Lib.hid (by simpa using HC.out), Lib.hid (below_drewN HJ.out _)⟩
                    case measure => omega
                · have HC := Lib.hid (HBt.out (.inl rfl))
                  clear HBt HBf
                  go_quiet (fail)
                  go_wp2_with fail
                  go_roundg (L.length - (j + 1))
                  case rel => exact ⟨j + 1, true, by omega, rfl, rfl, by go_num, Lib.hid (by simpa using HC.out), Lib.hid (below_drewN HJ.out _)⟩
                  case measure => omega
              · have j1 : ¬ (j : Int) < (L.length : Int) := by omega
                obtain rfl : j = L.length := by omega
                obtain ⟨m, hm, hcm⟩ := HCk.out
                obtain rfl : B = true := HB.out.2 ⟨m, hm, hm, hcm⟩
                have HA := Lib.hid (fun (hn : n = (L.length : Int)) (ht : t0 = v.tool) => HAp.out m hm hn hcm ht)
                have b0 := box_cell MJ.out.bb 0 (.int .i64 t0) rfl
                have b1 := box_cell MJ.out.bb 1 (.int .i64 s0) rfl
                have b2 := box_cell MJ.out.bb 2 (.int .i64 e0) rfl
                obtain ⟨w0', vt, vs, vf⟩ := v
                simp only at v1 v2 v3 HA
                go_upto_region 29 with (fail)
                clear HAp HCk HB hcm j1 V1' V2' V3'
                by_cases hn : n = (L.length : Int)
                · have e0' : (n == (L.length : Int)) = true := by simp [hn]
                  by_cases ht : t0 = vt
                  · have e1 : (t0 == vt) = true := by simp [ht]
                    have hap := HA.out hn ht
                    clear hn ht HA
                    by_cases e2 : s0 < vf
                    · have e3 : ¬ vs < e0 := fun h => hap ⟨e2, h⟩
                      clear hap
                      go_quiet (fail)
                      go_wp2_with fail
                      go_roundg (R.V.length - (k + 1))
                      case rel => exact ⟨k + 1, by omega, rfl, by go_num, Lib.hid (below_drewN (below_step HK.out HJ.out) _)⟩
                      case measure => omega
                    · clear hap
                      go_quiet (fail)
                      go_wp2_with fail
                      go_roundg (R.V.length - (k + 1))
                      case rel => exact ⟨k + 1, by omega, rfl, by go_num, Lib.hid (below_drewN (below_step HK.out HJ.out) _)⟩
                      case measure => omega
                  · have e1 : (t0 == vt) = false := by simp [ht]
                    clear hn ht HA
                    go_quiet (fail)
                    go_wp2_with fail
                    go_roundg (R.V.length - (k + 1))
                    case rel => exact ⟨k + 1, by omega, rfl, by go_num, Lib.hid (below_drewN (below_step HK.out HJ.out) _)⟩
                    case measure => omega
                · have e0' : (n == (L.length : Int)) = false := by simp [hn]
                  clear hn HA
                  go_quiet (fail)
                  go_wp2_with fail
                  go_roundg (R.V.length - (k + 1))
                  case rel => exact ⟨k + 1, by omega, rfl, by go_num, Lib.hid (below_drewN (below_step HK.out HJ.out) _)⟩
                  case measure => omega
          · have k1 : ¬ (k : Int) < (R.V.length : Int) := by omega
            have MK := Lib.hid (MB.out.below HK.out)
            have HF := Lib.hid (MK.out.free 4)
            go_wp2_with fail
            refine HF.out.mono ?_; rintro e wf ⟨rfl, hM⟩
            have MF := Lib.hid hM
            clear hM HF MK
            rw [HI.out.cnt]
            have HLe := Lib.hid (MF.out.cal.len)
            go_wp2_with fail
            refine HLe.out.mono ?_; rintro e wg ⟨rfl, rfl⟩
            rw [HI.out.drop]
            go_wp2_with fail
            go_ret
            exact ⟨rfl, MF.out.bel⟩
end Go.Proofs.Ytngpkipblcihaaa
