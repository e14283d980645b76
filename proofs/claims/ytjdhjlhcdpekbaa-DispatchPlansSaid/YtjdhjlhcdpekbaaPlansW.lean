/-
  The walk of DispatchPlans.
-/
import Derived.Test.YtjdhjlhcdpekbaaPlp
namespace Go.Proofs.Ytjdhjlhcdpekbaa
open Go.RowKit Go.Shelf Go.Sort Dsp Pe

set_option maxRecDepth 100000 in
set_option maxHeartbeats 16000000 in
theorem plansLaw_any (xa ya : Option Addr) (xc yc : Nat) (X Y : List (List Int)) (tool at_ : Int) (za : Option Addr) (zc : Nat) (Z : List (List Int)) (n : Int) (qa : Option Addr) (qc : Nat) (Q : List (List Int)) (W : World)
    (hX : ArrsA 6 W xa xc X) (hY : ArrsA 2 W ya yc Y) (ft : Fits tool) (fa : Fits at_) (hZ : ArrsA 4 W za zc Z) (n1 : -9223372036854775808 ≤ n) (n2 : n ≤ 9223372036854775807) (hQ : ArrsA 2 W qa qc Q) :
    Calls Try.prog 5 #[.slice xa X.length xc, .slice ya Y.length yc, .int .i64 tool, .int .i64 at_, .slice za Z.length zc, .int .i64 n, .slice qa Q.length qc] W fun e w' => e = .returned (.bool true) ∧ Below W.heap.size W w' := by
  have HX := Lib.hid hX; have HY := Lib.hid hY; have HZ := Lib.hid hZ; have HQ := Lib.hid hQ
  have HR := Lib.hid (fun w => rules_any n w ⟨n1, n2⟩)
  unfold NewInts at HR
  have hql := Nat.le_trans hQ.1 hQ.2.1
  unfold maxLen at hql
  clear hX hY hZ hQ n1 n2
  have HFi := Lib.hid (Pe.Pl.made_fine X)
  have hl := Pe.Pl.mkN_bd X
  rw [← Pe.Pl.made_len X] at hl
  obtain ⟨hl1, hl5⟩ := hl
  go_enter Try.func5, Try.ntmps5
  go_wp2_with fail
  refine (sane_any W).mono ?_; rintro e w1 ⟨rfl, g1⟩
  have G1 := Lib.hid g1; clear g1
  go_wp2_with fail
  refine (Pe.Made_any X xa xc w1 (show Pe.ArrsA 6 w1 xa xc X from HX.out.below G1.out)).mono ?_; rintro e w2 ⟨sa, sc, wa, wc1, rfl, s1, s2, g2⟩
  have G2 := Lib.hid (below_step G1.out g2)
  have S2 := Lib.hid (Pe.made_ok s1 s2)
  have HPM := Lib.hid (Pe.PlM.new (q := ⟨Pe.Pl.made X, sa, sc, wa, wc1⟩) s1 s2 g2.size)
  clear g2 s1 s2 G1
  go_upto_region 3 with (fail)
  have NP := Lib.hid (heap_alloc_new w2 (Pe.planObj ⟨Pe.Pl.made X, sa, sc, wa, wc1⟩))
  have G3 := Lib.hid (below_step G2.out (below_new w2 (Pe.planObj ⟨Pe.Pl.made X, sa, sc, wa, wc1⟩)))
  have S3 := Lib.hid (S2.out.below (below_new w2 (Pe.planObj ⟨Pe.Pl.made X, sa, sc, wa, wc1⟩)))
  have eL : w2.alloc (.cells #[.int .i64 (Pe.Pl.made X).entry, .int .i64 (Pe.Pl.made X).mmin, .int .i64 (Pe.Pl.made X).mmax, .slice sa (Pe.Pl.made X).st.length sc, .slice wa (Pe.Pl.made X).wn.length wc1] 64) = w2.alloc (Pe.planObj ⟨Pe.Pl.made X, sa, sc, wa, wc1⟩) := rfl
  rw [eL]
  clear eL S2 G2
  generalize w2.alloc (Pe.planObj ⟨Pe.Pl.made X, sa, sc, wa, wc1⟩) = w3 at *
  generalize w2.heap.size = n8 at *
  generalize Pe.Pl.made X = P at *
  have c0 := box_cell NP.out 0 (.int .i64 P.entry) rfl
  have c1 := box_cell NP.out 1 (.int .i64 P.mmin) rfl
  have c2 := box_cell NP.out 2 (.int .i64 P.mmax) rfl
  have c3 := box_cell NP.out 3 (.slice sa P.st.length sc) rfl
  have c4 := box_cell NP.out 4 (.slice wa P.wn.length wc1) rfl
  go_wp2_with fail
  refine (Pe.Chosen_any ⟨P, sa, sc, wa, wc1⟩ Y ya yc tool at_ w3 S3.out HFi.out (show Pe.ArrsA 2 w3 ya yc Y from HY.out.below G3.out) ft fa).mono ?_; rintro e w4 ⟨da, dc, ma, mc, rfl, d1, d2, g4, d3⟩
  clear c0 c1 c2 c3 c4
  have HPo := Lib.hid (Pe.Pl.chosen_poss HFi.out Y tool at_)
  go_upto_region 4 with (fail)
  have hb5 := below_step g4 (below_new w4 (Pe.scenObj ⟨Pe.Pl.chosen P Y tool at_, da, dc, ma, mc⟩))
  have hsm := Pe.ScM.new (r := ⟨Pe.Pl.chosen P Y tool at_, da, dc, ma, mc⟩) d1 d2 d3 g4.size
  have HS5 := Lib.hid hsm.is
  have HP5 := Lib.hid ((HPM.out.is.below hb5).mono hb5.size)
  have G5 := Lib.hid (below_step G3.out hb5)
  have eL : w4.alloc (.cells #[.slice da (Pe.Pl.chosen P Y tool at_).dur.length dc, .slice ma (Pe.Pl.chosen P Y tool at_).mv.length mc, .int .i64 (Pe.Pl.chosen P Y tool at_).det, .int .i64 (Pe.Pl.chosen P Y tool at_).tool, .int .i64 (Pe.Pl.chosen P Y tool at_).at_] 67) = w4.alloc (Pe.scenObj ⟨Pe.Pl.chosen P Y tool at_, da, dc, ma, mc⟩) := rfl
  rw [eL]
  clear eL d1 d2 d3 g4 HPM NP G3 S3 hsm hb5
  generalize w4.alloc (Pe.scenObj ⟨Pe.Pl.chosen P Y tool at_, da, dc, ma, mc⟩) = w5 at *
  generalize w4.heap.size = n9 at *
  have HEn := Lib.hid (Pe.Pl.ended (s := Pe.Pl.chosen P Y tool at_) HFi.out.v)
  have HAn := Lib.hid (show Pe.Pl.answer P (Pe.Pl.chosen P Y tool at_) = (Pe.Pl.run P (Pe.Pl.chosen P Y tool at_), 0) by unfold Pe.Pl.answer; rw [if_pos (Pe.Pl.possible_iff.2 HPo.out)])
  generalize Pe.Pl.chosen P Y tool at_ = s at *
  generalize Pe.Pl.run P s = R at *
  go_wp2_with fail
  refine (new_is w5).mono ?_; rintro e w6 ⟨C, rfl, hC⟩
  have HC6 := Lib.hid hC
  have HP6 := Lib.hid (HP5.out.below hC.bel)
  have HS6 := Lib.hid (HS5.out.below hC.bel)
  have G6 := Lib.hid (below_step G5.out hC.bel)
  clear hC HP5 HS5
  have c0 := box_cell HP6.out.box 0 (.int .i64 P.entry) rfl
  have c1 := box_cell HP6.out.box 1 (.int .i64 P.mmin) rfl
  have c2 := box_cell HP6.out.box 2 (.int .i64 P.mmax) rfl
  have c3 := box_cell HP6.out.box 3 (.slice sa P.st.length sc) rfl
  have c4 := box_cell HP6.out.box 4 (.slice wa P.wn.length wc1) rfl
  go_wp2_with fail
  refine (Pe.Bookings_any ⟨P, sa, sc, wa, wc1⟩ 50 w6 HP6.out.ok).mono ?_; rintro e w10 ⟨aa, ac, rfl, hr, g10⟩
  have eB : Pe.Pl.bookings P 50 = Pe.Pl.books P.st 50 := by unfold Pe.Pl.bookings; rw [if_pos]; rw [Pe.Pl.valid_iff.2 HFi.out.v]; rfl
  simp only [eB] at hr
  simp only [eB]
  clear c0 c1 c2 c3 c4 eB
  have HAa := Lib.hid (Pe.RowO.at_ hr)
  have HRw := Lib.hid (show Pe.RowA Pe.pbCells 4 w10 aa ac (Pe.Pl.books P.st 50) by
    obtain ⟨a6, c6, e6, hr6, -⟩ := Pe.RowO.arg Pe.pb_len hr
    injection e6 with e6 _ e6'
    subst e6; subst e6'
    exact hr6)
  have MM := Lib.hid (show PkM W w5 C n8 n9 Kal.empty ⟨P, sa, sc, wa, wc1⟩ ⟨s, da, dc, ma, mc⟩ (fun k => ∃ x, aa = some x ∧ x.block = k) w10 from
    ⟨(HC6.out.off g10).sub (fun k ⟨x, hx, hk⟩ => by have := (HAa.out.lt x hx).1; omega), HP6.out.below g10, HS6.out.below g10, below_step G6.out g10, G5.out.size, fun k ⟨x, hx, hk⟩ => by have := (HAa.out.lt x hx).2; omega⟩)
  clear hr g10 HC6 HP6 HS6 G6 G5 HAa
  have HLn := Lib.hid (Pe.books_len P.st 50)
  have HO := Lib.hid (fun x hx => books_owner (l := P.st) (o := 50) x hx)
  have HCv := Lib.hid (fun (k : Nat) (hk : k < R.V.length) => cov_all (o := 50) HPo.out (Pe.Pl.ended_steps HEn.out).1 (Pe.Pl.ended_steps HEn.out).2 hk hk)
  have hVl : R.V.length ≤ 5 := Nat.le_trans (Pe.Pl.ended_steps HEn.out).2 hl5
  have hLl : (Pe.Pl.books P.st 50).length ≤ 10 := by have := HLn.out; omega
  clear HLn
  generalize Pe.Pl.books P.st 50 = L at *
  go_wp2_with fail
  go_loopw [20] (fun iv wr => ∃ (k : Nat) (K : Kal.Kal), k ≤ L.length ∧ iv = .int .i64 (k : Int) ∧ Hid (Kal.Ok K) ∧ Hid (AllIn L k K) ∧ Hid (PkM W w5 C n8 n9 K ⟨P, sa, sc, wa, wc1⟩ ⟨s, da, dc, ma, mc⟩ (fun k => ∃ x, aa = some x ∧ x.block = k) wr) ∧ Hid (Pe.RowA Pe.pbCells 4 wr aa ac L)) (fun iv _ => L.length - (intOf iv).toNat)
  case atStart => exact ⟨0, Kal.empty, Nat.zero_le _, rfl, Lib.hid Kal.Ok.empty, Lib.hid (AllIn.zero _ _), MM, HRw⟩
  case round =>
    clear MM HRw
    obtain ⟨k, K, hk, rfl, HOk, HAl, MM, HRw⟩ := hrel
    by_cases hlt : k < L.length
    · have HB := Lib.hid (MM.out.book (kbO L[k]))
      have HSt := Lib.hid (fun hf => HAl.out.step hlt hf)
      have HOk2 := Lib.hid (HOk.out.book (kbO L[k]))
      obtain ⟨ab, ao, rfl, hab, hac⟩ := HRw.out.at (show 0 < L.length by omega)
      have x0 := hac k hlt 0 (.int .i64 L[k].tool) rfl
      have x1 := hac k hlt 1 (.int .i64 L[k].s) rfl
      have x2 := hac k hlt 2 (.int .i64 L[k].e) rfl
      have x3 := hac k hlt 3 (.int .i64 L[k].o) rfl
      simp only [Nat.add_zero] at x0
      clear hac
      generalize L[k] = x at *
      have i1 : (0 : Int) ≤ (k : Int) := by omega
      have i2 : (k : Int) < (L.length : Int) := by omega
      go_wp2_with fail
      refine HB.out.mono ?_; rintro e wl ⟨rfl, hM, hch⟩
      have HR2 := Lib.hid (HRw.out.ch hch (fun x hx h => h.1 ⟨x, hx, rfl⟩))
      have M2 := Lib.hid hM
      clear hM hch HB MM HRw x0 x1 x2 x3
      by_cases hf : Kal.free K (kbO x) = true
      · have HA2 := Lib.hid (HSt.out hf)
        rw [if_pos hf]
        clear hf HSt
        go_wp2_with fail
        go_roundw
        case rel => exact ⟨k + 1, _, hlt, by go_num, HOk2, HA2, M2, HR2⟩
        case measure => simp [intOf]; omega
      · rw [if_neg hf]
        clear hf HSt
        go_wp2_with fail
        go_ret
        exact ⟨rfl, M2.out.bel⟩
    · have k1 : ¬ (k : Int) < (L.length : Int) := by omega
      obtain rfl : k = L.length := by omega
      have HJs := Lib.hid (jobs_any Z za zc wr (HZ.out.below MM.out.bel))
      unfold NewJobs at HJs
      clear hk hlt HRw
      go_wp2_with fail
      refine HJs.out.mono ?_
      rintro _ w11 ⟨v11, rfl, o11, b11⟩
      have HJl := Lib.hid (fun kk h => o11.lt kk h)
      obtain ⟨ja, jc, rfl, jj, hjb⟩ := o11.arg
      have HJ0 := Lib.hid jj
      have MJ0 := Lib.hid ((MM.out.more b11).sub (S' := fun k => ∃ x, ja = some x ∧ x.block = k) (fun k ⟨x, hx, hk⟩ => .inr (by have := HJl.out _ (hjb x hx); omega)))
      have hlj := jobsL_len Z
      have HBd := Lib.hid (fun (j : Jb) (h : j ∈ jobsL Z) => job_bd h)
      have HLb := Lib.hid (fun (r : Int) (j : Jb) (h : j ∈ jobsL Z) => lenP_bd h r)
      have HFn := Lib.hid (fun (K : Kal.Kal) (t f r : Int) (j : Jb) (h : j ∈ jobsL Z) => fits_now (K := K) (t := t) (f := f) (r := r) h)
      generalize jobsL Z = J at *
      clear o11 b11 jj hjb HJl HJs MM
      go_wp2_with fail
      go_loopw [22] (fun ii wq => ∃ (i : Nat) (K : Kal.Kal), i ≤ Q.length ∧ i ≤ 20 ∧ ii = .int .i64 (i : Int) ∧ Hid (Kal.Ok K) ∧ Hid (AllIn L L.length K) ∧ Hid (PkM W w5 C n8 n9 K ⟨P, sa, sc, wa, wc1⟩ ⟨s, da, dc, ma, mc⟩ (fun k => ∃ x, ja = some x ∧ x.block = k) wq) ∧ Hid (JbA wq ja jc J)) (fun ii _ => 20 - (intOf ii).toNat)
      case atStart => exact ⟨0, K, Nat.zero_le _, by omega, rfl, HOk, HAl, MJ0, HJ0⟩
      case round =>
        clear HOk HAl MJ0 HJ0 K
        obtain ⟨i, K, hi, hi20, rfl, HOk, HAl, MM, HJ⟩ := hrel
        by_cases hlt : i < Q.length ∧ i < 20
        · obtain ⟨hlt, hlt20⟩ := hlt
          have BWr := Lib.hid MM.out.bel
          obtain ⟨b, off, rfl, hb1, hc0⟩ := HQ.out.2.2.2 i hlt
          have hc : ∀ (j : Nat) (v : Int), Q[i][j]? = some v → wr.cell? ⟨b, off + i * 2 + j, none⟩ = some (.int .i64 v) := fun j v hv => (BWr.out.cell (p := ⟨b, off + i * 2 + j, none⟩) hb1).trans (hc0 j v hv)
          clear hc0
          obtain ⟨hlen, hfit⟩ := (HQ.out).2.2.1 Q[i] (List.getElem_mem hlt)
          generalize Q[i] = y at *
          match y, hlen with
          | [y0, y1], _ =>
            have x0 := hc 0 y0 rfl; have x1 := hc 1 y1 rfl
            have HP1 := Lib.hid (fun w => pick_any y0 6 w (hfit y0 (by simp)) (by omega))
            have HP2 := Lib.hid (fun w => pick_any y1 300 w (hfit y1 (by simp)) (by omega))
            have q1 := pickZ_bd (c := y0) (n := 6) (by omega)
            have q2 := pickZ_bd (c := y1) (n := 300) (by omega)
            obtain ⟨t, ht⟩ : ∃ t : Nat, pickZ y0 6 = (t : Int) := ⟨(pickZ y0 6).toNat, by omega⟩
            rw [ht] at HP1 q1
            generalize pickZ y1 300 = sn at *
            have ht6 : t < 6 := by omega
            have k0 : (0 : Int) ≤ (i : Int) := by omega
            have k1 : (i : Int) < (Q.length : Int) := by omega
            have k2 : (i : Int) < 20 := by omega
            simp only [Nat.add_zero] at x0
            clear hc hfit ht
            go_wp2_with fail
            refine (HP1.out _).mono ?_
            rintro _ _ ⟨rfl, rfl⟩
            go_wp2_with fail
            refine (HP2.out _).mono ?_
            rintro _ _ ⟨rfl, rfl⟩
            clear x0 x1
            go_wp2_with fail
            refine (HR.out _).mono ?_
            rintro _ w12 ⟨v12, rfl, o12, b12⟩
            obtain ⟨a12, c12, rfl, r12⟩ := o12.arg
            have R12 := Lib.hid r12
            have B12 := Lib.hid b12
            have HPk := Lib.hid (Pick_any (MM.out.cal.is.below b12) (t : Int) sn _ _ _ 1 _ _ _ (by unfold Fits; omega) R12.out (rules_1000 n) (by omega) (HJ.out.below b12))
            have HPS := Lib.hid (fun j => pick_some (K := K) (t := (t : Int)) (f := sn) (r := 1) (J := J) (j := j) (rulesL_valid n))
            clear o12 r12 b12
            generalize pickP K (t : Int) sn 1 (orderV (rulesL n) 1 J) = o at *
            unfold pickV at HPk
            go_wp2_with fail
            refine HPk.out.mono ?_
            rintro _ w13 ⟨rfl, b13⟩
            have B13 := Lib.hid (below_step B12.out b13)
            clear b13 HPk
            rcases o with _ | j
            · simp only [Option.getD_none, Option.isSome_none]
              have b14 := Lib.hid (below_step B13.out (below_new w13 (.cells #[.int .i64 0, .int .i64 0, .bool false, .int .i64 0, .int .i64 0, .int .i64 0, .int .i64 0] 43)))
              go_wp2_with fail
              go_roundw
              case rel => exact ⟨i + 1, K, hlt, by omega, by go_num, HOk, HAl, Lib.hid (MM.out.below b14.out), Lib.hid (HJ.out.below b14.out)⟩
              case measure => simp [intOf]; omega
            · obtain ⟨hpm, hpf, -⟩ := HPS.out j rfl
              have hL := HLb.out 1 j hpm
              have hD := HBd.out j hpm
              rw [HFn.out _ _ _ _ j hpm] at hpf
              have hff := of_decide_eq_true hpf
              have HLn := Lib.hid (fun w => Length_any 1 j w (by omega))
              clear hpm hpf HPS
              generalize hm0 : lenP 1 j = l0 at *
              clear hm0
              obtain ⟨-, f2⟩ := first_now HOk.out (t := t) (by omega) (f := sn) (n := l0) hL.1 (by omega) (by omega)
              have HFr := Lib.hid (f2 hff 60 (by omega) (by omega))
              clear f2 hff
              simp only [Option.getD_some, Option.isSome_some]
              obtain ⟨j0, j1, j2, j3, j4, j5, j6⟩ := j
              have d1 : IntKind.i64.wrap (sn + l0) = sn + l0 := IntWalk.i64_in _ (by omega)
              have B14 := Lib.hid (below_step B13.out (below_new w13 (.cells #[.int .i64 j0, .int .i64 j1, .bool j2, .int .i64 j3, .int .i64 j4, .int .i64 j5, .int .i64 j6] 43)))
              have JP := Lib.hid (show JbC (w13.alloc (.cells #[.int .i64 j0, .int .i64 j1, .bool j2, .int .i64 j3, .int .i64 j4, .int .i64 j5, .int .i64 j6] 43)) w13.heap.size 0 ⟨j0, j1, j2, j3, j4, j5, j6⟩ by unfold JbC; go_simp)
              go_wp2_with fail
              generalize w13.alloc (.cells #[.int .i64 j0, .int .i64 j1, .bool j2, .int .i64 j3, .int .i64 j4, .int .i64 j5, .int .i64 j6] 43) = w14 at *
              obtain ⟨z0, z1, z2, z3, z4, z5, z6⟩ := JP.out
              simp only [Nat.zero_add] at z0 z1 z2 z3 z4 z5 z6
              go_wp2_with fail
              refine (HLn.out _).mono ?_
              rintro _ w15 ⟨rfl, b15⟩
              have B15 := Lib.hid (below_step B14.out b15)
              have HBo := Lib.hid ((MM.out.below B15.out).book ⟨(t : Int), sn, sn + l0, 60⟩)
              rw [HFr.out] at HBo
              simp only [if_true] at HBo
              have J15 := Lib.hid (HJ.out.below B15.out)
              clear b15 z0 z1 z2 z3 z4 z5 z6 JP
              go_wp2_with fail
              refine HBo.out.mono ?_
              rintro _ w16 ⟨rfl, hM, hch⟩
              have J16 := Lib.hid (J15.out.ch3 hch (fun x hx h => h.1 ⟨x, hx, rfl⟩))
              have M16 := Lib.hid hM
              clear hM hch HBo J15
              go_wp2_with fail
              go_roundw
              case rel => exact ⟨i + 1, _, hlt, by omega, by go_num, Lib.hid (HOk.out.book _), Lib.hid (HAl.out.book _), M16, J16⟩
              case measure => simp [intOf]; omega
        · by_cases h1 : i < Q.length
          · have h2a : (i : Int) < (Q.length : Int) := by omega
            have h2b : ¬ (i : Int) < 20 := by omega
            have c0 := box_cell MM.out.p.box 0 (.int .i64 P.entry) rfl
            have c1 := box_cell MM.out.p.box 1 (.int .i64 P.mmin) rfl
            have c2 := box_cell MM.out.p.box 2 (.int .i64 P.mmax) rfl
            have c3 := box_cell MM.out.p.box 3 (.slice sa P.st.length sc) rfl
            have c4 := box_cell MM.out.p.box 4 (.slice wa P.wn.length wc1) rfl
            have k0 := box_cell MM.out.s.box 0 (.slice da s.dur.length dc) rfl
            have k1 := box_cell MM.out.s.box 1 (.slice ma s.mv.length mc) rfl
            have k2 := box_cell MM.out.s.box 2 (.int .i64 s.det) rfl
            have k3 := box_cell MM.out.s.box 3 (.int .i64 s.tool) rfl
            have k4 := box_cell MM.out.s.box 4 (.int .i64 s.at_) rfl
            go_wp2_with fail
            refine (Pe.Run_any ⟨P, sa, sc, wa, wc1⟩ ⟨s, da, dc, ma, mc⟩ wr MM.out.p.ok MM.out.s.ok).mono ?_; rintro e wl ⟨va, vc, rfl, hv, gl⟩
            rw [HAn.out] at hv
            simp only [HAn.out]
            clear c0 c1 c2 c3 c4 k0 k1 k2 k3 k4
            obtain ⟨a6, c6, e6, hv6, -⟩ := Pe.RowO.arg Pe.visit_len hv
            injection e6 with e6 _ e6'
            subst e6; subst e6'
            go_upto_region 21 with (fail)
            have hbl := below_step gl (below_new wl (.cells #[.int .i64 R.kind, .int .i64 R.num] 73))
            have V1 := Lib.hid (hv6.below (below_new wl (.cells #[.int .i64 R.kind, .int .i64 R.num] 73)))
            have MB := Lib.hid (MM.out.below hbl)
            clear hbl hv hv6 gl MM
            generalize wl.alloc (.cells #[.int .i64 R.kind, .int .i64 R.num] 73) = wb at *
            generalize wl.heap.size = nl at *
            have HNC := Lib.hid (fun (k : Nat) (hk : k < R.V.length) => no_clash HOk.out HAl.out HO.out (HCv.out k hk))
            go_wp2_with fail
            go_loopw [30] (fun iv wv => ∃ k : Nat, k ≤ R.V.length ∧ iv = .int .i64 (k : Int) ∧ Hid (Below wb.heap.size wb wv)) (fun iv _ => R.V.length - (intOf iv).toNat)
            case atStart => exact ⟨0, Nat.zero_le _, rfl, Lib.hid (Below.refl _ _)⟩
            case round =>
              obtain ⟨k, hk, rfl, HK⟩ := hrel
              by_cases hlt : k < R.V.length
              · obtain ⟨vb, vo, rfl, hvb, hvc⟩ := V1.out.at (show 0 < R.V.length by omega)
                have V1' := cell_below HK.out (hvc k hlt 1 (.int .i64 R.V[k].tool) rfl)
                have V2' := Lib.hid (cell_below HK.out (hvc k hlt 2 (.int .i64 R.V[k].start) rfl))
                have V3' := Lib.hid (cell_below HK.out (hvc k hlt 3 (.int .i64 R.V[k].fin) rfl))
                have HN := Lib.hid (HNC.out k hlt)
                clear hvc
                generalize R.V[k] = v at *
                obtain ⟨v0, vt, vs, vf⟩ := v
                simp only at V1' V2' V3' HN
                have HLs := Lib.hid (list_is vt (MB.out.below HK.out).cal.is)
                unfold NewRow at HLs
                generalize (if Kal.isTool vt = true then K vt.toNat else []) = A at *
                have i1 : (0 : Int) ≤ (k : Int) := by omega
                have i2 : (k : Int) < (R.V.length : Int) := by omega
                go_wp2_with fail
                refine HLs.out.mono ?_
                rintro _ w21 ⟨v21, rfl, o21, b21⟩
                obtain ⟨a21, c21, rfl, r21, -⟩ := o21.arg
                have R21 := Lib.hid r21
                have B21 := Lib.hid b21
                have hA := Nat.le_trans r21.1 r21.2.1
                unfold maxLen at hA
                clear o21 r21 b21 HLs V1'
                go_wp2_with fail
                go_loopw [32] (fun iv wv => ∃ j : Nat, j ≤ A.length ∧ iv = .int .i64 (j : Int) ∧ Hid (Below w21.heap.size w21 wv)) (fun iv _ => A.length - (intOf iv).toNat)
                case atStart => exact ⟨0, Nat.zero_le _, rfl, Lib.hid (Below.refl _ _)⟩
                case round =>
                  obtain ⟨j, hj, rfl, HW⟩ := hrel
                  by_cases hjl : j < A.length
                  · have v2 := cell_below HW.out (cell_below B21.out V2'.out)
                    have v3 := cell_below HW.out (cell_below B21.out V3'.out)
                    obtain ⟨ab, ao, rfl, hab, hac⟩ := (R21.out.below HW.out).at (by omega)
                    obtain ⟨-, u1, u2, u3⟩ := hac j hjl
                    have HNj := Lib.hid (HN.out A[j] (List.getElem_mem hjl))
                    clear hac
                    generalize A[j] = b at *
                    obtain ⟨bt, bs, be, bo⟩ := b
                    simp only at u1 u2 u3 HNj
                    have j1 : (0 : Int) ≤ (j : Int) := by omega
                    have j2 : (j : Int) < (A.length : Int) := by omega
                    by_cases e1 : bo = 50
                    · have f1 : (bo != 50) = false := by simp [e1]
                      clear e1
                      go_wp2_with fail
                      go_quiet (fail)
                      go_wp2_with fail
                      go_roundw
                      case rel => exact ⟨j + 1, hjl, by go_num, Lib.hid (below_drewN HW.out _)⟩
                      case measure => simp [intOf]; omega
                    · have f1 : (bo != 50) = true := by simp [e1]
                      by_cases e2 : bs < vf
                      · have e3 : ¬ vs < be := fun h => HNj.out e1 ⟨e2, h⟩
                        have e4 : decide (vs < be) = false := by simp; omega
                        have e5 : decide (bs < vf) = true := by simp; omega
                        clear e1
                        go_wp2_with fail
                        go_quiet (fail)
                        go_wp2_with fail
                        go_roundw
                        case rel => exact ⟨j + 1, hjl, by go_num, Lib.hid (below_drewN HW.out _)⟩
                        case measure => simp [intOf]; omega
                      · have e5 : decide (bs < vf) = false := by simp; omega
                        clear e1
                        go_wp2_with fail
                        go_quiet (fail)
                        go_wp2_with fail
                        go_roundw
                        case rel => exact ⟨j + 1, hjl, by go_num, Lib.hid (below_drewN HW.out _)⟩
                        case measure => simp [intOf]; omega
                  · have j3 : ¬ (j : Int) < (A.length : Int) := by omega
                    have HKn := Lib.hid (below_step HK.out (below_step B21.out HW.out))
                    go_wp2_with fail
                    go_roundw
                    case rel => exact ⟨k + 1, hlt, by go_num, HKn⟩
                    case measure => simp [intOf]; omega
              · have i3 : ¬ (k : Int) < (R.V.length : Int) := by omega
                go_wp2_with fail
                go_ret
                exact ⟨rfl, (MB.out.below HK.out).bel⟩
          · have h2a : ¬ (i : Int) < (Q.length : Int) := by omega
            have c0 := box_cell MM.out.p.box 0 (.int .i64 P.entry) rfl
            have c1 := box_cell MM.out.p.box 1 (.int .i64 P.mmin) rfl
            have c2 := box_cell MM.out.p.box 2 (.int .i64 P.mmax) rfl
            have c3 := box_cell MM.out.p.box 3 (.slice sa P.st.length sc) rfl
            have c4 := box_cell MM.out.p.box 4 (.slice wa P.wn.length wc1) rfl
            have k0 := box_cell MM.out.s.box 0 (.slice da s.dur.length dc) rfl
            have k1 := box_cell MM.out.s.box 1 (.slice ma s.mv.length mc) rfl
            have k2 := box_cell MM.out.s.box 2 (.int .i64 s.det) rfl
            have k3 := box_cell MM.out.s.box 3 (.int .i64 s.tool) rfl
            have k4 := box_cell MM.out.s.box 4 (.int .i64 s.at_) rfl
            go_wp2_with fail
            refine (Pe.Run_any ⟨P, sa, sc, wa, wc1⟩ ⟨s, da, dc, ma, mc⟩ wr MM.out.p.ok MM.out.s.ok).mono ?_; rintro e wl ⟨va, vc, rfl, hv, gl⟩
            rw [HAn.out] at hv
            simp only [HAn.out]
            clear c0 c1 c2 c3 c4 k0 k1 k2 k3 k4
            obtain ⟨a6, c6, e6, hv6, -⟩ := Pe.RowO.arg Pe.visit_len hv
            injection e6 with e6 _ e6'
            subst e6; subst e6'
            go_upto_region 21 with (fail)
            have hbl := below_step gl (below_new wl (.cells #[.int .i64 R.kind, .int .i64 R.num] 73))
            have V1 := Lib.hid (hv6.below (below_new wl (.cells #[.int .i64 R.kind, .int .i64 R.num] 73)))
            have MB := Lib.hid (MM.out.below hbl)
            clear hbl hv hv6 gl MM
            generalize wl.alloc (.cells #[.int .i64 R.kind, .int .i64 R.num] 73) = wb at *
            generalize wl.heap.size = nl at *
            have HNC := Lib.hid (fun (k : Nat) (hk : k < R.V.length) => no_clash HOk.out HAl.out HO.out (HCv.out k hk))
            go_wp2_with fail
            go_loopw [30] (fun iv wv => ∃ k : Nat, k ≤ R.V.length ∧ iv = .int .i64 (k : Int) ∧ Hid (Below wb.heap.size wb wv)) (fun iv _ => R.V.length - (intOf iv).toNat)
            case atStart => exact ⟨0, Nat.zero_le _, rfl, Lib.hid (Below.refl _ _)⟩
            case round =>
              obtain ⟨k, hk, rfl, HK⟩ := hrel
              by_cases hlt : k < R.V.length
              · obtain ⟨vb, vo, rfl, hvb, hvc⟩ := V1.out.at (show 0 < R.V.length by omega)
                have V1' := cell_below HK.out (hvc k hlt 1 (.int .i64 R.V[k].tool) rfl)
                have V2' := Lib.hid (cell_below HK.out (hvc k hlt 2 (.int .i64 R.V[k].start) rfl))
                have V3' := Lib.hid (cell_below HK.out (hvc k hlt 3 (.int .i64 R.V[k].fin) rfl))
                have HN := Lib.hid (HNC.out k hlt)
                clear hvc
                generalize R.V[k] = v at *
                obtain ⟨v0, vt, vs, vf⟩ := v
                simp only at V1' V2' V3' HN
                have HLs := Lib.hid (list_is vt (MB.out.below HK.out).cal.is)
                unfold NewRow at HLs
                generalize (if Kal.isTool vt = true then K vt.toNat else []) = A at *
                have i1 : (0 : Int) ≤ (k : Int) := by omega
                have i2 : (k : Int) < (R.V.length : Int) := by omega
                go_wp2_with fail
                refine HLs.out.mono ?_
                rintro _ w21 ⟨v21, rfl, o21, b21⟩
                obtain ⟨a21, c21, rfl, r21, -⟩ := o21.arg
                have R21 := Lib.hid r21
                have B21 := Lib.hid b21
                have hA := Nat.le_trans r21.1 r21.2.1
                unfold maxLen at hA
                clear o21 r21 b21 HLs V1'
                go_wp2_with fail
                go_loopw [32] (fun iv wv => ∃ j : Nat, j ≤ A.length ∧ iv = .int .i64 (j : Int) ∧ Hid (Below w21.heap.size w21 wv)) (fun iv _ => A.length - (intOf iv).toNat)
                case atStart => exact ⟨0, Nat.zero_le _, rfl, Lib.hid (Below.refl _ _)⟩
                case round =>
                  obtain ⟨j, hj, rfl, HW⟩ := hrel
                  by_cases hjl : j < A.length
                  · have v2 := cell_below HW.out (cell_below B21.out V2'.out)
                    have v3 := cell_below HW.out (cell_below B21.out V3'.out)
                    obtain ⟨ab, ao, rfl, hab, hac⟩ := (R21.out.below HW.out).at (by omega)
                    obtain ⟨-, u1, u2, u3⟩ := hac j hjl
                    have HNj := Lib.hid (HN.out A[j] (List.getElem_mem hjl))
                    clear hac
                    generalize A[j] = b at *
                    obtain ⟨bt, bs, be, bo⟩ := b
                    simp only at u1 u2 u3 HNj
                    have j1 : (0 : Int) ≤ (j : Int) := by omega
                    have j2 : (j : Int) < (A.length : Int) := by omega
                    by_cases e1 : bo = 50
                    · have f1 : (bo != 50) = false := by simp [e1]
                      clear e1
                      go_wp2_with fail
                      go_quiet (fail)
                      go_wp2_with fail
                      go_roundw
                      case rel => exact ⟨j + 1, hjl, by go_num, Lib.hid (below_drewN HW.out _)⟩
                      case measure => simp [intOf]; omega
                    · have f1 : (bo != 50) = true := by simp [e1]
                      by_cases e2 : bs < vf
                      · have e3 : ¬ vs < be := fun h => HNj.out e1 ⟨e2, h⟩
                        have e4 : decide (vs < be) = false := by simp; omega
                        have e5 : decide (bs < vf) = true := by simp; omega
                        clear e1
                        go_wp2_with fail
                        go_quiet (fail)
                        go_wp2_with fail
                        go_roundw
                        case rel => exact ⟨j + 1, hjl, by go_num, Lib.hid (below_drewN HW.out _)⟩
                        case measure => simp [intOf]; omega
                      · have e5 : decide (bs < vf) = false := by simp; omega
                        clear e1
                        go_wp2_with fail
                        go_quiet (fail)
                        go_wp2_with fail
                        go_roundw
                        case rel => exact ⟨j + 1, hjl, by go_num, Lib.hid (below_drewN HW.out _)⟩
                        case measure => simp [intOf]; omega
                  · have j3 : ¬ (j : Int) < (A.length : Int) := by omega
                    have HKn := Lib.hid (below_step HK.out (below_step B21.out HW.out))
                    go_wp2_with fail
                    go_roundw
                    case rel => exact ⟨k + 1, hlt, by go_num, HKn⟩
                    case measure => simp [intOf]; omega
              · have i3 : ¬ (k : Int) < (R.V.length : Int) := by omega
                go_wp2_with fail
                go_ret
                exact ⟨rfl, (MB.out.below HK.out).bel⟩
end Go.Proofs.Ytjdhjlhcdpekbaa
