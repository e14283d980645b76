/-
  The walk of DispatchAll.
-/
import Derived.Test.YtjdhjlhcdpekbaaAlls
namespace Go.Proofs.Ytjdhjlhcdpekbaa
open Go.RowKit Go.Shelf Go.Sort Dsp

theorem JbA.ch2 {S : Nat → Prop} {w w' : World} {a : Option Addr} {c : Nat} {l : List Jb} (h : JbA w a c l) (hc : Ch S w w') (hS : ∀ x, a = some x → ¬ S x.block) : JbA w' a c l := by
  refine ⟨h.1, h.2.1, fun i hi => ?_⟩
  obtain ⟨b, off, rfl, h1, h2⟩ := h.2.2 i hi
  have hb := hS _ rfl
  exact ⟨b, off, rfl, Nat.lt_of_lt_of_le h1 hc.size, cell_ch hc h2.1 hb, cell_ch hc h2.2.1 hb, cell_ch hc h2.2.2.1 hb, cell_ch hc h2.2.2.2.1 hb, cell_ch hc h2.2.2.2.2.1 hb, cell_ch hc h2.2.2.2.2.2.1 hb, cell_ch hc h2.2.2.2.2.2.2 hb⟩
theorem Kal.empty_run (t : Nat) : RunOk (Kal.empty t) 0 0 := RunOk.nil

set_option maxRecDepth 100000 in
set_option maxHeartbeats 16000000 in
theorem allLaw_any (a0 : Option Addr) (c0 : Nat) (X : List (List Int)) (n tool : Int) (W : World) (hX : ArrsA 4 W a0 c0 X)
    (n1 : -9223372036854775808 ≤ n) (n2 : n ≤ 9223372036854775807) (t1 : -9223372036854775808 ≤ tool) (t2 : tool ≤ 9223372036854775807) :
    Calls Try.prog 10 #[.slice a0 X.length c0, .int .i64 n, .int .i64 tool] W fun e w' => e = .returned (.bool true) ∧ Below W.heap.size W w' := by
  have HX := Lib.hid hX
  have HS := Lib.hid (sane_any W)
  have HR := Lib.hid (fun w => rules_any n w ⟨n1, n2⟩)
  unfold NewInts at HR
  have HP1 := Lib.hid (fun w => pick_any tool 60 w ⟨t1, t2⟩ (by omega))
  have q1 := pickZ_bd (c := tool) (n := 60) (by omega)
  obtain ⟨t, ht⟩ : ∃ t : Nat, pickZ tool 60 = (t : Int) := ⟨(pickZ tool 60).toNat, by omega⟩
  rw [ht] at HP1 q1
  have ht60 : t < 60 := by omega
  have HJs := Lib.hid (fun (w : World) (h : Below W.heap.size W w) => show Calls Try.prog 17 #[.slice a0 X.length c0] w fun e w' => ∃ a c, e = .returned (.slice a (jobsL X).length c) ∧ JbA w' a c (jobsL X) ∧ Below w.heap.size w w' ∧ (∀ x, a = some x → w.heap.size ≤ x.block ∧ x.block < w'.heap.size) from
    (jobs_any X a0 c0 w (HX.out.below h)).mono fun e w' ⟨v, he, ho, hb⟩ => by
      obtain ⟨a, c, rfl, h1, h2⟩ := JbOwn.arg ho
      exact ⟨a, c, he, h1, hb, fun x hx => ho.lt _ (h2 x hx)⟩)
  have hlj := jobsL_len X
  have HNd := Lib.hid (jobsL_nodup X)
  obtain ⟨N, hN⟩ : ∃ N, (jobsL X).length = N := ⟨_, rfl⟩
  rw [hN] at HJs hlj
  have HN := Lib.hid hN
  have HV := Lib.hid (rulesL_valid n)
  clear hX n1 n2 t1 t2 ht hN q1
  obtain ⟨i0, hi, hz0, hz1, hz2⟩ := info_parts info_job
  go_enter Try.func10, Try.ntmps10
  go_wp2_with fail
  refine HS.out.mono ?_
  rintro _ w1 ⟨rfl, b1⟩
  have B1 := Lib.hid b1
  have HNew := Lib.hid (new_is w1)
  clear b1 HS
  go_wp2_with fail
  refine HNew.out.mono ?_
  rintro _ w2 ⟨C, rfl, k2⟩
  have K2 := Lib.hid k2
  have B2 := Lib.hid (below_step B1.out k2.bel)
  clear k2 HNew
  go_wp2_with fail
  refine (HJs.out w2 B2.out).mono ?_
  rintro _ w3 ⟨a3, c3, rfl, j3, b3, h3⟩
  have J3 := Lib.hid j3
  have C3 := Lib.hid ((K2.out.off b3).sub (S' := fun k => ∃ x, a3 = some x ∧ x.block = k) (fun k ⟨x, hx, hk⟩ => by have := (h3 x hx).1; omega))
  clear j3 b3 h3 K2
  go_wp2_with fail
  refine (HP1.out _).mono ?_
  rintro _ _ ⟨rfl, rfl⟩
  go_wp2_with fail
  go_loopw [9, 10, 11, 12] (fun ll nw rr ii wr => ∃ (i : Nat) (a : Option Addr) (c : Nat) (J : List Jb) (q : Nat) (s r : Int) (K : Kal.Kal), q + i = N ∧ ll = .slice a q c ∧ nw = .int .i64 s ∧ rr = .int .i64 r ∧ ii = .int .i64 (i : Int) ∧ Hid (J.length = q) ∧ Hid (Kal.Ok K) ∧ Hid (RunOk (K t) i s) ∧ Hid (∀ j ∈ J, j ∈ jobsL X) ∧ Hid ((J.map Jb.lot).Nodup) ∧ Hid (JbA wr a c J) ∧ Hid (CalOff C K w1 (fun k => ∃ x, a = some x ∧ x.block = k) wr)) (fun _ _ _ ii _ => 20 - (intOf ii).toNat)
  case atStart => exact ⟨0, a3, c3, jobsL X, N, 0, 0, Kal.empty, by omega, rfl, rfl, rfl, rfl, HN, Lib.hid Kal.Ok.empty, Lib.hid (Kal.empty_run t), Lib.hid (fun j h => h), HNd, J3, C3⟩
  case round =>
    clear J3 C3
    obtain ⟨i, a, c, J, q, s, r, K, hqi, rfl, rfl, rfl, rfl, HQ, HOk, HRun, HMem, HNo, HJ, HC⟩ := hrel
    have BWr := Lib.hid (below_step B1.out HC.out.is.bel)
    go_wp2_with fail
    refine (HJs.out _ BWr.out).mono ?_
    rintro _ w4 ⟨a4, c4, rfl, -, b4, -⟩
    have B4 := Lib.hid b4
    clear b4
    by_cases hlt : i < N
    · have k1 : (i : Int) < (N : Int) := by omega
      go_wp2_with fail
      refine (HR.out _).mono ?_
      rintro _ w6 ⟨v6, rfl, o6, b6⟩
      obtain ⟨a6, c6, rfl, r6⟩ := o6.arg
      have R6 := Lib.hid r6
      have B6 := Lib.hid (below_step B4.out b6)
      obtain ⟨j, hpk, hjm, hL, hfr, hrc⟩ := run_pick (r := r) HOk.out ht60 HRun.out (by omega) HMem.out (by rw [HQ.out]; omega) HV.out
      have hs0 := HRun.out.s0
      have hsm := HRun.out.sm
      have HPk := Lib.hid (Pick_any (HC.out.is.below B6.out) (t : Int) s _ _ _ r _ _ _ (by unfold Fits; omega) R6.out (rules_1000 n) (by rw [HQ.out]; omega) (HJ.out.below B6.out))
      rw [hpk, HQ.out] at HPk
      unfold pickV at HPk
      simp only [Option.getD_some, Option.isSome_some] at HPk
      have HFr := Lib.hid hfr
      have HLn := Lib.hid (fun w => Length_any r j w (by omega))
      have HRn := Lib.hid (run_book HOk.out ht60 HRun.out hL.1 hL.2 hfr)
      have HLe := Lib.hid (filJ_len HNo.out ⟨j, hjm, rfl⟩)
      clear o6 r6 b6 hpk hfr hjm
      generalize lenP r j = l0 at *
      go_wp2_with fail
      refine HPk.out.mono ?_
      rintro _ w7 ⟨rfl, b7⟩
      have B7 := Lib.hid (below_step B6.out b7)
      clear b7 HPk
      obtain ⟨j0, j1, j2, j3, j4, j5, j6⟩ := j
      simp only at HFr hrc HRn HLe
      have d1 : IntKind.i64.wrap (s + l0) = s + l0 := IntWalk.i64_in _ (by omega)
      have B8 := Lib.hid (below_step B7.out (below_new w7 (.cells #[.int .i64 j0, .int .i64 j1, .bool j2, .int .i64 j3, .int .i64 j4, .int .i64 j5, .int .i64 j6] 43)))
      have JP := Lib.hid (show JbC (w7.alloc (.cells #[.int .i64 j0, .int .i64 j1, .bool j2, .int .i64 j3, .int .i64 j4, .int .i64 j5, .int .i64 j6] 43)) w7.heap.size 0 ⟨j0, j1, j2, j3, j4, j5, j6⟩ by unfold JbC; go_simp)
      go_wp2_with fail
      generalize w7.alloc (.cells #[.int .i64 j0, .int .i64 j1, .bool j2, .int .i64 j3, .int .i64 j4, .int .i64 j5, .int .i64 j6] 43) = w8 at *
      obtain ⟨z0, z1, z2, z3, z4, z5, z6⟩ := JP.out
      simp only [Nat.zero_add] at z0 z1 z2 z3 z4 z5 z6
      go_wp2_with fail
      refine (HLn.out _).mono ?_
      rintro _ w9 ⟨rfl, b9⟩
      have B9 := Lib.hid (below_step B8.out b9)
      have y0 := cell_below b9 z0
      have Y1 := Lib.hid (cell_below b9 z1)
      have Y0 := Lib.hid y0
      have HB7 := Lib.hid (show wr.heap.size ≤ w7.heap.size from B7.out.size)
      have HC9 := Lib.hid (HC.out.more B9.out)
      have HBo := Lib.hid (book_off ⟨(t : Int), s, s + l0, j0⟩ HC9.out)
      have JJ9 := Lib.hid (HJ.out.below B9.out)
      rw [HFr.out] at HBo
      simp only [if_true] at HBo
      have HOk2 := Lib.hid (HOk.out.book ⟨(t : Int), s, s + l0, j0⟩)
      clear b9 z0 z1 z2 z3 z4 z5 z6 JP
      go_wp2_with fail
      refine HBo.out.mono ?_
      rintro _ w10 ⟨rfl, hoff, hch⟩
      have y0' := cell_ch hch Y0.out (fun h => h.1 (.inr HB7.out))
      have y1 := cell_ch hch Y1.out (fun h => h.1 (.inr HB7.out))
      have HC10 := Lib.hid hoff.is
      have JJ10 := Lib.hid (JJ9.out.ch2 hch (fun x hx h => h.1 (.inl ⟨x, hx, rfl⟩)))
      clear hoff hch HBo y0 Y1 JJ9 HC9
      generalize Kal.book K ⟨(t : Int), s, s + l0, j0⟩ = Kn at *
      go_wp2_with fail
      have Z0 := Lib.hid y0'
      go_loopw [16, 17] (fun vv kk wv => ∃ (k m : Nat) (v : Value), k ≤ q ∧ kk = .int .i64 (k : Int) ∧ v = vv ∧ m ≤ k ∧ Hid (m = (filJ J j0 k).length) ∧ Hid (wv.ownsRow w10.heap.size 43 7 v m (jbRow (filJ J j0 k))) ∧ Hid (Below w10.heap.size w10 wv)) (fun _ kk _ => q - (intOf kk).toNat)
      case atStart => exact ⟨0, 0, _, Nat.zero_le _, rfl, rfl, Nat.le_refl _, Lib.hid (by simp [filJ]), Lib.hid (by simpa [filJ, jbRow] using World.ownsRow_nil _ _ _ _), Lib.hid (Below.refl _ _)⟩
      case round =>
        clear y0' y1
        obtain ⟨k, m, v, hk, rfl, rfl, hmk, HM, HW, HBw⟩ := hrel
        have z0 := cell_below HBw.out Z0.out
        by_cases hkq : k < q
        · have hkJ : k < J.length := by rw [HQ.out]; exact hkq
          obtain ⟨b, off, rfl, hb, hc⟩ := (JJ10.out.below HBw.out).at (by omega)
          obtain ⟨x0, x1, x2, x3, x4, x5, x6⟩ := hc k hkJ
          have HSc := Lib.hid (filJ_succ (q := j0) hkJ)
          have k0 : (0 : Int) ≤ (k : Int) := by omega
          have k2 : (k : Int) < (q : Int) := by omega
          clear hc
          generalize J[k] = x at *
          obtain ⟨g0, g1, g2, g3, g4, g5, g6⟩ := x
          simp only at x0 x1 x2 x3 x4 x5 x6 HSc
          by_cases hp : g0 = j0
          · rw [if_pos hp, List.append_nil] at HSc
            have hpb : (g0 != j0) = false := by simp [hp]
            have hpc : (g0 == j0) = true := by simp [hp]
            clear hp
            go_wp2_with fail
            go_quiet (fail)
            go_wp2_with fail
            go_roundw
            case rel => exact ⟨k + 1, m, _, hkq, by go_num, rfl, by omega, by rw [HSc.out]; exact HM, by rw [HSc.out]; exact Lib.hid HW.out, Lib.hid (below_drewN HBw.out _)⟩
            case measure => simp [intOf]; omega
          · rw [if_neg hp] at HSc
            have hpb : (g0 != j0) = true := by simp [hp]
            have hpc : (g0 == j0) = false := by simp [hp]
            clear hp
            go_wp2_with fail
            go_quiet (fail)
            generalize hWv : wr.drewN nq = w11
            have HW11 := Lib.hid (show w11.ownsRow w10.heap.size 43 7 v m (jbRow (filJ J j0 k)) from by rw [← hWv]; exact HW.out)
            have HB11 := Lib.hid (show Below w10.heap.size w10 w11 from by rw [← hWv]; exact below_drewN HBw.out _)
            have u0 : w11.cell? ⟨b, off + k * 7, none⟩ = some (.int .i64 g0) := by rw [← hWv, World.cell?_drewN]; exact x0
            have u1 : w11.cell? ⟨b, off + k * 7 + 1, none⟩ = some (.int .i64 g1) := by rw [← hWv, World.cell?_drewN]; exact x1
            have u2 : w11.cell? ⟨b, off + k * 7 + 2, none⟩ = some (.bool g2) := by rw [← hWv, World.cell?_drewN]; exact x2
            have u3 : w11.cell? ⟨b, off + k * 7 + 3, none⟩ = some (.int .i64 g3) := by rw [← hWv, World.cell?_drewN]; exact x3
            have u4 : w11.cell? ⟨b, off + k * 7 + 4, none⟩ = some (.int .i64 g4) := by rw [← hWv, World.cell?_drewN]; exact x4
            have u5 : w11.cell? ⟨b, off + k * 7 + 5, none⟩ = some (.int .i64 g5) := by rw [← hWv, World.cell?_drewN]; exact x5
            have u6 : w11.cell? ⟨b, off + k * 7 + 6, none⟩ = some (.int .i64 g6) := by rw [← hWv, World.cell?_drewN]; exact x6
            clear hWv x0 x1 x2 x3 x4 x5 x6 z0
            go_wp2_with (at_builtin; refine wpList_append_own _ rfl _ _ 22 rfl w10.heap.size 43 i0 _ 7 56 Try.underlying22 hi hz0 hz1 hz2 rfl (by decide) _ _ _ rfl (HW11.out.alloc _) ⟨w11.heap.size, 0, none⟩ 1 1 [.int .i64 g0, .int .i64 g1, .bool g2, .int .i64 g3, .int .i64 g4, .int .i64 g5, .int .i64 g6] rfl rfl (World.news_of_block (heap_alloc_new w11 _)) (by simp [Value.oneCell']) (by unfold maxLen; omega) (by omega) (by have := HB11.out.size; simp; omega) ?_; intro v' w12 hown' hgrow _)
            have O12 := Lib.hid (show w12.ownsRow w10.heap.size 43 7 v' (m + 1) (jbRow (filJ J j0 (k + 1))) from by
              rw [HSc.out, jbRow_snoc]; exact hown')
            have N12 := Lib.hid (show m + 1 = (filJ J j0 (k + 1)).length from by rw [HSc.out, HM.out]; simp)
            have G12 := Lib.hid (HB11.out.trans (((Below.refl w10.heap.size w11).alloc HB11.out.size (.cells #[.int .i64 g0, .int .i64 g1, .bool g2, .int .i64 g3, .int .i64 g4, .int .i64 g5, .int .i64 g6] 43)).grown hgrow (by have := HB11.out.size; simp; omega) (fun kk e => (HW11.out.lt kk e).1)))
            clear hown' hgrow HW11 HB11 u0 u1 u2 u3 u4 u5 u6
            go_wp2_with fail
            go_roundw
            case rel => exact ⟨k + 1, m + 1, _, hkq, by go_num, rfl, by omega, N12, O12, G12⟩
            case measure => simp [intOf]; omega
        · have k3 : ¬ (k : Int) < (q : Int) := by omega
          obtain rfl : k = q := by omega
          have hq0 : 0 < k := by omega
          have HLe2 := Lib.hid (show m + 1 = k by rw [HM.out]; have := HLe.out; rw [HQ.out] at this; exact this)
          obtain ⟨av, cv, hv, ja, hab⟩ := JbOwn.arg (show JbOwn wr w10.heap.size v (filJ J j0 k) by unfold JbOwn; rw [← HM.out]; exact HW.out)
          rw [← HM.out] at hv
          subst hv
          have HAb := Lib.hid (fun x hx => (HW.out.lt _ (hab x hx)).1)
          have JA := Lib.hid ja
          have e1 : IntKind.i64.wrap ((k : Int) - 1) = (m : Int) := by have := HLe2.out; rw [IntWalk.i64_in _ (by omega)]; omega
          have e2 : ((m : Int) != (m : Int)) = false := by simp
          have y2 := cell_below HBw.out Z0.out
          clear ja hab
          go_wp2_with fail
          go_roundw
          case rel => exact ⟨i + 1, av, cv, filJ J j0 k, m, s + l0, j1, Kn, by have := HLe2.out; omega, rfl, rfl, rfl, by go_num, Lib.hid HM.out.symm, HOk2, HRn, Lib.hid (fun j hj => HMem.out j (filJ_mem hj)), Lib.hid (by have := filJ_nodup (q := j0) HNo.out; rw [HQ.out] at this; exact this), JA, Lib.hid ((HC10.out.off HBw.out).sub (fun kk ⟨x, hx, hkk⟩ => by have := HAb.out x hx; omega))⟩
          case measure => simp [intOf]; omega
    · have k1 : ¬ (i : Int) < (N : Int) := by omega
      have hq0 : q = 0 := by omega
      have hiN : i = N := by omega
      have HCi := Lib.hid (HC.out.is.below B4.out)
      have HLs := Lib.hid (list_is (t : Int) HCi.out)
      rw [if_pos (show Kal.isTool (t : Int) = true by unfold Kal.isTool; simp; omega), Int.toNat_natCast] at HLs
      unfold NewRow at HLs
      have B5 := Lib.hid (below_step BWr.out B4.out)
      have HRn := Lib.hid HRun.out
      generalize K t = A at *
      have hAl : A.length = i := HRn.out.len
      go_wp2_with fail
      refine HLs.out.mono ?_
      rintro _ w5 ⟨v5, rfl, o5, b5⟩
      obtain ⟨a5, c5, rfl, r5, -⟩ := o5.arg
      have R5 := Lib.hid r5
      have B6 := Lib.hid (below_step B5.out b5)
      clear o5 r5 b5 HLs
      go_wp2_with fail
      go_loopw [19] (fun kk wv => ∃ k : Nat, 1 ≤ k ∧ kk = .int .i64 (k : Int) ∧ Hid (Below w5.heap.size w5 wv)) (fun kk _ => A.length + 1 - (intOf kk).toNat)
      case atStart => exact ⟨1, Nat.le_refl _, rfl, Lib.hid (Below.refl _ _)⟩
      case round =>
        obtain ⟨k, hk1, rfl, HW⟩ := hrel
        have hA1 : A.length ≤ 12 := by omega
        by_cases hkA : k < A.length
        · obtain ⟨ab, ao, rfl, hab, hac⟩ := (R5.out.below HW.out).at (by omega)
          obtain ⟨k', hk'⟩ : ∃ k', k = k' + 1 := ⟨k - 1, by omega⟩
          have hk2 : k' < A.length := by omega
          obtain ⟨-, u1, -, -⟩ := hac k hkA
          obtain ⟨-, -, e2, -⟩ := hac k' hk2
          have hs : A[k].s = A[k'].e := by
            subst hk'; exact HRn.out.next k' (by omega)
          rw [hs] at u1
          clear hac hs
          generalize A[k'].e = ee at *
          have z1 : (0 : Int) ≤ (k : Int) := by omega
          have z2 : (k : Int) < (A.length : Int) := by omega
          have z5 : IntKind.i64.wrap ((k : Int) - 1) = (k' : Int) := by rw [IntWalk.i64_in _ (by omega)]; omega
          have z6 : (0 : Int) ≤ (k' : Int) := by omega
          have z7 : (k' : Int) < (A.length : Int) := by omega
          have z8 : (ee != ee) = false := by simp
          clear hk'
          go_wp2_with fail
          go_quiet (fail)
          go_wp2_with fail
          go_roundw
          case rel => exact ⟨k + 1, by omega, by go_num, Lib.hid (below_drewN HW.out _)⟩
          case measure => simp [intOf]; omega
        · have z2 : ¬ (k : Int) < (A.length : Int) := by omega
          have q0 : ((q : Int) == 0) = true := by simp [hq0]
          have n0 : ((A.length : Int) == (N : Int)) = true := by simp [hAl, hiN]
          have BE := Lib.hid (below_step B6.out HW.out)
          have HJe := Lib.hid (HJs.out _ BE.out)
          go_wp2_with fail
          refine HJe.out.mono ?_
          rintro _ w9 ⟨a9, c9, rfl, -, b9, -⟩
          have B9 := Lib.hid (below_step BE.out b9)
          clear b9
          go_wp2_with fail
          go_ret
          exact ⟨rfl, B9.out⟩
end Go.Proofs.Ytjdhjlhcdpekbaa
