/-
  The walk of DispatchFirst.
-/
import Derived.Test.YtjdhjlhcdpekbaaPk
import Derived.Test.YtjdhjlhcdpekbaaBatchW
import Derived.Deep.RegionHeld3
namespace Go.Proofs.Ytjdhjlhcdpekbaa
open Go.RowKit Go.Shelf Go.Sort Dsp

set_option maxRecDepth 100000 in
set_option maxHeartbeats 8000000 in
theorem firstLaw11_any (a0 : Option Addr) (c0 : Nat) (B : List (List Int)) (a1 : Option Addr) (c1 : Nat) (X : List (List Int)) (n tool now rcp : Int) (W : World) (hB : ArrsA 4 W a0 c0 B) (hX : ArrsA 4 W a1 c1 X)
    (n1 : -9223372036854775808 ≤ n) (n2 : n ≤ 9223372036854775807) (t1 : -9223372036854775808 ≤ tool) (t2 : tool ≤ 9223372036854775807) (s1 : -9223372036854775808 ≤ now) (s2 : now ≤ 9223372036854775807) (r1 : -9223372036854775808 ≤ rcp) (r2 : rcp ≤ 9223372036854775807) :
    Calls Try.prog 6 #[.slice a0 B.length c0, .slice a1 X.length c1, .int .i64 n, .int .i64 tool, .int .i64 now, .int .i64 rcp] W fun e w' => e = .returned (.bool true) ∧ Below W.heap.size W w' := by
  have HB := Lib.hid hB; have HX := Lib.hid hX
  have HS := Lib.hid (sane_any W)
  have HR := Lib.hid (fun w => rules_any n w ⟨n1, n2⟩)
  unfold NewInts at HR
  have HP1 := Lib.hid (fun w => pick_any tool 5 w ⟨t1, t2⟩ (by omega))
  have HP2 := Lib.hid (fun w => pick_any now 200 w ⟨s1, s2⟩ (by omega))
  have HP3 := Lib.hid (fun w => pick_any rcp 4 w ⟨r1, r2⟩ (by omega))
  have q1 := pickZ_bd (c := tool) (n := 5) (by omega)
  have q2 := pickZ_bd (c := now) (n := 200) (by omega)
  obtain ⟨t, ht⟩ : ∃ t : Nat, pickZ tool 5 = (t : Int) := ⟨(pickZ tool 5).toNat, by omega⟩
  rw [ht] at HP1 q1
  generalize pickZ now 200 = s at *
  generalize pickZ rcp 4 = r at *
  have ht5 : t < 5 := by omega
  clear hB hX n1 n2 t1 t2 s1 s2 r1 r2 ht
  go_enter Try.func6, Try.ntmps6
  go_wp2_with fail
  refine HS.out.mono ?_
  rintro _ w1 ⟨rfl, b1⟩
  have HBk := Lib.hid (booked11_any B a0 c0 w1 (HB.out.below b1))
  have B1 := Lib.hid b1
  clear b1 HS
  go_wp2_with fail
  refine HBk.out.mono ?_
  rintro _ w2 ⟨C, rfl, k2⟩
  have K2 := Lib.hid k2
  have HOk := Lib.hid (bkK_ok B)
  generalize bkK B = K at *
  generalize ((Kal.all K).length : Int) = cnt at *
  have B2 := Lib.hid (below_step B1.out k2.bel)
  have HJ := Lib.hid (jobs_any X a1 c1 w2 (HX.out.below B2.out))
  unfold NewJobs at HJ
  clear k2 HBk
  go_wp2_with fail
  refine HJ.out.mono ?_
  rintro _ w3 ⟨v3, rfl, o3, b3⟩
  obtain ⟨a3, c3, rfl, j3, -⟩ := o3.arg
  have J3 := Lib.hid j3; have B3 := Lib.hid (below_step B2.out b3); have K3 := Lib.hid (K2.out.below b3)
  clear o3 b3 j3 HJ K2
  go_wp2_with fail
  refine (HP1.out _).mono ?_
  rintro _ _ ⟨rfl, rfl⟩
  go_wp2_with fail
  refine (HP2.out _).mono ?_
  rintro _ _ ⟨rfl, rfl⟩
  go_wp2_with fail
  refine (HP3.out _).mono ?_
  rintro _ _ ⟨rfl, rfl⟩
  go_wp2_with fail
  refine (HR.out _).mono ?_
  rintro _ w4 ⟨v4, rfl, o4, b4⟩
  obtain ⟨a4, c4, rfl, r4⟩ := o4.arg
  have R4 := Lib.hid r4; have B4 := Lib.hid (below_step B3.out b4); have J4 := Lib.hid (J3.out.below b4); have K4 := Lib.hid (K3.out.below b4)
  have HPk := Lib.hid (Pick_any K4.out (t : Int) s _ _ _ r _ _ _ (by unfold Fits; omega) R4.out (rules_1000 n) (jobs_20 X) J4.out)
  clear o4 b4 r4 HR J3 K3
  go_wp2_with fail
  refine HPk.out.mono ?_
  rintro _ w5 ⟨rfl, b5⟩
  have R5 := Lib.hid (R4.out.below b5); have B5 := Lib.hid (below_step B4.out b5); have J5 := Lib.hid (J4.out.below b5); have K5 := Lib.hid (K4.out.below b5)
  have HV := Lib.hid (rulesL_valid n)
  have hlj := jobsL_len X
  have HBd := Lib.hid (fun (j : Jb) (h : j ∈ jobsL X) => job_bd h)
  have HLb := Lib.hid (fun (j : Jb) (h : j ∈ jobsL X) => lenP_bd h r)
  have HFn := Lib.hid (fun (j : Jb) (h : j ∈ jobsL X) => fits_now (K := K) (t := (t : Int)) (f := s) (r := r) h)
  have HIj := Lib.hid (fun (i k : Nat) (hi : i < (jobsL X).length) (hk : k < (jobsL X).length) => lot_inj (X := X) hi hk)
  have HPS := Lib.hid (fun j => pick_some (K := K) (t := (t : Int)) (f := s) (r := r) (J := jobsL X) (j := j) HV.out)
  have HPN := Lib.hid (pick_none (K := K) (t := (t : Int)) (f := s) (r := r) (J := jobsL X) HV.out)
  have hrl := rules_1000 n
  generalize jobsL X = J at *
  generalize rulesL n = rs at *
  generalize pickP K (t : Int) s r (orderV rs r J) = o at *
  clear b5 HPk J4 K4 R4
  unfold pickV
  rcases o with _ | p
  · have HNo := Lib.hid (HPN.out rfl)
    clear HPS HPN
    simp only [Option.getD_none, Option.isSome_none]
    have bw := below_new w5 (.cells #[.int .i64 0, .int .i64 0, .bool false, .int .i64 0, .int .i64 0, .int .i64 0, .int .i64 0] 43)
    have JP := Lib.hid (show JbC (w5.alloc (.cells #[.int .i64 0, .int .i64 0, .bool false, .int .i64 0, .int .i64 0, .int .i64 0, .int .i64 0] 43)) w5.heap.size 0 zeroJ by unfold JbC; go_simp)
    have R6 := Lib.hid (R5.out.below bw); have B6 := Lib.hid (below_step B5.out bw); have J6 := Lib.hid (J5.out.below bw); have K6 := Lib.hid (K5.out.below bw)
    clear bw R5 J5 K5
    go_wp2_with fail
    generalize w5.alloc (.cells #[.int .i64 0, .int .i64 0, .bool false, .int .i64 0, .int .i64 0, .int .i64 0, .int .i64 0] 43) = w6 at *
    go_loopw [20] (fun i wr => ∃ k : Nat, k ≤ J.length ∧ i = .int .i64 (k : Int) ∧ Hid (Below w6.heap.size w6 wr)) (fun i _ => J.length - (intOf i).toNat)
    case atStart => exact ⟨0, Nat.zero_le _, rfl, Lib.hid (Below.refl _ _)⟩
    case round =>
      obtain ⟨k, hk, rfl, HW⟩ := hrel
      by_cases hlt : k < J.length
      · obtain ⟨b, off, rfl, hb, hc⟩ := (J6.out.below HW.out).at (by omega)
        obtain ⟨x0, x1, x2, x3, x4, x5, x6⟩ := hc k hlt
        have HM := Lib.hid (List.getElem_mem hlt)
        have hL := HLb.out _ HM.out
        have hD := HBd.out _ HM.out
        have HE := Lib.hid (HFn.out _ HM.out)
        have HLn := Lib.hid (fun w => Length_any r J[k] w (by omega))
        have k0 : (0 : Int) ≤ (k : Int) := by omega
        have k1 : (k : Int) < (J.length : Int) := by omega
        clear hc hD
        have HNk := Lib.hid (HNo.out _ HM.out)
        generalize J[k] = j at *
        obtain ⟨j0, j1, j2, j3, j4, j5, j6⟩ := j
        simp only at x0 x1 x2 x3 x4 x5 x6
        generalize lenP r ⟨j0, j1, j2, j3, j4, j5, j6⟩ = m at *
        obtain ⟨f1, -⟩ := first_now HOk.out (t := t) (by omega) (f := s) (n := m) hL.1 (by omega) (by omega)
        have d1 : IntKind.i64.wrap (s + m) = s + m := IntWalk.i64_in _ (by omega)
        have HBs := Lib.hid (fun (w : World) (h : Below wr.heap.size wr w) => busy_is (t : Int) s (s + m) ((K6.out.below HW.out).below h))
        have HFB := Lib.hid (show fitsP K (t : Int) s r ⟨j0, j1, j2, j3, j4, j5, j6⟩ = !busyK K (t : Int) s (s + m) from by
          rw [HE.out]; cases hbz : busyK K (t : Int) s (s + m)
          · rw [decide_eq_true (f1.2 hbz)]; rfl
          · rw [decide_eq_false (fun h => by rw [f1.1 h] at hbz; cases hbz)]; rfl)
        clear f1
        generalize busyK K (t : Int) s (s + m) = F at *
        go_wp2_with fail
        refine (HLn.out _).mono ?_
        rintro _ w7 ⟨rfl, b7⟩
        have B7 := Lib.hid b7
        clear b7
        go_wp2_with fail
        refine (HBs.out _ B7.out).mono ?_
        rintro _ w8 ⟨rfl, b8⟩
        have B8 := Lib.hid (below_step B7.out b8)
        have BW8 := Lib.hid (below_step HW.out B8.out)
        clear b8 HBs
        have hF : F = true := by have := HFB.out; rw [HNk.out] at this; cases F; cases this; rfl
        subst hF
        go_wp2_with fail
        go_quiet (fail)
        go_wp2_with fail
        go_roundw
        case rel => exact ⟨k + 1, hlt, by go_num, Lib.hid (below_drewN BW8.out _)⟩
        case measure => simp [intOf]; omega
      · have k1 : ¬ (k : Int) < (J.length : Int) := by omega
        have BW := Lib.hid (below_step B6.out HW.out)
        go_wp2_with fail
        go_ret
        exact ⟨rfl, BW.out⟩
  · obtain ⟨hpm, hpf, hpa⟩ := HPS.out p rfl
    have HPM := Lib.hid hpm; have HPF := Lib.hid hpf; have HPA := Lib.hid hpa
    have HPL := Lib.hid (HLb.out p hpm); have HPD := Lib.hid (HBd.out p hpm)
    have HPE := Lib.hid (HFn.out p hpm)
    clear hpm hpf hpa HPS HPN
    obtain ⟨p0, p1, p2, p3, p4, p5, p6⟩ := p
    simp only [Option.getD_some, Option.isSome_some]
    have bw := below_new w5 (.cells #[.int .i64 p0, .int .i64 p1, .bool p2, .int .i64 p3, .int .i64 p4, .int .i64 p5, .int .i64 p6] 43)
    have JP := Lib.hid (show JbC (w5.alloc (.cells #[.int .i64 p0, .int .i64 p1, .bool p2, .int .i64 p3, .int .i64 p4, .int .i64 p5, .int .i64 p6] 43)) w5.heap.size 0 ⟨p0, p1, p2, p3, p4, p5, p6⟩ by unfold JbC; go_simp)
    have R6 := Lib.hid (R5.out.below bw); have B6 := Lib.hid (below_step B5.out bw); have J6 := Lib.hid (J5.out.below bw); have K6 := Lib.hid (K5.out.below bw)
    clear bw R5 J5 K5
    go_wp2_with fail
    generalize w5.alloc (.cells #[.int .i64 p0, .int .i64 p1, .bool p2, .int .i64 p3, .int .i64 p4, .int .i64 p5, .int .i64 p6] 43) = w6 at *
    go_loopw [20] (fun i wr => ∃ k : Nat, k ≤ J.length ∧ i = .int .i64 (k : Int) ∧ Hid (Below w6.heap.size w6 wr)) (fun i _ => J.length - (intOf i).toNat)
    case atStart => exact ⟨0, Nat.zero_le _, rfl, Lib.hid (Below.refl _ _)⟩
    case round =>
      obtain ⟨k, hk, rfl, HW⟩ := hrel
      by_cases hlt : k < J.length
      · obtain ⟨b, off, rfl, hb, hc⟩ := (J6.out.below HW.out).at (by omega)
        obtain ⟨x0, x1, x2, x3, x4, x5, x6⟩ := hc k hlt
        have HM := Lib.hid (List.getElem_mem hlt)
        have hL := HLb.out _ HM.out
        have hD := HBd.out _ HM.out
        have HE := Lib.hid (HFn.out _ HM.out)
        have HLn := Lib.hid (fun w => Length_any r J[k] w (by omega))
        have k0 : (0 : Int) ≤ (k : Int) := by omega
        have k1 : (k : Int) < (J.length : Int) := by omega
        clear hc hD
        have HIx := Lib.hid (fun (e : J[k].lot = p0) => show J[k] = ⟨p0, p1, p2, p3, p4, p5, p6⟩ from by
          obtain ⟨i, hi, hp⟩ := List.getElem_of_mem HPM.out
          have := HIj.out k i hlt hi (by rw [hp]; exact e)
          subst this; exact hp)
        have HAx := Lib.hid (fun (e : Dsp.ahead rs r J[k] ⟨p0, p1, p2, p3, p4, p5, p6⟩ = true) => HPA.out _ HM.out e)
        generalize J[k] = j at *
        obtain ⟨j0, j1, j2, j3, j4, j5, j6⟩ := j
        simp only at x0 x1 x2 x3 x4 x5 x6
        generalize lenP r ⟨j0, j1, j2, j3, j4, j5, j6⟩ = m at *
        obtain ⟨f1, -⟩ := first_now HOk.out (t := t) (by omega) (f := s) (n := m) hL.1 (by omega) (by omega)
        have d1 : IntKind.i64.wrap (s + m) = s + m := IntWalk.i64_in _ (by omega)
        have HBs := Lib.hid (fun (w : World) (h : Below wr.heap.size wr w) => busy_is (t : Int) s (s + m) ((K6.out.below HW.out).below h))
        have HFB := Lib.hid (show fitsP K (t : Int) s r ⟨j0, j1, j2, j3, j4, j5, j6⟩ = !busyK K (t : Int) s (s + m) from by
          rw [HE.out]; cases hbz : busyK K (t : Int) s (s + m)
          · rw [decide_eq_true (f1.2 hbz)]; rfl
          · rw [decide_eq_false (fun h => by rw [f1.1 h] at hbz; cases hbz)]; rfl)
        clear f1
        generalize busyK K (t : Int) s (s + m) = F at *
        go_wp2_with fail
        refine (HLn.out _).mono ?_
        rintro _ w7 ⟨rfl, b7⟩
        have B7 := Lib.hid b7
        clear b7
        go_wp2_with fail
        refine (HBs.out _ B7.out).mono ?_
        rintro _ w8 ⟨rfl, b8⟩
        have B8 := Lib.hid (below_step B7.out b8)
        have BW8 := Lib.hid (below_step HW.out B8.out)
        clear b8 HBs
        obtain ⟨z0, z1, z2, z3, z4, z5, z6⟩ := JP.out.below BW8.out
        simp only [Nat.zero_add] at z0 z1 z2 z3 z4 z5 z6
        replace x0 := cell_below B8.out x0; replace x1 := cell_below B8.out x1; replace x2 := cell_below B8.out x2; replace x3 := cell_below B8.out x3; replace x4 := cell_below B8.out x4; replace x5 := cell_below B8.out x5; replace x6 := cell_below B8.out x6
        cases F with
        | true =>
          have hne : ¬ j0 = p0 := fun e => by
            have h1 := HIx.out e
            rw [h1, HPF.out] at HFB
            exact absurd HFB.out (by decide)
          have hneb : (j0 == p0) = false := by simp [hne]
          go_wp2_with fail
          go_quiet (fail)
          go_wp2_with fail
          go_roundw
          case rel => exact ⟨k + 1, hlt, by go_num, Lib.hid (below_drewN BW8.out _)⟩
          case measure => simp [intOf]; omega
        | false =>
          have HAf := Lib.hid (show Dsp.ahead rs r ⟨j0, j1, j2, j3, j4, j5, j6⟩ ⟨p0, p1, p2, p3, p4, p5, p6⟩ = false from by
            cases h : Dsp.ahead rs r ⟨j0, j1, j2, j3, j4, j5, j6⟩ ⟨p0, p1, p2, p3, p4, p5, p6⟩
            · rfl
            · have := HAx.out h; rw [HFB.out] at this; cases this)
          have HAc := Lib.hid (show ∀ w, Below w8.heap.size w8 w → Calls Try.prog 41 #[.slice a4 rs.length c4, .int .i64 r, jbV ⟨j0, j1, j2, j3, j4, j5, j6⟩, jbV ⟨p0, p1, p2, p3, p4, p5, p6⟩] w fun e w' => e = .returned (.bool false) ∧ Below w.heap.size w w' from fun w h => by
            have := ahead_any rs a4 c4 r ⟨j0, j1, j2, j3, j4, j5, j6⟩ ⟨p0, p1, p2, p3, p4, p5, p6⟩ w (R6.out.below (below_step BW8.out h)) hrl
            rw [HAf.out] at this; exact this)
          have S0 := Lib.hid (show w8.cell? ⟨b, off + k * 7, none⟩ = some (.int .i64 j0) ∧ w8.cell? ⟨b, off + k * 7 + 1, none⟩ = some (.int .i64 j1) ∧ w8.cell? ⟨b, off + k * 7 + 2, none⟩ = some (.bool j2) ∧ w8.cell? ⟨b, off + k * 7 + 3, none⟩ = some (.int .i64 j3) ∧ w8.cell? ⟨b, off + k * 7 + 4, none⟩ = some (.int .i64 j4) ∧ w8.cell? ⟨b, off + k * 7 + 5, none⟩ = some (.int .i64 j5) ∧ w8.cell? ⟨b, off + k * 7 + 6, none⟩ = some (.int .i64 j6) ∧ w8.cell? ⟨w5.heap.size, 0, none⟩ = some (.int .i64 p0) ∧ w8.cell? ⟨w5.heap.size, 1, none⟩ = some (.int .i64 p1) ∧ w8.cell? ⟨w5.heap.size, 2, none⟩ = some (.bool p2) ∧ w8.cell? ⟨w5.heap.size, 3, none⟩ = some (.int .i64 p3) ∧ w8.cell? ⟨w5.heap.size, 4, none⟩ = some (.int .i64 p4) ∧ w8.cell? ⟨w5.heap.size, 5, none⟩ = some (.int .i64 p5) ∧ w8.cell? ⟨w5.heap.size, 6, none⟩ = some (.int .i64 p6) from ⟨x0, x1, x2, x3, x4, x5, x6, z0, z1, z2, z3, z4, z5, z6⟩)
          have KP := Lib.hid (show ∀ v v' : World, (v.cell? ⟨b, off + k * 7, none⟩ = some (.int .i64 j0) ∧ v.cell? ⟨b, off + k * 7 + 1, none⟩ = some (.int .i64 j1) ∧ v.cell? ⟨b, off + k * 7 + 2, none⟩ = some (.bool j2) ∧ v.cell? ⟨b, off + k * 7 + 3, none⟩ = some (.int .i64 j3) ∧ v.cell? ⟨b, off + k * 7 + 4, none⟩ = some (.int .i64 j4) ∧ v.cell? ⟨b, off + k * 7 + 5, none⟩ = some (.int .i64 j5) ∧ v.cell? ⟨b, off + k * 7 + 6, none⟩ = some (.int .i64 j6) ∧ v.cell? ⟨w5.heap.size, 0, none⟩ = some (.int .i64 p0) ∧ v.cell? ⟨w5.heap.size, 1, none⟩ = some (.int .i64 p1) ∧ v.cell? ⟨w5.heap.size, 2, none⟩ = some (.bool p2) ∧ v.cell? ⟨w5.heap.size, 3, none⟩ = some (.int .i64 p3) ∧ v.cell? ⟨w5.heap.size, 4, none⟩ = some (.int .i64 p4) ∧ v.cell? ⟨w5.heap.size, 5, none⟩ = some (.int .i64 p5) ∧ v.cell? ⟨w5.heap.size, 6, none⟩ = some (.int .i64 p6)) → Below v.heap.size v v' → (v'.cell? ⟨b, off + k * 7, none⟩ = some (.int .i64 j0) ∧ v'.cell? ⟨b, off + k * 7 + 1, none⟩ = some (.int .i64 j1) ∧ v'.cell? ⟨b, off + k * 7 + 2, none⟩ = some (.bool j2) ∧ v'.cell? ⟨b, off + k * 7 + 3, none⟩ = some (.int .i64 j3) ∧ v'.cell? ⟨b, off + k * 7 + 4, none⟩ = some (.int .i64 j4) ∧ v'.cell? ⟨b, off + k * 7 + 5, none⟩ = some (.int .i64 j5) ∧ v'.cell? ⟨b, off + k * 7 + 6, none⟩ = some (.int .i64 j6) ∧ v'.cell? ⟨w5.heap.size, 0, none⟩ = some (.int .i64 p0) ∧ v'.cell? ⟨w5.heap.size, 1, none⟩ = some (.int .i64 p1) ∧ v'.cell? ⟨w5.heap.size, 2, none⟩ = some (.bool p2) ∧ v'.cell? ⟨w5.heap.size, 3, none⟩ = some (.int .i64 p3) ∧ v'.cell? ⟨w5.heap.size, 4, none⟩ = some (.int .i64 p4) ∧ v'.cell? ⟨w5.heap.size, 5, none⟩ = some (.int .i64 p5) ∧ v'.cell? ⟨w5.heap.size, 6, none⟩ = some (.int .i64 p6)) from fun v v' h hb => ⟨cell_below hb h.1, cell_below hb h.2.1, cell_below hb h.2.2.1, cell_below hb h.2.2.2.1, cell_below hb h.2.2.2.2.1, cell_below hb h.2.2.2.2.2.1, cell_below hb h.2.2.2.2.2.2.1, cell_below hb h.2.2.2.2.2.2.2.1, cell_below hb h.2.2.2.2.2.2.2.2.1, cell_below hb h.2.2.2.2.2.2.2.2.2.1, cell_below hb h.2.2.2.2.2.2.2.2.2.2.1, cell_below hb h.2.2.2.2.2.2.2.2.2.2.2.1, cell_below hb h.2.2.2.2.2.2.2.2.2.2.2.2.1, cell_below hb h.2.2.2.2.2.2.2.2.2.2.2.2.2⟩)
          have BD := Lib.hid (show Below w8.heap.size w8 w8.drew from ⟨rfl, rfl, rfl, Nat.le_refl _, fun _ _ => rfl⟩)
          by_cases he : j0 = p0
          · clear x0 x1 x2 x3 x4 x5 x6 z0 z1 z2 z3 z4 z5 z6
            subst he
            have heb : (j0 == j0) = true := by simp
            go_wp2_with fail
            go_region_held3 (fun v => v.cell? ⟨b, off + k * 7, none⟩ = some (.int .i64 j0) ∧ v.cell? ⟨b, off + k * 7 + 1, none⟩ = some (.int .i64 j1) ∧ v.cell? ⟨b, off + k * 7 + 2, none⟩ = some (.bool j2) ∧ v.cell? ⟨b, off + k * 7 + 3, none⟩ = some (.int .i64 j3) ∧ v.cell? ⟨b, off + k * 7 + 4, none⟩ = some (.int .i64 j4) ∧ v.cell? ⟨b, off + k * 7 + 5, none⟩ = some (.int .i64 j5) ∧ v.cell? ⟨b, off + k * 7 + 6, none⟩ = some (.int .i64 j6) ∧ v.cell? ⟨w5.heap.size, 0, none⟩ = some (.int .i64 j0) ∧ v.cell? ⟨w5.heap.size, 1, none⟩ = some (.int .i64 p1) ∧ v.cell? ⟨w5.heap.size, 2, none⟩ = some (.bool p2) ∧ v.cell? ⟨w5.heap.size, 3, none⟩ = some (.int .i64 p3) ∧ v.cell? ⟨w5.heap.size, 4, none⟩ = some (.int .i64 p4) ∧ v.cell? ⟨w5.heap.size, 5, none⟩ = some (.int .i64 p5) ∧ v.cell? ⟨w5.heap.size, 6, none⟩ = some (.int .i64 p6)) (first | exact S0.out | exact KP.out _ _ (by assumption) b9) (first | (go_at_call 41; (with_reducible refine (HAc.out _ BD.out).mono ?_); rintro e w9 ⟨rfl, b9⟩))
            have BX := Lib.hid (below_step BW8.out (undrew b9))
            clear b9
            go_wp2_with fail
            go_roundw
            case rel => exact ⟨k + 1, hlt, by go_num, BX⟩
            case measure => simp [intOf]; omega
          · have heb : (j0 == p0) = false := by simp [he]
            go_wp2_with fail
            refine wp_region_held_drew (S := (fun v => Below w8.heap.size w8 v)) (by kernel_rfl) (BD.out) (fun hHeld => ?_)
            refine wpAnyH_take (i := 0) (oi := { dst := some 67, op := Op.move (Operand.tmp 21), type := 4, pos := "law.go:229", after := #[], guard := none }) (v := ?vq0) rfl (by kernel_rfl) (by kernel_rfl) (by kernel_rfl) (fun _ _ _ h => h) (Or.inl ⟨by rfl, ?yq0⟩) (by assumption) ?tq0
            case yq0 => (intro w hSw; try dsimp only at hSw); go_simp; try with_reducible rfl
            simp only [Act.put, List.setIfInBounds_toArray, List.set_cons_zero, List.set_cons_succ]
            refine wpAnyH_take (i := 1) (oi := { dst := some 68, op := Op.move (Operand.tmp 67), type := 4, pos := "law.go:229", after := #[{ on := 0, ground := Ground.data }], guard := none }) (v := ?vq1) rfl (by kernel_rfl) (by kernel_rfl) (by kernel_rfl) (fun _ _ _ h => h) (Or.inl ⟨by rfl, ?yq1⟩) (by assumption) ?tq1
            case yq1 => (intro w hSw; try dsimp only at hSw); go_simp; try with_reducible rfl
            simp only [Act.put, List.setIfInBounds_toArray, List.set_cons_zero, List.set_cons_succ]
            refine wpAnyH_take (i := 2) (oi := { dst := some 69, op := Op.move (Operand.tmp 19), type := 4, pos := "law.go:229", after := #[{ on := 1, ground := Ground.guard }], guard := some (1, true) }) (v := ?vq2) rfl (by kernel_rfl) (by kernel_rfl) (by kernel_rfl) (fun _ _ _ h => h) (Or.inl ⟨by rfl, ?yq2⟩) (by assumption) ?tq2
            case yq2 => (intro w hSw; try dsimp only at hSw); go_simp; try with_reducible rfl
            simp only [Act.put, List.setIfInBounds_toArray, List.set_cons_zero, List.set_cons_succ]
            refine wpAnyH_take (i := 3) (oi := { dst := some 70, op := Op.unOp UnOp.not 4 (Operand.tmp 69), type := 4, pos := "law.go:229", after := #[{ on := 2, ground := Ground.data }, { on := 1, ground := Ground.guard }], guard := some (1, true) }) (v := ?vq3) rfl (by kernel_rfl) (by kernel_rfl) (by kernel_rfl) (fun _ _ _ h => h) (Or.inl ⟨by rfl, ?yq3⟩) (by assumption) ?tq3
            case yq3 => (intro w hSw; try dsimp only at hSw); go_simp; try with_reducible rfl
            simp only [Act.put, List.setIfInBounds_toArray, List.set_cons_zero, List.set_cons_succ]
            refine wpAnyH_take (i := 4) (oi := { dst := some 71, op := Op.move (Operand.tmp 70), type := 4, pos := "law.go:229", after := #[{ on := 3, ground := Ground.data }, { on := 1, ground := Ground.chain }, { on := 1, ground := Ground.guard }], guard := some (1, true) }) (v := ?vq4) rfl (by kernel_rfl) (by kernel_rfl) (by kernel_rfl) (fun _ _ _ h => h) (Or.inl ⟨by rfl, ?yq4⟩) (by assumption) ?tq4
            case yq4 => (intro w hSw; try dsimp only at hSw); go_simp; try with_reducible rfl
            simp only [Act.put, List.setIfInBounds_toArray, List.set_cons_zero, List.set_cons_succ]
            refine wpAnyH_take (i := 5) (oi := { dst := some 72, op := Op.move (Operand.tmp 17), type := 23, pos := "law.go:229", after := #[{ on := 4, ground := Ground.guard }], guard := some (4, false) }) (v := ?vq5) rfl (by kernel_rfl) (by kernel_rfl) (by kernel_rfl) (fun _ _ _ h => h) (Or.inl ⟨by rfl, ?yq5⟩) (by assumption) ?tq5
            case yq5 => (intro w hSw; try dsimp only at hSw); go_simp; try with_reducible rfl
            simp only [Act.put, List.setIfInBounds_toArray, List.set_cons_zero, List.set_cons_succ]
            refine wpAnyH_take (i := 6) (oi := { dst := some 73, op := Op.move (Operand.tmp 5), type := 3, pos := "law.go:229", after := #[{ on := 4, ground := Ground.guard }], guard := some (4, false) }) (v := ?vq6) rfl (by kernel_rfl) (by kernel_rfl) (by kernel_rfl) (fun _ _ _ h => h) (Or.inl ⟨by rfl, ?yq6⟩) (by assumption) ?tq6
            case yq6 => (intro w hSw; try dsimp only at hSw); go_simp; try with_reducible rfl
            simp only [Act.put, List.setIfInBounds_toArray, List.set_cons_zero, List.set_cons_succ]
            refine wpAnyH_take (i := 7) (oi := { dst := some 74, op := Op.move (Operand.tmp 16), type := 22, pos := "law.go:229", after := #[{ on := 4, ground := Ground.guard }], guard := some (4, false) }) (v := ?vq7) rfl (by kernel_rfl) (by kernel_rfl) (by kernel_rfl) (fun _ _ _ h => h) (Or.inl ⟨by rfl, ?yq7⟩) (by assumption) ?tq7
            case yq7 => (intro w hSw; try dsimp only at hSw); go_simp; try with_reducible rfl
            simp only [Act.put, List.setIfInBounds_toArray, List.set_cons_zero, List.set_cons_succ]
            refine wpAnyH_take (i := 8) (oi := { dst := some 75, op := Op.move (Operand.tmp 20), type := 3, pos := "law.go:229", after := #[{ on := 4, ground := Ground.guard }], guard := some (4, false) }) (v := ?vq8) rfl (by kernel_rfl) (by kernel_rfl) (by kernel_rfl) (fun _ _ _ h => h) (Or.inl ⟨by rfl, ?yq8⟩) (by assumption) ?tq8
            case yq8 => (intro w hSw; try dsimp only at hSw); go_simp; try with_reducible rfl
            simp only [Act.put, List.setIfInBounds_toArray, List.set_cons_zero, List.set_cons_succ]
            refine wpAnyH_take (i := 9) (oi := { dst := some 76, op := Op.indexAddr 22 (Operand.tmp 74) (Operand.tmp 75), type := 0, pos := "law.go:229", after := #[{ on := 7, ground := Ground.data }, { on := 8, ground := Ground.data }, { on := 4, ground := Ground.guard }], guard := some (4, false) }) (v := ?vq9) rfl (by kernel_rfl) (by kernel_rfl) (by kernel_rfl) (fun _ _ _ h => h) (Or.inl ⟨by rfl, ?yq9⟩) (by assumption) ?tq9
            case yq9 => (intro w hSw; try dsimp only at hSw); go_simp; try with_reducible rfl
            simp only [Act.put, List.setIfInBounds_toArray, List.set_cons_zero, List.set_cons_succ]
            refine wpAnyH_take (i := 10) (oi := { dst := some 77, op := Op.load 43 (Operand.tmp 76), type := 43, pos := "law.go:229", after := #[{ on := 9, ground := Ground.data }, { on := 4, ground := Ground.guard }], guard := some (4, false) }) (v := ?vq10) rfl (by kernel_rfl) (by kernel_rfl) (by kernel_rfl) (fun _ _ _ h => h) (Or.inl ⟨by rfl, ?yq10⟩) (by assumption) ?tq10
            case yq10 => (intro w hSw; have h0 := cell_below hSw x0; have h1 := cell_below hSw x1; have h2 := cell_below hSw x2; have h3 := cell_below hSw x3; have h4 := cell_below hSw x4; have h5 := cell_below hSw x5; have h6 := cell_below hSw x6); go_simp; try with_reducible rfl
            simp only [Act.put, List.setIfInBounds_toArray, List.set_cons_zero, List.set_cons_succ]
            refine wpAnyH_take (i := 11) (oi := { dst := some 78, op := Op.load 43 (Operand.tmp 18), type := 43, pos := "law.go:229", after := #[{ on := 4, ground := Ground.guard }], guard := some (4, false) }) (v := ?vq11) rfl (by kernel_rfl) (by kernel_rfl) (by kernel_rfl) (fun _ _ _ h => h) (Or.inl ⟨by rfl, ?yq11⟩) (by assumption) ?tq11
            case yq11 => (intro w hSw; have h0 := cell_below hSw z0; have h1 := cell_below hSw z1; have h2 := cell_below hSw z2; have h3 := cell_below hSw z3; have h4 := cell_below hSw z4; have h5 := cell_below hSw z5; have h6 := cell_below hSw z6); go_simp; try with_reducible rfl
            simp only [Act.put, List.setIfInBounds_toArray, List.set_cons_zero, List.set_cons_succ]
            refine wpAnyH_ready (rs := [12]) (by kernel_rfl) (by simp) ?_
            refine AllReadyH.cons (o := { dst := some 79, op := Op.call { callee := Callee.value (Operand.func 41), args := #[Operand.tmp 72, Operand.tmp 73, Operand.tmp 77, Operand.tmp 78], argTypes := #[23, 3, 43, 43] }, type := 4, pos := "law.go:229", after := #[{ on := 5, ground := Ground.data }, { on := 6, ground := Ground.data }, { on := 10, ground := Ground.data }, { on := 11, ground := Ground.data }, { on := 4, ground := Ground.chain }, { on := 4, ground := Ground.guard }], guard := some (4, false) }) rfl (fun K hK => ?_) AllReadyH.nil
            go_simp
            refine (HAc.out _ hHeld).mono ?_; rintro e wz ⟨rfl, gz⟩
            have hSz := below_step hHeld gz
            clear gz
            refine hK.out _ _ (hSz) (fun hHeld' => ?_)
            clear hK K hHeld
            have hHeld := hHeld'; clear hHeld'
            try simp only [Act.put, List.setIfInBounds_toArray, List.set_cons_zero, List.set_cons_succ]
            refine wpAnyH_take (i := 13) (oi := { dst := some 80, op := Op.pick (Operand.tmp 71) (Operand.const (Value.bool true)) (Operand.tmp 79), type := 4, pos := "law.go:229", after := #[{ on := 4, ground := Ground.data }, { on := 12, ground := Ground.data }, { on := 1, ground := Ground.guard }], guard := some (1, true) }) (v := ?vq13) rfl (by kernel_rfl) (by kernel_rfl) (by kernel_rfl) (fun _ _ _ h => h) (Or.inl ⟨by rfl, ?yq13⟩) (by assumption) ?tq13
            case yq13 => (intro w hSw; try dsimp only at hSw); go_simp; try with_reducible rfl
            simp only [Act.put, List.setIfInBounds_toArray, List.set_cons_zero, List.set_cons_succ]
            refine wpAnyH_take (i := 14) (oi := { dst := some 81, op := Op.pick (Operand.tmp 68) (Operand.tmp 80) (Operand.const (Value.bool false)), type := 4, pos := "law.go:229", after := #[{ on := 1, ground := Ground.data }, { on := 13, ground := Ground.data }], guard := none }) (v := ?vq14) rfl (by kernel_rfl) (by kernel_rfl) (by kernel_rfl) (fun _ _ _ h => h) (Or.inl ⟨by rfl, ?yq14⟩) (by assumption) ?tq14
            case yq14 => (intro w hSw; try dsimp only at hSw); go_simp; try with_reducible rfl
            simp only [Act.put, List.setIfInBounds_toArray, List.set_cons_zero, List.set_cons_succ]
            refine wpAnyH_take (i := 15) (oi := { dst := some 82, op := Op.move (Operand.tmp 81), type := 4, pos := "law.go:229", after := #[{ on := 14, ground := Ground.data }, { on := 12, ground := Ground.chain }], guard := none }) (v := ?vq15) rfl (by kernel_rfl) (by kernel_rfl) (by kernel_rfl) (fun _ _ _ h => h) (Or.inl ⟨by rfl, ?yq15⟩) (by assumption) ?tq15
            case yq15 => (intro w hSw; try dsimp only at hSw); go_simp; try with_reducible rfl
            simp only [Act.put, List.setIfInBounds_toArray, List.set_cons_zero, List.set_cons_succ]
            refine wpAnyH_take (i := 16) (oi := { dst := some 83, op := Op.move (Operand.tmp 19), type := 4, pos := "law.go:229", after := #[{ on := 15, ground := Ground.guard }], guard := some (15, false) }) (v := ?vq16) rfl (by kernel_rfl) (by kernel_rfl) (by kernel_rfl) (fun _ _ _ h => h) (Or.inl ⟨by rfl, ?yq16⟩) (by assumption) ?tq16
            case yq16 => (intro w hSw; try dsimp only at hSw); go_simp; try with_reducible rfl
            simp only [Act.put, List.setIfInBounds_toArray, List.set_cons_zero, List.set_cons_succ]
            refine wpAnyH_take (i := 17) (oi := { dst := some 84, op := Op.move (Operand.tmp 83), type := 4, pos := "law.go:229", after := #[{ on := 16, ground := Ground.data }, { on := 15, ground := Ground.chain }, { on := 15, ground := Ground.guard }], guard := some (15, false) }) (v := ?vq17) rfl (by kernel_rfl) (by kernel_rfl) (by kernel_rfl) (fun _ _ _ h => h) (Or.inl ⟨by rfl, ?yq17⟩) (by assumption) ?tq17
            case yq17 => (intro w hSw; try dsimp only at hSw); go_simp; try with_reducible rfl
            simp only [Act.put, List.setIfInBounds_toArray, List.set_cons_zero, List.set_cons_succ]
            refine wpAnyH_take (i := 18) (oi := { dst := some 85, op := Op.move (Operand.tmp 16), type := 22, pos := "law.go:229", after := #[{ on := 17, ground := Ground.guard }], guard := some (17, true) }) (v := ?vq18) rfl (by kernel_rfl) (by kernel_rfl) (by kernel_rfl) (fun _ _ _ h => h) (Or.inl ⟨by rfl, ?yq18⟩) (by assumption) ?tq18
            case yq18 => (intro w hSw; try dsimp only at hSw); go_simp; try with_reducible rfl
            simp only [Act.put, List.setIfInBounds_toArray, List.set_cons_zero, List.set_cons_succ]
            refine wpAnyH_take (i := 19) (oi := { dst := some 86, op := Op.move (Operand.tmp 20), type := 3, pos := "law.go:229", after := #[{ on := 17, ground := Ground.guard }], guard := some (17, true) }) (v := ?vq19) rfl (by kernel_rfl) (by kernel_rfl) (by kernel_rfl) (fun _ _ _ h => h) (Or.inl ⟨by rfl, ?yq19⟩) (by assumption) ?tq19
            case yq19 => (intro w hSw; try dsimp only at hSw); go_simp; try with_reducible rfl
            simp only [Act.put, List.setIfInBounds_toArray, List.set_cons_zero, List.set_cons_succ]
            refine wpAnyH_take (i := 20) (oi := { dst := some 87, op := Op.indexAddr 22 (Operand.tmp 85) (Operand.tmp 86), type := 0, pos := "law.go:229", after := #[{ on := 18, ground := Ground.data }, { on := 19, ground := Ground.data }, { on := 17, ground := Ground.guard }], guard := some (17, true) }) (v := ?vq20) rfl (by kernel_rfl) (by kernel_rfl) (by kernel_rfl) (fun _ _ _ h => h) (Or.inl ⟨by rfl, ?yq20⟩) (by assumption) ?tq20
            case yq20 => (intro w hSw; try dsimp only at hSw); go_simp; try with_reducible rfl
            simp only [Act.put, List.setIfInBounds_toArray, List.set_cons_zero, List.set_cons_succ]
            refine wpAnyH_take (i := 21) (oi := { dst := some 88, op := Op.fieldAddr 43 (Operand.tmp 87) 0, type := 0, pos := "law.go:229", after := #[{ on := 20, ground := Ground.data }, { on := 17, ground := Ground.guard }], guard := some (17, true) }) (v := ?vq21) rfl (by kernel_rfl) (by kernel_rfl) (by kernel_rfl) (fun _ _ _ h => h) (Or.inl ⟨by rfl, ?yq21⟩) (by assumption) ?tq21
            case yq21 => (intro w hSw; try dsimp only at hSw); go_simp; try with_reducible rfl
            simp only [Act.put, List.setIfInBounds_toArray, List.set_cons_zero, List.set_cons_succ]
            refine wpAnyH_take (i := 22) (oi := { dst := some 89, op := Op.load 3 (Operand.tmp 88), type := 3, pos := "law.go:229", after := #[{ on := 21, ground := Ground.data }, { on := 17, ground := Ground.guard }], guard := some (17, true) }) (v := ?vq22) rfl (by kernel_rfl) (by kernel_rfl) (by kernel_rfl) (fun _ _ _ h => h) (Or.inl ⟨by rfl, ?yq22⟩) (by assumption) ?tq22
            case yq22 => (intro w hSw; have h0 := cell_below hSw x0); go_simp; try with_reducible rfl
            simp only [Act.put, List.setIfInBounds_toArray, List.set_cons_zero, List.set_cons_succ]
            refine wpAnyH_take (i := 23) (oi := { dst := some 90, op := Op.fieldAddr 43 (Operand.tmp 18) 0, type := 0, pos := "law.go:229", after := #[{ on := 17, ground := Ground.guard }], guard := some (17, true) }) (v := ?vq23) rfl (by kernel_rfl) (by kernel_rfl) (by kernel_rfl) (fun _ _ _ h => h) (Or.inl ⟨by rfl, ?yq23⟩) (by assumption) ?tq23
            case yq23 => (intro w hSw; try dsimp only at hSw); go_simp; try with_reducible rfl
            simp only [Act.put, List.setIfInBounds_toArray, List.set_cons_zero, List.set_cons_succ]
            refine wpAnyH_take (i := 24) (oi := { dst := some 91, op := Op.load 3 (Operand.tmp 90), type := 3, pos := "law.go:229", after := #[{ on := 23, ground := Ground.data }, { on := 17, ground := Ground.guard }], guard := some (17, true) }) (v := ?vq24) rfl (by kernel_rfl) (by kernel_rfl) (by kernel_rfl) (fun _ _ _ h => h) (Or.inl ⟨by rfl, ?yq24⟩) (by assumption) ?tq24
            case yq24 => (intro w hSw; have h0 := cell_below hSw z0); go_simp; try with_reducible rfl
            simp only [Act.put, List.setIfInBounds_toArray, List.set_cons_zero, List.set_cons_succ]
            refine wpAnyH_take (i := 25) (oi := { dst := some 92, op := Op.binOp BinOp.eql 3 (Operand.tmp 89) (Operand.tmp 91) 3, type := 4, pos := "law.go:229", after := #[{ on := 22, ground := Ground.data }, { on := 24, ground := Ground.data }, { on := 17, ground := Ground.guard }], guard := some (17, true) }) (v := ?vq25) rfl (by kernel_rfl) (by kernel_rfl) (by kernel_rfl) (fun _ _ _ h => h) (Or.inl ⟨by rfl, ?yq25⟩) (by assumption) ?tq25
            case yq25 => (intro w hSw; try dsimp only at hSw); go_simp; try with_reducible rfl
            simp only [Act.put, List.setIfInBounds_toArray, List.set_cons_zero, List.set_cons_succ]
            refine wpAnyH_take (i := 26) (oi := { dst := some 93, op := Op.pick (Operand.tmp 84) (Operand.tmp 92) (Operand.const (Value.bool false)), type := 4, pos := "law.go:229", after := #[{ on := 17, ground := Ground.data }, { on := 25, ground := Ground.data }, { on := 15, ground := Ground.guard }], guard := some (15, false) }) (v := ?vq26) rfl (by kernel_rfl) (by kernel_rfl) (by kernel_rfl) (fun _ _ _ h => h) (Or.inl ⟨by rfl, ?yq26⟩) (by assumption) ?tq26
            case yq26 => (intro w hSw; try dsimp only at hSw); go_simp; try with_reducible rfl
            simp only [Act.put, List.setIfInBounds_toArray, List.set_cons_zero, List.set_cons_succ]
            refine wpAnyH_take (i := 27) (oi := { dst := some 94, op := Op.move (Operand.tmp 93), type := 4, pos := "law.go:229", after := #[{ on := 26, ground := Ground.data }, { on := 17, ground := Ground.chain }, { on := 15, ground := Ground.guard }], guard := some (15, false) }) (v := ?vq27) rfl (by kernel_rfl) (by kernel_rfl) (by kernel_rfl) (fun _ _ _ h => h) (Or.inl ⟨by rfl, ?yq27⟩) (by assumption) ?tq27
            case yq27 => (intro w hSw; try dsimp only at hSw); go_simp; try with_reducible rfl
            simp only [Act.put, List.setIfInBounds_toArray, List.set_cons_zero, List.set_cons_succ]
            refine wpAnyH_take (i := 28) (oi := { dst := some 95, op := Op.move (Operand.tmp 21), type := 4, pos := "law.go:229", after := #[{ on := 27, ground := Ground.guard }], guard := some (27, true) }) (v := undef) rfl (by kernel_rfl) (by kernel_rfl) (by kernel_rfl) (fun _ _ _ h => h) (Or.inr ⟨by rfl, rfl⟩) (by assumption) ?_
            simp only [Act.put, List.setIfInBounds_toArray, List.set_cons_zero, List.set_cons_succ]
            refine wpAnyH_take (i := 29) (oi := { dst := some 96, op := Op.unOp UnOp.not 4 (Operand.tmp 95), type := 4, pos := "law.go:229", after := #[{ on := 28, ground := Ground.data }, { on := 27, ground := Ground.guard }], guard := some (27, true) }) (v := undef) rfl (by kernel_rfl) (by kernel_rfl) (by kernel_rfl) (fun _ _ _ h => h) (Or.inr ⟨by rfl, rfl⟩) (by assumption) ?_
            simp only [Act.put, List.setIfInBounds_toArray, List.set_cons_zero, List.set_cons_succ]
            refine wpAnyH_take (i := 30) (oi := { dst := some 97, op := Op.pick (Operand.tmp 94) (Operand.tmp 96) (Operand.const (Value.bool false)), type := 4, pos := "law.go:229", after := #[{ on := 27, ground := Ground.data }, { on := 29, ground := Ground.data }, { on := 15, ground := Ground.guard }], guard := some (15, false) }) (v := ?vq30) rfl (by kernel_rfl) (by kernel_rfl) (by kernel_rfl) (fun _ _ _ h => h) (Or.inl ⟨by rfl, ?yq30⟩) (by assumption) ?tq30
            case yq30 => (intro w hSw; try dsimp only at hSw); go_simp; try with_reducible rfl
            simp only [Act.put, List.setIfInBounds_toArray, List.set_cons_zero, List.set_cons_succ]
            refine wpAnyH_take (i := 31) (oi := { dst := some 98, op := Op.pick (Operand.tmp 82) (Operand.const (Value.bool true)) (Operand.tmp 97), type := 4, pos := "law.go:229", after := #[{ on := 15, ground := Ground.data }, { on := 30, ground := Ground.data }], guard := none }) (v := ?vq31) rfl (by kernel_rfl) (by kernel_rfl) (by kernel_rfl) (fun _ _ _ h => h) (Or.inl ⟨by rfl, ?yq31⟩) (by assumption) ?tq31
            case yq31 => (intro w hSw; try dsimp only at hSw); go_simp; try with_reducible rfl
            simp only [Act.put, List.setIfInBounds_toArray, List.set_cons_zero, List.set_cons_succ]
            refine wpAnyH_done (by kernel_rfl) ?_ _
            have BX := Lib.hid (below_step BW8.out hHeld)
            clear hHeld
            go_wp2_with fail
            go_roundw
            case rel => exact ⟨k + 1, hlt, by go_num, BX⟩
            case measure => simp [intOf]; omega
      · have k1 : ¬ (k : Int) < (J.length : Int) := by omega
        have BW := Lib.hid (below_step B6.out HW.out)
        obtain ⟨z0, z1, z2, z3, z4, z5, z6⟩ := JP.out.below HW.out
        simp only [Nat.zero_add] at z0 z1 z2 z3 z4 z5 z6
        have hL := HPL.out
        have HLn := Lib.hid (fun w => Length_any r ⟨p0, p1, p2, p3, p4, p5, p6⟩ w (by have := HPD.out; simp only at this ⊢; omega))
        generalize lenP r ⟨p0, p1, p2, p3, p4, p5, p6⟩ = m at *
        obtain ⟨-, f2⟩ := first_now HOk.out (t := t) (by omega) (f := s) (n := m) hL.1 (by omega) (by omega)
        have d1 : IntKind.i64.wrap (s + m) = s + m := IntWalk.i64_in _ (by omega)
        have HFr := Lib.hid (f2 (by have := HPF.out; rw [HPE.out] at this; exact of_decide_eq_true this) 1 (by omega) (by omega))
        have HBo := Lib.hid (fun (w : World) (h : Below wr.heap.size wr w) => book_is ⟨(t : Int), s, s + m, 1⟩ ((K6.out.below HW.out).below h))
        rw [HFr.out] at HBo
        simp only [if_true] at HBo
        have BZ := Lib.hid (below_step K6.out.bel HW.out)
        clear f2
        go_wp2_with fail
        refine (HLn.out _).mono ?_
        rintro _ w10 ⟨rfl, b10⟩
        have B10 := Lib.hid b10
        clear b10
        go_wp2_with fail
        refine (HBo.out _ B10.out).mono ?_
        rintro _ w11 ⟨rfl, k11⟩
        have BF := Lib.hid (below_step B1.out k11.bel)
        clear k11
        go_wp2_with fail
        go_ret
        exact ⟨rfl, BF.out⟩
end Go.Proofs.Ytjdhjlhcdpekbaa
