/-
  The walk of DispatchOthers.
-/
import Derived.Test.YtjdhjlhcdpekbaaOth
namespace Go.Proofs.Ytjdhjlhcdpekbaa
open Go.RowKit Go.Shelf Go.Sort Dsp

set_option maxRecDepth 100000 in
set_option maxHeartbeats 16000000 in
theorem othersLaw_any (a0 : Option Addr) (c0 : Nat) (B : List (List Int)) (a1 : Option Addr) (c1 : Nat) (X : List (List Int)) (n tool now rcp which : Int) (W : World) (hB : ArrsA 4 W a0 c0 B) (hX : ArrsA 4 W a1 c1 X)
    (n1 : -9223372036854775808 ≤ n) (n2 : n ≤ 9223372036854775807) (t1 : -9223372036854775808 ≤ tool) (t2 : tool ≤ 9223372036854775807) (s1 : -9223372036854775808 ≤ now) (s2 : now ≤ 9223372036854775807) (r1 : -9223372036854775808 ≤ rcp) (r2 : rcp ≤ 9223372036854775807) (k1 : -9223372036854775808 ≤ which) (k2 : which ≤ 9223372036854775807) :
    Calls Try.prog 8 #[.slice a0 B.length c0, .slice a1 X.length c1, .int .i64 n, .int .i64 tool, .int .i64 now, .int .i64 rcp, .int .i64 which] W fun e w' => e = .returned (.bool true) ∧ Below W.heap.size W w' := by
  have HB := Lib.hid hB; have HX := Lib.hid hX
  have HS := Lib.hid (sane_any W)
  have HR := Lib.hid (fun w => rules_any n w ⟨n1, n2⟩)
  unfold NewInts at HR
  have HP1 := Lib.hid (fun w => pick_any tool 5 w ⟨t1, t2⟩ (by omega))
  have HP2 := Lib.hid (fun w => pick_any now 200 w ⟨s1, s2⟩ (by omega))
  have HP3 := Lib.hid (fun w => pick_any rcp 4 w ⟨r1, r2⟩ (by omega))
  have HP4 := Lib.hid (fun (w : World) (m : Nat) (h : 0 < m ∧ m ≤ 12) => pick_any which m w ⟨k1, k2⟩ (by omega))
  have q2 := pickZ_bd (c := now) (n := 200) (by omega)
  generalize pickZ tool 5 = t at *
  generalize pickZ now 200 = s at *
  generalize pickZ rcp 4 = r at *
  clear hB hX n1 n2 t1 t2 s1 s2 r1 r2 k1 k2
  obtain ⟨i0, hi, hz0, hz1, hz2⟩ := info_parts info_job
  go_enter Try.func8, Try.ntmps8
  go_wp2_with fail
  refine HS.out.mono ?_
  rintro _ w1 ⟨rfl, b1⟩
  have HBk := Lib.hid (booked11_any B a0 c0 w1 (HB.out.below b1))
  have B1 := Lib.hid b1
  clear b1 HS
  go_wp2_with fail
  refine HBk.out.mono ?_
  rintro _ w2 ⟨C, rfl, k2⟩
  have K2 := Lib.hid k2
  generalize bkK B = K at *
  generalize ((Kal.all K).length : Int) = cnt at *
  have B2 := Lib.hid (below_step B1.out k2.bel)
  have HJ := Lib.hid (jobs_any X a1 c1 w2 (HX.out.below B2.out))
  unfold NewJobs at HJ
  clear k2 HBk
  go_wp2_with fail
  refine HJ.out.mono ?_
  rintro _ w3 ⟨v3, rfl, o3, b3⟩
  obtain ⟨a3, c3, rfl, j3, -⟩ := o3.arg
  have J3 := Lib.hid j3; have B3 := Lib.hid (below_step B2.out b3); have K3 := Lib.hid (K2.out.below b3)
  have hlj := jobsL_len X
  have HLo := Lib.hid (lots_ok X)
  have HNd := Lib.hid (jobs_nodup X)
  generalize jobsL X = J at *
  clear o3 b3 j3 HJ K2
  by_cases hJ : J.length = 0
  · have hj0 : ((J.length : Int) == 0) = true := by simp [hJ]
    clear hJ
    go_wp2_with fail
    go_ret
    exact ⟨rfl, B3.out⟩
  have hj0 : ((J.length : Int) == 0) = false := by simp; exact fun e => hJ (by rw [e]; rfl)
  have HP5 := Lib.hid (fun w => HP4.out w J.length ⟨by omega, hlj⟩)
  have qk := pickZ_bd (c := which) (n := (J.length : Int)) (by omega)
  obtain ⟨k, hk⟩ : ∃ k : Nat, pickZ which (J.length : Int) = (k : Int) := ⟨(pickZ which (J.length : Int)).toNat, by omega⟩
  rw [hk] at HP5 qk
  have hkJ : k < J.length := by omega
  clear hk HP4
  go_wp2_with fail
  clear hj0
  refine (HP1.out _).mono ?_
  rintro _ _ ⟨rfl, rfl⟩
  go_wp2_with fail
  refine (HP2.out _).mono ?_
  rintro _ _ ⟨rfl, rfl⟩
  go_wp2_with fail
  refine (HP3.out _).mono ?_
  rintro _ _ ⟨rfl, rfl⟩
  go_wp2_with fail
  refine (HR.out _).mono ?_
  rintro _ w4 ⟨v4, rfl, o4, b4⟩
  obtain ⟨a4, c4, rfl, r4⟩ := o4.arg
  have R4 := Lib.hid r4; have B4 := Lib.hid (below_step B3.out b4); have J4 := Lib.hid (J3.out.below b4); have K4 := Lib.hid (K3.out.below b4)
  have hrl := rules_1000 n
  have HV := Lib.hid (rulesL_valid n)
  generalize rulesL n = rs at *
  have HPk := Lib.hid (Pick_any K4.out t s _ _ _ r _ _ _ (by unfold Fits; omega) R4.out hrl (by omega) J4.out)
  clear o4 b4 r4 HR J3 K3
  go_wp2_with fail
  refine HPk.out.mono ?_
  rintro _ w5 ⟨rfl, b5⟩
  have R5 := Lib.hid (R4.out.below b5); have B5 := Lib.hid (below_step B4.out b5); have J5 := Lib.hid (J4.out.below b5); have K5 := Lib.hid (K4.out.below b5)
  have HRest := Lib.hid (pick_rest (K := K) (t := t) (f := s) (r := r) HV.out HLo.out HNd.out hkJ)
  have HTurn := Lib.hid (pick_congr (K := K) (t := t) (f := s) (r := r) HV.out HLo.out (mem_turned k))
  generalize hJk : J[k].lot = lk at *
  generalize pickP K t s r (orderV rs r J) = o1 at *
  unfold pickV
  obtain ⟨j, hj⟩ : ∃ j, o1.getD zeroJ = j := ⟨_, rfl⟩
  obtain ⟨ok, hok⟩ : ∃ ok, o1.isSome = ok := ⟨_, rfl⟩
  rw [hj, hok]
  have HO1 := Lib.hid (show o1.getD zeroJ = j ∧ o1.isSome = ok from ⟨hj, hok⟩)
  clear hj hok b5 HPk J4 K4 R4
  obtain ⟨j0, j1, j2, j3, j4, j5, j6⟩ := j
  have bw := below_new w5 (.cells #[.int .i64 j0, .int .i64 j1, .bool j2, .int .i64 j3, .int .i64 j4, .int .i64 j5, .int .i64 j6] 43)
  have JP := Lib.hid (show JbC (w5.alloc (.cells #[.int .i64 j0, .int .i64 j1, .bool j2, .int .i64 j3, .int .i64 j4, .int .i64 j5, .int .i64 j6] 43)) w5.heap.size 0 ⟨j0, j1, j2, j3, j4, j5, j6⟩ by unfold JbC; go_simp)
  have R6 := Lib.hid (R5.out.below bw); have B6 := Lib.hid (below_step B5.out bw); have J6 := Lib.hid (J5.out.below bw); have K6 := Lib.hid (K5.out.below bw)
  clear bw R5 J5 K5
  go_wp2_with fail
  generalize w5.alloc (.cells #[.int .i64 j0, .int .i64 j1, .bool j2, .int .i64 j3, .int .i64 j4, .int .i64 j5, .int .i64 j6] 43) = w6 at *
  refine (HP5.out _).mono ?_
  rintro _ _ ⟨rfl, rfl⟩
  go_wp2_with fail
  obtain ⟨b, off, rfl, hb, -⟩ := J6.out.at (by omega)
  have hJc : J.length ≤ c3 := J6.out.1
  have e9 : IntKind.i64.wrap ((k : Int) + 1) = (k : Int) + 1 := IntWalk.i64_in _ (by omega)
  have g0 : (0 : Int) ≤ (k : Int) := by omega
  have g1 : (k : Int) ≤ (c3 : Int) := by omega
  have g2 : (0 : Int) ≤ (k : Int) + 1 := by omega
  have g3 : (k : Int) + 1 ≤ (J.length : Int) := by omega
  have g4 : ((k : Int) + 1).toNat = k + 1 := by omega
  have HO1r := Lib.hid (show (w6.alloc (.cells #[] 43)).drew.ownsRow w6.heap.size 43 7 (.slice (some ⟨w6.heap.size, 0, none⟩) 0 0) 0 [] from World.ownsRow_made w6 #[] 0 (Nat.le_refl _) (by decide) rfl)
  have HL1 := Lib.hid (show (jbRow (J.take k)).length = k * 7 by rw [jbRow_length, List.length_take]; congr 1; omega)
  have HL2 := Lib.hid (show (jbRow (J.drop (k + 1))).length = (J.length - (k + 1)) * 7 by rw [jbRow_length, List.length_drop])
  have HC1 := Lib.hid (show ∀ (x : Nat) (u : Value), (jbRow (J.take k))[x]? = some u → (w6.alloc (.cells #[] 43)).drew.cell? ((⟨b, off, none⟩ : Addr).add x) = some u from fun x u hu => by
    rw [Addr.add_lit]
    exact cell_below (below_new w6 (.cells #[] 43)) (JbA.cellsR J6.out x u (jbRow_take2 J k x u hu)))
  obtain ⟨od, hod, hod2⟩ : ∃ od, (if c3 = k + 1 then (some ⟨b, off, none⟩ : Option Addr) else some ⟨b, off + (k + 1) * 7, none⟩) = some ⟨b, od, none⟩ ∧ (od = off + (k + 1) * 7 ∨ J.length ≤ k + 1) := by
    by_cases h : c3 = k + 1
    · exact ⟨off, by rw [if_pos h], .inr (by omega)⟩
    · exact ⟨off + (k + 1) * 7, by rw [if_neg h], .inl rfl⟩
  have HC2 := Lib.hid (show ∀ (v : World) (x : Nat) (u : Value), Below w6.heap.size w6 v → (jbRow (J.drop (k + 1)))[x]? = some u → v.cell? ((⟨b, od, none⟩ : Addr).add x) = some u from fun v x u hv hu => by
    rw [Addr.add_lit]
    have hod3 : od = off + (k + 1) * 7 := by
      rcases hod2 with h | h
      · exact h
      · rw [List.drop_of_length_le h] at hu; simp [jbRow] at hu
    rw [hod3]
    have := JbA.cellsR J6.out _ u (jbRow_drop' J (k + 1) (by omega) x u hu)
    rw [← Nat.add_assoc] at this
    exact cell_below hv this)
  have HGr := Lib.hid (show ∀ (v : World), (w6.alloc (.cells #[] 43)).drew.grownBy v (Value.slice (some ⟨w6.heap.size, 0, none⟩) 0 0).ownBlock → Below w6.heap.size w6 v from fun v hg =>
    ((below_new w6 (.cells #[] 43)).drew).grown hg (by simp) (fun kk e => by injection e with e; exact Nat.le_of_eq e))
  clear hod2
  go_region_held3 (fun v => True) (trivial)
    (first | (refine step_append_own _ (by rfl) _ _ _ (by rfl) w6.heap.size 43 i0 _ 7 56 Try.underlying22 hi hz0 hz1 hz2 rfl (by decide) _ _ _ (by rfl) HO1r.out ⟨b, off, none⟩ k c3 (jbRow (J.take k)) (by rfl) HL1.out HC1.out (fun u hu => jbRow_one u _ hu) (by unfold maxLen; omega) (by omega) (by simp) ?_; intro v7 w7 own7 g7 e7) | (refine step_append_own _ (by rfl) _ _ _ (by rfl) w6.heap.size 43 i0 _ 7 56 Try.underlying22 hi hz0 hz1 hz2 rfl (by decide) _ _ _ (by rfl) own7 ⟨b, od, none⟩ (J.length - (k + 1)) (c3 - (k + 1)) (jbRow (J.drop (k + 1))) (by rfl) HL2.out (fun x u => HC2.out w7 x u (HGr.out w7 g7)) (fun u hu => jbRow_one u _ hu) (by unfold maxLen; omega) (by omega) (by exact (HGr.out w7 g7).size) ?_; intro v8 w8 own8 g8 e8))
  have B8 := Lib.hid ((HGr.out w7 g7).grown g8 ((HGr.out w7 g7).size) (fun kk e => (own7.lt kk e).1))
  have hrl8 : 0 + k + (J.length - (k + 1)) = (J.take k ++ J.drop (k + 1)).length := by rw [List.length_append, List.length_take, List.length_drop]; omega
  rw [hrl8, List.nil_append, ← jbRow_append] at own8
  have hQl : (J.take k ++ J.drop (k + 1)).length = J.length - 1 := by rw [List.length_append, List.length_take, List.length_drop]; omega
  generalize J.take k ++ J.drop (k + 1) = Q at *
  obtain ⟨a8, c8, rfl, ja8, -⟩ := JbOwn.arg own8
  have J8 := Lib.hid ja8
  have K8 := Lib.hid (K6.out.below B8.out)
  have R8 := Lib.hid (R6.out.below B8.out)
  have hr20 : Q.length < 20 := by omega
  have HPk2 := Lib.hid (Pick_any K8.out t s _ _ _ r _ _ _ (by unfold Fits; omega) R8.out hrl hr20 J8.out)
  clear hQl own7 own8 g7 g8 e7 e8 ja8 HC1 HC2 HL1 HL2 HO1r hod
  go_wp2_with fail
  refine HPk2.out.mono ?_
  rintro _ w9 ⟨rfl, b9⟩
  have R9 := Lib.hid (R8.out.below b9); have J9 := Lib.hid (J6.out.below (below_step B8.out b9)); have K9 := Lib.hid (K8.out.below b9); have BW9 := Lib.hid (below_step B8.out b9)
  generalize pickP K t s r (orderV rs r Q) = o2 at *
  unfold pickV
  obtain ⟨q, hq⟩ : ∃ q, o2.getD zeroJ = q := ⟨_, rfl⟩
  obtain ⟨one, hone⟩ : ∃ one, o2.isSome = one := ⟨_, rfl⟩
  rw [hq, hone]
  have HO2 := Lib.hid (show o2.getD zeroJ = q ∧ o2.isSome = one from ⟨hq, hone⟩)
  clear hq hone b9 HPk2 R8 K8
  obtain ⟨p0, p1, p2, p3, p4, p5, p6⟩ := q
  have bw := below_new w9 (.cells #[.int .i64 p0, .int .i64 p1, .bool p2, .int .i64 p3, .int .i64 p4, .int .i64 p5, .int .i64 p6] 43)
  have QP := Lib.hid (show JbC (w9.alloc (.cells #[.int .i64 p0, .int .i64 p1, .bool p2, .int .i64 p3, .int .i64 p4, .int .i64 p5, .int .i64 p6] 43)) w9.heap.size 0 ⟨p0, p1, p2, p3, p4, p5, p6⟩ by unfold JbC; go_simp)
  have R10 := Lib.hid (R9.out.below bw); have BW10 := Lib.hid (below_step BW9.out bw); have J10 := Lib.hid (J9.out.below bw); have K10 := Lib.hid (K9.out.below bw)
  clear bw R9 J9 K9
  go_wp2_with fail
  generalize w9.alloc (.cells #[.int .i64 p0, .int .i64 p1, .bool p2, .int .i64 p3, .int .i64 p4, .int .i64 p5, .int .i64 p6] 43) = w10 at *
  have hkc : ¬ c3 = k := by omega
  have g5 : (k : Int) ≤ (J.length : Int) := by omega
  have HO2r := Lib.hid (show (w10.alloc (.cells #[] 43)).drew.ownsRow w10.heap.size 43 7 (.slice (some ⟨w10.heap.size, 0, none⟩) 0 0) 0 [] from World.ownsRow_made w10 #[] 0 (Nat.le_refl _) (by decide) rfl)
  have HL1 := Lib.hid (show (jbRow (J.take k)).length = k * 7 by rw [jbRow_length, List.length_take]; congr 1; omega)
  have HL2 := Lib.hid (show (jbRow (J.drop k)).length = (J.length - k) * 7 by rw [jbRow_length, List.length_drop])
  have HC1 := Lib.hid (show ∀ (v : World) (x : Nat) (u : Value), Below w10.heap.size w10 v → (jbRow (J.take k))[x]? = some u → v.cell? ((⟨b, off, none⟩ : Addr).add x) = some u from fun v x u hv hu => by
    rw [Addr.add_lit]
    exact cell_below hv (JbA.cellsR J10.out x u (jbRow_take2 J k x u hu)))
  have HC2 := Lib.hid (show ∀ (x : Nat) (u : Value), (jbRow (J.drop k))[x]? = some u → (w10.alloc (.cells #[] 43)).drew.cell? ((⟨b, off + k * 7, none⟩ : Addr).add x) = some u from fun x u hu => by
    rw [Addr.add_lit]
    have := JbA.cellsR J10.out _ u (jbRow_drop' J k (by omega) x u hu)
    rw [← Nat.add_assoc] at this
    exact cell_below (below_new w10 (.cells #[] 43)) this)
  have HGr2 := Lib.hid (show ∀ (v : World), (w10.alloc (.cells #[] 43)).drew.grownBy v (Value.slice (some ⟨w10.heap.size, 0, none⟩) 0 0).ownBlock → Below w10.heap.size w10 v from fun v hg =>
    ((below_new w10 (.cells #[] 43)).drew).grown hg (by simp) (fun kk e => by injection e with e; exact Nat.le_of_eq e))
  go_region_held3 (fun v => True) (trivial)
    (first | (refine step_append_own _ (by rfl) _ _ _ (by rfl) w10.heap.size 43 i0 _ 7 56 Try.underlying22 hi hz0 hz1 hz2 rfl (by decide) _ _ _ (by rfl) HO2r.out ⟨b, off + k * 7, none⟩ (J.length - k) (c3 - k) (jbRow (J.drop k)) (by rfl) HL2.out HC2.out (fun u hu => jbRow_one u _ hu) (by unfold maxLen; omega) (by omega) (by simp) ?_; intro v11 w11 own11 g11 e11) | (refine step_append_own _ (by rfl) _ _ _ (by rfl) w10.heap.size 43 i0 _ 7 56 Try.underlying22 hi hz0 hz1 hz2 rfl (by decide) _ _ _ (by rfl) own11 ⟨b, off, none⟩ k c3 (jbRow (J.take k)) (by rfl) HL1.out (fun x u => HC1.out w11 x u (HGr2.out w11 g11)) (fun u hu => jbRow_one u _ hu) (by unfold maxLen; omega) (by omega) (by exact (HGr2.out w11 g11).size) ?_; intro v12 w12 own12 g12 e12))
  have B12 := Lib.hid ((HGr2.out w11 g11).grown g12 ((HGr2.out w11 g11).size) (fun kk e => (own11.lt kk e).1))
  have hrl12 : 0 + (J.length - k) + k = (J.drop k ++ J.take k).length := by rw [List.length_append, List.length_take, List.length_drop]; omega
  rw [hrl12, List.nil_append, ← jbRow_append] at own12
  have hQl : (J.drop k ++ J.take k).length = J.length := by rw [List.length_append, List.length_take, List.length_drop]; omega
  generalize J.drop k ++ J.take k = Q2 at *
  obtain ⟨a12, c12, rfl, ja12, -⟩ := JbOwn.arg own12
  have J12 := Lib.hid ja12
  have K12 := Lib.hid (K10.out.below B12.out)
  have R12 := Lib.hid (R10.out.below B12.out)
  have hr20 : Q2.length < 20 := by omega
  have HPk3 := Lib.hid (Pick_any K12.out t s _ _ _ r _ _ _ (by unfold Fits; omega) R12.out hrl hr20 J12.out)
  rw [HTurn.out] at HPk3
  unfold pickV at HPk3
  rw [HO1.out.1, HO1.out.2] at HPk3
  clear hQl own11 own12 g11 g12 e11 e12 ja12 HC1 HC2 HL1 HL2 HO2r HTurn
  go_wp2_with fail
  refine HPk3.out.mono ?_
  rintro _ w13 ⟨rfl, b13⟩
  have bw := below_new w13 (.cells #[.int .i64 j0, .int .i64 j1, .bool j2, .int .i64 j3, .int .i64 j4, .int .i64 j5, .int .i64 j6] 43)
  have TP := Lib.hid (show JbC (w13.alloc (.cells #[.int .i64 j0, .int .i64 j1, .bool j2, .int .i64 j3, .int .i64 j4, .int .i64 j5, .int .i64 j6] 43)) w13.heap.size 0 ⟨j0, j1, j2, j3, j4, j5, j6⟩ by unfold JbC; go_simp)
  have BW14 := Lib.hid (below_step BW10.out (below_step B12.out (below_step b13 bw)))
  have QP14 := Lib.hid (QP.out.below (below_step B12.out (below_step b13 bw)))
  have JP14 := Lib.hid (JP.out.below BW14.out)
  have J14 := Lib.hid (J6.out.below BW14.out)
  have BF := Lib.hid (below_step B6.out BW14.out)
  clear bw b13
  obtain ⟨x0, x1, x2, x3, x4, x5, x6⟩ := JP14.out
  simp only [Nat.zero_add] at x0 x1 x2 x3 x4 x5 x6
  have hkk : (ok != ok) = false := by simp
  go_wp2_with fail
  clear x0 x1 x2 x3 x4 x5 x6 hkk
  generalize w13.alloc (.cells #[.int .i64 j0, .int .i64 j1, .bool j2, .int .i64 j3, .int .i64 j4, .int .i64 j5, .int .i64 j6] 43) = w14 at *
  obtain ⟨x0, x1, x2, x3, x4, x5, x6⟩ := JP14.out
  obtain ⟨y0, y1, y2, y3, y4, y5, y6⟩ := QP14.out
  simp only [Nat.zero_add] at x0 x1 x2 x3 x4 x5 x6 y0 y1 y2 y3 y4 y5 y6
  obtain ⟨l0, -⟩ := (show JbC w14 b (off + k * 7) J[k] from by
    obtain ⟨b', off', e, -, hc⟩ := J14.out.2.2 k hkJ
    injection e with e; injection e with e1 e2; subst e1; subst e2; exact hc)
  rw [hJk] at l0
  have k1 : (k : Int) < (J.length : Int) := by omega
  have HE := Lib.hid (show (¬ (ok = true ∧ lk = j0) → one = ok ∧ (⟨p0, p1, p2, p3, p4, p5, p6⟩ : Jb) = ⟨j0, j1, j2, j3, j4, j5, j6⟩) ∧ (ok = true ∧ lk = j0 → one = true → ¬ p0 = j0) from by
    obtain ⟨h1, h2⟩ := HRest.out
    rw [HO1.out.1, HO1.out.2, HO2.out.1, HO2.out.2] at h1
    rw [HO1.out.1, HO1.out.2] at h2
    refine ⟨fun h => ?_, fun h => h1 h⟩
    have e := h2 h
    have e1 := HO2.out; have e2 := HO1.out
    rw [e, e2.1, e2.2] at e1
    exact ⟨e1.2.symm, e1.1.symm⟩)
  clear hJk HRest HO1 HO2
  by_cases hc : ok = true ∧ lk = j0
  · obtain ⟨rfl, rfl⟩ := hc
    have HN := Lib.hid (HE.out.2 ⟨rfl, rfl⟩)
    have hlb : (lk == lk) = true := by simp
    go_wp2_with fail
    go_quiet (fail)
    cases one with
    | false =>
      go_wp2_with fail
      go_ret
      exact ⟨rfl, below_drewN BF.out _⟩
    | true =>
      have hne := HN.out rfl
      have hneb : (p0 != lk) = true := by simp [hne]
      go_wp2_with fail
      go_ret
      exact ⟨rfl, below_drewN BF.out _⟩
  · obtain ⟨rfl, hpj⟩ := HE.out.1 hc
    injection hpj with e0 e1 e2 e3 e4 e5 e6
    subst e0; subst e1; subst e2; subst e3; subst e4; subst e5; subst e6
    have hoo : (one == one) = true := by simp
    cases one with
    | false =>
      clear hc
      go_wp2_with fail
      go_quiet (fail)
      go_wp2_with fail
      go_ret
      exact ⟨rfl, below_drewN BF.out _⟩
    | true =>
      have hne : ¬ lk = p0 := fun e => hc ⟨rfl, e⟩
      have hneb : (lk == p0) = false := by simp [hne]
      clear hc
      go_wp2_with fail
      go_quiet (fail)
      go_wp2_with fail
      go_ret
      exact ⟨rfl, below_drewN BF.out _⟩
end Go.Proofs.Ytjdhjlhcdpekbaa
