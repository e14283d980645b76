/-
  The walk of DispatchBatch.
-/
import Derived.Test.YtjdhjlhcdpekbaaSa11
namespace Go.Proofs.Ytjdhjlhcdpekbaa
open Go.RowKit Go.Shelf Go.Sort Dsp

theorem IntA.take {w : World} {a : Option Addr} {c : Nat} {L : List Int} (h : IntA w a c L) (k : Nat) : IntA w a c (L.take k) := by
  refine ⟨by rw [List.length_take]; exact Nat.le_trans (Nat.min_le_right _ _) h.1, h.2.1, fun i hi => ?_⟩
  have hi' : i < L.length := by rw [List.length_take] at hi; omega
  obtain ⟨b, off, e, hb, hc⟩ := h.2.2 i hi'
  exact ⟨b, off, e, hb, by rw [List.getElem_take]; exact hc⟩
theorem jobs_20 (X : List (List Int)) : (jobsL X).length < 20 := by have := jobsL_len X; omega
theorem rules_1000 (n : Int) : (rulesL n).length ≤ 1000 := by have := rulesL_len n; omega

set_option maxRecDepth 100000 in
set_option maxHeartbeats 4000000 in
theorem batchLaw_any (a : Option Addr) (c : Nat) (X : List (List Int)) (n : Int) (W : World) (h : ArrsA 4 W a c X) (n1 : -9223372036854775808 ≤ n) (n2 : n ≤ 9223372036854775807) :
    Calls Try.prog 9 #[.slice a X.length c, .int .i64 n] W fun e w' => e = .returned (.bool true) ∧ Below W.heap.size W w' := by
  have H := Lib.hid h
  have HS := Lib.hid (sane_any W)
  have HR := Lib.hid (fun w => rules_any n w ⟨n1, n2⟩)
  unfold NewInts at HR
  obtain ⟨i0, hi, hz0, hz1, hz2⟩ := info_parts info_int
  clear h n1 n2
  go_enter Try.func9, Try.ntmps9
  go_wp2_with fail
  refine HS.out.mono ?_
  rintro _ w1 ⟨rfl, b1⟩
  have B1 := Lib.hid b1
  have HJ := Lib.hid (jobs_any X a c w1 (H.out.below b1))
  unfold NewJobs at HJ
  clear b1 HS
  go_wp2_with fail
  refine HJ.out.mono ?_
  rintro _ w2 ⟨v2, rfl, o2, b2⟩
  obtain ⟨a2, c2, rfl, j2, -⟩ := o2.arg
  have J2 := Lib.hid j2; have B2 := Lib.hid (below_step B1.out b2)
  clear o2 b2 j2 HJ
  go_wp2_with fail
  refine (HR.out _).mono ?_
  rintro _ w3 ⟨v3, rfl, o3, b3⟩
  obtain ⟨a3, c3, rfl, r3⟩ := o3.arg
  have R3 := Lib.hid r3; have B3 := Lib.hid (below_step B2.out b3); have J3 := Lib.hid (J2.out.below b3)
  have HO := Lib.hid (Order_any _ _ _ 0 _ _ _ _ R3.out (rules_1000 n) (jobs_20 X) J3.out)
  unfold NewJobs at HO
  clear o3 b3 r3 HR J2
  go_wp2_with fail
  refine HO.out.mono ?_
  rintro _ w4 ⟨v4, rfl, o4, b4⟩
  obtain ⟨a4, c4, rfl, j4, -⟩ := o4.arg
  have J4 := Lib.hid j4; have B4 := Lib.hid (below_step B3.out b4)
  have HB := Lib.hid (Batch_any _ _ _ _ _ _ _ (R3.out.below b4) (rules_1000 n) (jobs_20 X) (J3.out.below b4))
  unfold NewInts at HB
  have HLn := Lib.hid (Nat.le_trans (orderV_len (rulesL n) 0 (jobsL X)) (jobsL_len X))
  generalize orderV (rulesL n) 0 (jobsL X) = L at *
  clear o4 b4 j4 HO
  go_wp2_with fail
  refine HB.out.mono ?_
  rintro _ w5 ⟨v5, rfl, o5, b5⟩
  obtain ⟨a5, c5, rfl, r5⟩ := o5.arg
  have R5 := Lib.hid r5; have B5 := Lib.hid (below_step B4.out b5); have J5 := Lib.hid (J4.out.below b5)
  have hLn := HLn.out
  generalize hq : (batchL L).length = q5 at *
  have HQ := Lib.hid hq
  clear o5 b5 r5 HB hq
  go_wp2_with fail
  go_loopw [10, 11] (fun vv i wr => ∃ (k : Nat) (v : Value) (m : Nat), k ≤ L.length ∧ i = .int .i64 (k : Int) ∧ v = vv ∧ m ≤ k ∧ Hid (m = (batS L k).length) ∧ Hid (wr.ownsRow w5.heap.size 3 1 v m (intRow (batS L k))) ∧ Hid (Below w5.heap.size w5 wr)) (fun _ i _ => L.length - (intOf i).toNat)
  case atStart => exact ⟨0, _, 0, Nat.zero_le _, rfl, rfl, Nat.le_refl _, Lib.hid (by simp [batS]), Lib.hid (by simpa [batS, intRow] using World.ownsRow_nil _ _ _ _), Lib.hid (Below.refl _ _)⟩
  case round =>
    obtain ⟨k, v, m, hk, rfl, rfl, hmk, HM, HV, HBw⟩ := hrel
    by_cases hlt : k < L.length
    · obtain ⟨b, off, rfl, hb, hc⟩ := (J5.out.below HBw.out).at (by omega)
      obtain ⟨x0, x1, -⟩ := hc k hlt
      obtain ⟨-, y1, -⟩ := hc 0 (by omega)
      have HSc := Lib.hid (batS_succ hlt)
      have k0 : (0 : Int) ≤ (k : Int) := by omega
      have k1 : (k : Int) < (L.length : Int) := by omega
      have k2 : (0 : Int) < (L.length : Int) := by omega
      have e00 : (L[0]?.getD default) = L[0] := by rw [List.getElem?_eq_getElem (by omega)]; rfl
      rw [e00] at HSc
      simp only [Nat.zero_mul, Nat.add_zero] at y1
      clear hc e00
      generalize L[0].rcp = q0 at *
      generalize hlot : L[k].lot = j0 at *
      generalize hrcp : L[k].rcp = j1 at *
      clear hlot hrcp
      by_cases hp : j1 = q0
      · subst hp
        simp only [if_true] at HSc
        go_wp2_with fail
        go_quiet (fail)
        generalize hW : wr.drewN nq = w7
        have HV7 := Lib.hid (show w7.ownsRow w5.heap.size 3 1 v m (intRow (batS L k)) from by rw [← hW]; exact HV.out)
        have HB7 := Lib.hid (show Below w5.heap.size w5 w7 from by rw [← hW]; exact below_drewN HBw.out _)
        have x7 : w7.cell? ⟨b, off + k * 7, none⟩ = some (.int .i64 j0) := by rw [← hW, World.cell?_drewN]; exact x0
        clear hW
        go_wp2_with (at_builtin; refine wpList_append_own _ rfl _ _ 23 rfl w5.heap.size 3 i0 (.int .i64 0) 1 8 Try.underlying23 hi hz0 hz1 hz2 rfl (by decide) _ _ _ rfl (HV7.out.alloc _) ⟨w7.heap.size, 0, none⟩ 1 1 [.int .i64 j0] rfl rfl (cell_one_new _ _ _) (by simp [Value.oneCell']) (by unfold maxLen; omega) (by omega) (by have := HB7.out.size; simp; omega) ?_; intro v' w8 hown' hgrow _)
        have O8 := Lib.hid (show w8.ownsRow w5.heap.size 3 1 v' (m + 1) (intRow (batS L (k + 1))) from by
          rw [HSc.out]; unfold intRow at hown' ⊢; rw [List.map_append]; exact hown')
        have N8 := Lib.hid (show m + 1 = (batS L (k + 1)).length from by rw [HSc.out, HM.out]; simp)
        have G8 := Lib.hid (HB7.out.trans (((Below.refl w5.heap.size w7).alloc HB7.out.size (.cells #[.int .i64 j0] 3)).grown hgrow (by have := HB7.out.size; simp; omega) (fun kk e => (HV7.out.lt kk e).1)))
        clear hown' hgrow HV7 HB7
        go_wp2_with fail
        go_roundw
        case rel => exact ⟨k + 1, _, m + 1, hlt, by go_num, rfl, by omega, N8, O8, G8⟩
        case measure => simp [intOf]; omega
      · have HE := Lib.hid (show batS L (k + 1) = batS L k by rw [HSc.out, if_neg hp]; simp)
        have hpb : (j1 == q0) = false := by simp [hp]
        go_wp2_with fail
        go_quiet (fail)
        go_wp2_with fail
        go_roundw
        case rel => exact ⟨k + 1, _, m, hlt, by go_num, rfl, by omega, by rw [HE.out]; exact HM, by rw [HE.out]; exact HV, Lib.hid (below_drewN HBw.out _)⟩
        case measure => simp [intOf]; omega
    · have k1 : ¬ (k : Int) < (L.length : Int) := by omega
      obtain rfl : k = L.length := by omega
      obtain ⟨av, cv, rfl, ia⟩ := IntOwn.arg (show IntOwn wr w5.heap.size v (batS L L.length) from by have h1 := HV.out; rw [HM.out] at h1; exact h1)
      have hme : (batS L L.length).length = m := HM.out.symm
      rw [hme]
      obtain ⟨t, ht⟩ : ∃ t, ((batS L L.length).take 6).length = t := ⟨_, rfl⟩
      have ht2 : t = min 6 m := by rw [← ht, List.length_take, hme]
      have hmin : min (m : Int) 6 = (t : Int) := by omega
      have g0 : (0 : Int) ≤ (t : Int) := by omega
      have hmc : m ≤ cv := by have := ia.1; omega
      have g1 : (t : Int) ≤ (cv : Int) := by omega
      have HSm := Lib.hid (show Calls Try.prog 24 #[.slice a5 q5 c5, .slice av t cv] wr fun e w' => e = .returned (.bool true) ∧ Below wr.heap.size wr w' by
        have h := same_any (batchL L) ((batS L L.length).take 6) a5 c5 av cv wr (R5.out.below HBw.out) (ia.take 6)
        rw [HQ.out, ht, show decide (batchL L = (batS L L.length).take 6) = true from decide_eq_true rfl] at h
        exact h)
      clear ht ht2 ia hmc hme
      go_wp2_with fail
      refine HSm.out.mono ?_
      rintro _ w9 ⟨rfl, b9⟩
      have B9 := Lib.hid (below_step B5.out (below_step HBw.out b9))
      clear b9
      go_wp2_with fail
      go_ret
      exact ⟨rfl, B9.out⟩
end Go.Proofs.Ytjdhjlhcdpekbaa
