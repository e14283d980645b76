/-
  The statements' jobs and rules, as integers determine them.
-/
import Derived.Test.YtjdhjlhcdpekbaaBatch
import Derived.Test.YtjdhjlhcdpekbaaSome
namespace Go.Proofs.Ytjdhjlhcdpekbaa
open Go.RowKit Go.Shelf Go.Sort Dsp

def mkJ (i : Nat) (y : List Int) : Jb := ⟨1 + (7 * (i : Int) + 3) % 13, 1 + pickZ (y[0]?.getD 0) 3, decide (pickZ ((y[0]?.getD 0).tdiv 3) 4 = 0), pickZ (y[1]?.getD 0) 30, pickZ ((y[1]?.getD 0).tdiv 30) 20, 1 + pickZ (y[2]?.getD 0) 60, 1 + pickZ (y[3]?.getD 0) 25⟩
def jobsTo (X : List (List Int)) (k : Nat) : List Jb := (List.range k).map fun i => mkJ i (X[i]?.getD [])
def jobsL (X : List (List Int)) : List Jb := jobsTo X (min X.length 12)
theorem jobsTo_len (X : List (List Int)) (k : Nat) : (jobsTo X k).length = k := by simp [jobsTo]
theorem jobsTo_succ (X : List (List Int)) {k : Nat} (h : k < X.length) : jobsTo X (k + 1) = jobsTo X k ++ [mkJ k X[k]] := by
  unfold jobsTo; rw [List.range_succ, List.map_append]; simp [List.getElem?_eq_getElem h]
theorem jobsL_len (X : List (List Int)) : (jobsL X).length ≤ 12 := by unfold jobsL; rw [jobsTo_len]; omega

set_option maxRecDepth 100000 in
set_option maxHeartbeats 8000000 in
theorem jobs_any (X : List (List Int)) (a : Option Addr) (c : Nat) (w : World) (h : ArrsA 4 w a c X) : Calls Try.prog 17 #[.slice a X.length c] w (NewJobs w (jobsL X)) := by
  unfold NewJobs
  have hl := Nat.le_trans h.1 h.2.1
  unfold maxLen at hl
  have H := Lib.hid h
  obtain ⟨i0, hi, hz0, hz1, hz2⟩ := info_parts info_job
  clear h
  go_enter Try.func17, Try.ntmps17
  go_wp2_with fail
  go_loopw [3, 4] (fun vv i wr => ∃ (k : Nat) (v : Value), k ≤ X.length ∧ k ≤ 12 ∧ i = .int .i64 (k : Int) ∧ v = vv ∧ Hid (JbOwn wr w.heap.size v (jobsTo X k)) ∧ Hid (Below w.heap.size w wr)) (fun _ i _ => 12 - (intOf i).toNat)
  case atStart => exact ⟨0, _, by omega, by omega, rfl, rfl, Lib.hid (JbOwn.nil _ _), Lib.hid (Below.refl _ _)⟩
  case round =>
    obtain ⟨k, v, hk, hk12, rfl, rfl, HV, HB⟩ := hrel
    by_cases hlt : k < X.length ∧ k < 12
    · obtain ⟨hlt, hlt12⟩ := hlt
      obtain ⟨b, off, rfl, hb1, hc0⟩ := H.out.2.2.2 k hlt
      have hc : ∀ (j : Nat) (v : Int), X[k][j]? = some v → wr.cell? ⟨b, off + k * 4 + j, none⟩ = some (.int .i64 v) := fun j v hv => (HB.out.cell (p := ⟨b, off + k * 4 + j, none⟩) hb1).trans (hc0 j v hv)
      clear hc0
      obtain ⟨hlen, hfit⟩ := (H.out).2.2.1 X[k] (List.getElem_mem hlt)
      have HS := Lib.hid (jobsTo_succ X hlt)
      have hkl := jobsTo_len X k
      generalize X[k] = y at *
      match y, hlen with
      | [y0, y1, y2, y3], _ =>
        have x0 := hc 0 y0 rfl; have x1 := hc 1 y1 rfl; have x2 := hc 2 y2 rfl; have x3 := hc 3 y3 rfl
        have f0 := hfit y0 (by simp); have f1 := hfit y1 (by simp); have f2 := hfit y2 (by simp); have f3 := hfit y3 (by simp)
        have t0 : -9223372036854775808 ≤ y0.tdiv 3 ∧ y0.tdiv 3 ≤ 9223372036854775807 := by
          rcases Int.le_total 0 y0 with h | h
          · rw [Int.tdiv_eq_ediv_of_nonneg h]; unfold Fits at f0; omega
          · have e : y0.tdiv 3 = -((-y0) / 3) := by rw [← Int.tdiv_eq_ediv_of_nonneg (by omega : 0 ≤ -y0), Int.neg_tdiv, Int.neg_neg]
            rw [e]; unfold Fits at f0; omega
        have t1 : -9223372036854775808 ≤ y1.tdiv 30 ∧ y1.tdiv 30 ≤ 9223372036854775807 := by
          rcases Int.le_total 0 y1 with h | h
          · rw [Int.tdiv_eq_ediv_of_nonneg h]; unfold Fits at f1; omega
          · have e : y1.tdiv 30 = -((-y1) / 30) := by rw [← Int.tdiv_eq_ediv_of_nonneg (by omega : 0 ≤ -y1), Int.neg_tdiv, Int.neg_neg]
            rw [e]; unfold Fits at f1; omega
        have hm : mkJ k [y0, y1, y2, y3] = ⟨1 + (7 * (k : Int) + 3) % 13, 1 + pickZ y0 3, decide (pickZ (y0.tdiv 3) 4 = 0), pickZ y1 30, pickZ (y1.tdiv 30) 20, 1 + pickZ y2 60, 1 + pickZ y3 25⟩ := rfl
        have HP1 := Lib.hid (fun w => pick_any y0 3 w f0 (by omega))
        have HP2 := Lib.hid (fun w => pick_any (y0.tdiv 3) 4 w t0 (by omega))
        have HP3 := Lib.hid (fun w => pick_any y1 30 w f1 (by omega))
        have HP4 := Lib.hid (fun w => pick_any (y1.tdiv 30) 20 w t1 (by omega))
        have HP5 := Lib.hid (fun w => pick_any y2 60 w f2 (by omega))
        have HP6 := Lib.hid (fun w => pick_any y3 25 w f3 (by omega))
        have b1 := pickZ_bd (c := y0) (n := 3) (by omega)
        have b2 := pickZ_bd (c := y0.tdiv 3) (n := 4) (by omega)
        have b3 := pickZ_bd (c := y1) (n := 30) (by omega)
        have b4 := pickZ_bd (c := y1.tdiv 30) (n := 20) (by omega)
        have b5 := pickZ_bd (c := y2) (n := 60) (by omega)
        have b6 := pickZ_bd (c := y3) (n := 25) (by omega)
        have k0 : (0 : Int) ≤ (k : Int) := by omega
        have k1 : (k : Int) < (X.length : Int) := by omega
        have k2 : (k : Int) < 12 := by omega
        rw [hm] at HS
        have q0 : IntKind.i64.wrap (y0.tdiv 3) = y0.tdiv 3 := IntWalk.i64_in _ (by omega)
        have q1 : IntKind.i64.wrap (y1.tdiv 30) = y1.tdiv 30 := IntWalk.i64_in _ (by omega)
        clear hc hfit hm f0 f1 f2 f3
        simp only [Nat.add_zero] at x0
        generalize pickZ y0 3 = p1 at *
        generalize pickZ (y0.tdiv 3) 4 = p2 at *
        generalize pickZ y1 30 = p3 at *
        generalize pickZ (y1.tdiv 30) 20 = p4 at *
        generalize pickZ y2 60 = p5 at *
        generalize pickZ y3 25 = p6 at *
        obtain ⟨m, hm⟩ : ∃ m, (7 * (k : Int) + 3).tmod 13 = m := ⟨_, rfl⟩
        have hm2 : m = (7 * (k : Int) + 3) % 13 := by rw [← hm]; exact Int.tmod_eq_emod_of_nonneg (by omega)
        rw [← hm2] at HS
        have m0 : 0 ≤ m ∧ m < 13 := by omega
        obtain ⟨B, hB⟩ : ∃ B, (p2 == 0) = B := ⟨_, rfl⟩
        have hB2 : decide (p2 = 0) = B := by rw [← hB]; by_cases h : p2 = 0 <;> simp [h]
        rw [hB2] at HS
        have d1 : IntKind.i64.wrap (7 * (k : Int)) = 7 * (k : Int) := IntWalk.i64_in _ (by omega)
        have d2 : IntKind.i64.wrap (7 * (k : Int) + 3) = 7 * (k : Int) + 3 := IntWalk.i64_in _ (by omega)
        have d3 : IntKind.i64.wrap m = m := IntWalk.i64_in _ (by omega)
        have d4 : IntKind.i64.wrap (1 + m) = 1 + m := IntWalk.i64_in _ (by omega)
        have d5 : IntKind.i64.wrap (1 + p1) = 1 + p1 := IntWalk.i64_in _ (by omega)
        have d6 : IntKind.i64.wrap (1 + p5) = 1 + p5 := IntWalk.i64_in _ (by omega)
        have d7 : IntKind.i64.wrap (1 + p6) = 1 + p6 := IntWalk.i64_in _ (by omega)
        clear hB2 hm2
        have hs := HB.out.size
        have HBF := Lib.hid ((Below.refl w.heap.size wr).alloc hs (.cells #[.int .i64 y0, .int .i64 y1, .int .i64 y2, .int .i64 y3] 89))
        have HV1 := Lib.hid (HV.out.alloc (.cells #[.int .i64 y0, .int .i64 y1, .int .i64 y2, .int .i64 y3] 89))
        go_wp2_with fail
        have hw1 : (wr.alloc (.cells #[.int .i64 y0, .int .i64 y1, .int .i64 y2, .int .i64 y3] 89)).heap.size = wr.heap.size + 1 := by simp
        have s0 : (wr.alloc (.cells #[.int .i64 y0, .int .i64 y1, .int .i64 y2, .int .i64 y3] 89)).cell? ⟨wr.heap.size, 0, none⟩ = some (.int .i64 y0) := by go_simp
        have s1 : (wr.alloc (.cells #[.int .i64 y0, .int .i64 y1, .int .i64 y2, .int .i64 y3] 89)).cell? ⟨wr.heap.size, 1, none⟩ = some (.int .i64 y1) := by go_simp
        have s2 : (wr.alloc (.cells #[.int .i64 y0, .int .i64 y1, .int .i64 y2, .int .i64 y3] 89)).cell? ⟨wr.heap.size, 2, none⟩ = some (.int .i64 y2) := by go_simp
        have s3 : (wr.alloc (.cells #[.int .i64 y0, .int .i64 y1, .int .i64 y2, .int .i64 y3] 89)).cell? ⟨wr.heap.size, 3, none⟩ = some (.int .i64 y3) := by go_simp
        generalize wr.alloc (.cells #[.int .i64 y0, .int .i64 y1, .int .i64 y2, .int .i64 y3] 89) = w1 at *
        have HW1 := Lib.hid hw1
        clear hw1
        have HSS := Lib.hid (show w1.cell? ⟨wr.heap.size, 0, none⟩ = some (.int .i64 y0) ∧ w1.cell? ⟨wr.heap.size, 1, none⟩ = some (.int .i64 y1) ∧ w1.cell? ⟨wr.heap.size, 2, none⟩ = some (.int .i64 y2) ∧ w1.cell? ⟨wr.heap.size, 3, none⟩ = some (.int .i64 y3) from ⟨s0, s1, s2, s3⟩)
        have HO := Lib.hid (show (w1.alloc (.cells #[.int .i64 (1 + m), .int .i64 (1 + p1), .bool B, .int .i64 p3, .int .i64 p4, .int .i64 (1 + p5), .int .i64 (1 + p6)] 43)).drew.ownsRow w.heap.size 43 7 v k (jbRow (jobsTo X k)) by
          have := HV1.out.alloc (.cells #[.int .i64 (1 + m), .int .i64 (1 + p1), .bool B, .int .i64 p3, .int .i64 p4, .int .i64 (1 + p5), .int .i64 (1 + p6)] 43)
          rw [hkl] at this; exact this)
        have HNW := Lib.hid (World.news_of_block (w := (w1.alloc (.cells #[.int .i64 (1 + m), .int .i64 (1 + p1), .bool B, .int .i64 p3, .int .i64 p4, .int .i64 (1 + p5), .int .i64 (1 + p6)] 43)).drew) (B := w1.heap.size) (cs := #[.int .i64 (1 + m), .int .i64 (1 + p1), .bool B, .int .i64 p3, .int .i64 p4, .int .i64 (1 + p5), .int .i64 (1 + p6)]) (t := 43) (fr := (0, 0)) (heap_alloc_new w1 _))
        have HKp := Lib.hid (show ∀ o : Obj, (fun w' : World => w'.cell? ⟨wr.heap.size, 0, none⟩ = some (.int .i64 y0) ∧ w'.cell? ⟨wr.heap.size, 1, none⟩ = some (.int .i64 y1) ∧ w'.cell? ⟨wr.heap.size, 2, none⟩ = some (.int .i64 y2) ∧ w'.cell? ⟨wr.heap.size, 3, none⟩ = some (.int .i64 y3)) (w1.alloc o).drew from fun o => ⟨cell_below (below_new w1 o) s0, cell_below (below_new w1 o) s1, cell_below (below_new w1 o) s2, cell_below (below_new w1 o) s3⟩)
        have hbv : some wr.heap.size ≠ v.ownBlock := fun e => by have := (HV.out.lt wr.heap.size e.symm).2; omega
        have HKg := Lib.hid (show ∀ (o : Obj) (w9 : World), (w1.alloc o).drew.grownBy w9 v.ownBlock → (fun w' : World => w'.cell? ⟨wr.heap.size, 0, none⟩ = some (.int .i64 y0) ∧ w'.cell? ⟨wr.heap.size, 1, none⟩ = some (.int .i64 y1) ∧ w'.cell? ⟨wr.heap.size, 2, none⟩ = some (.int .i64 y2) ∧ w'.cell? ⟨wr.heap.size, 3, none⟩ = some (.int .i64 y3)) w9 from fun o w9 hg => ⟨hg.cell (HKp.out o).1 hbv, hg.cell (HKp.out o).2.1 hbv, hg.cell (HKp.out o).2.2.1 hbv, hg.cell (HKp.out o).2.2.2 hbv⟩)
        clear hbv x0 x1 x2 x3
        go_region_held3 (fun w' => w'.cell? ⟨wr.heap.size, 0, none⟩ = some (.int .i64 y0) ∧ w'.cell? ⟨wr.heap.size, 1, none⟩ = some (.int .i64 y1) ∧ w'.cell? ⟨wr.heap.size, 2, none⟩ = some (.int .i64 y2) ∧ w'.cell? ⟨wr.heap.size, 3, none⟩ = some (.int .i64 y3)) (first | exact HSS.out | exact HKp.out _ | exact HKg.out _ _ hg9)
          (first | (refine step_append_lies _ (by rfl) _ _ _ (by rfl) w.heap.size 43 i0 _ 7 56 Try.underlying22 hi hz0 hz1 hz2 rfl (by decide) v k (jbRow (jobsTo X k)) (by rfl) HO.out ⟨w1.heap.size, 0, none⟩ 1 1 [.int .i64 (1 + m), .int .i64 (1 + p1), .bool B, .int .i64 p3, .int .i64 p4, .int .i64 (1 + p5), .int .i64 (1 + p6)] (by rfl) (by rfl) HNW.out (by simp [Value.oneCell']) (by decide) (by unfold maxLen; omega) (by omega) (by have := HW1.out; simp; omega) (w1.heap.size + 1) (by simp) ?_; intro g9 cap9 w9 hown9 hg9 hat9 hlt9) | (go_at_call 31; (with_reducible refine (HP1.out _).mono ?_); rintro e w' ⟨rfl, rfl⟩) | (go_at_call 31; (with_reducible refine (HP2.out _).mono ?_); rintro e w' ⟨rfl, rfl⟩) | (go_at_call 31; (with_reducible refine (HP3.out _).mono ?_); rintro e w' ⟨rfl, rfl⟩) | (go_at_call 31; (with_reducible refine (HP4.out _).mono ?_); rintro e w' ⟨rfl, rfl⟩) | (go_at_call 31; (with_reducible refine (HP5.out _).mono ?_); rintro e w' ⟨rfl, rfl⟩) | (go_at_call 31; (with_reducible refine (HP6.out _).mono ?_); rintro e w' ⟨rfl, rfl⟩))
        all_goals
          have O3 := Lib.hid (show JbOwn w9 w.heap.size (.slice (some ⟨g9, 0, none⟩) (k + 1) cap9) (jobsTo X (k + 1)) by
            rw [HS.out]; unfold JbOwn; rw [List.length_append, hkl, jbRow_append]; exact hown9)
          have G3 := Lib.hid (HB.out.trans ((HBF.out.alloc (by have := HW1.out; omega) (.cells #[.int .i64 (1 + m), .int .i64 (1 + p1), .bool B, .int .i64 p3, .int .i64 p4, .int .i64 (1 + p5), .int .i64 (1 + p6)] 43)).drew.grown hg9 (by have := HW1.out; simp; omega) (fun kk e => (HV.out.lt kk e).1)))
          clear hown9 hg9 hat9 hlt9
          go_wp2_with fail
          go_roundw
          case rel => exact ⟨k + 1, _, by omega, by omega, by go_num, rfl, O3, G3⟩
          case measure => simp [intOf]; omega
    · have HE : Hid (jobsL X = jobsTo X k) := Lib.hid (by unfold jobsL; congr 1; omega)
      by_cases h1 : k < X.length
      · have k1 : (k : Int) < (X.length : Int) := by omega
        have k2 : ¬ (k : Int) < 12 := by omega
        go_wp2_with fail
        go_ret
        exact ⟨_, rfl, by rw [HE.out]; exact HV.out, HB.out⟩
      · have k1 : ¬ (k : Int) < (X.length : Int) := by omega
        go_wp2_with fail
        go_ret
        exact ⟨_, rfl, by rw [HE.out]; exact HV.out, HB.out⟩
end Go.Proofs.Ytjdhjlhcdpekbaa
