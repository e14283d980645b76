/-
  validText, fits, Valid.
-/
import Derived.Test.YtnmjcjkjdbkpnaaDoorVn
namespace Go.Proofs.YtnmjcjkjdbkpnaaDoor
open Go.RowKit Go.Shelf Fc
attribute [local go_sem] Oper.semAt_some
theorem wpList_load_factW {ops : Array Oper} {rest : List Oper} {o : Oper} {a : Act} {w : World} {Q : Exit → Act → World → Prop} (hw : Region.wanted o (yielded ops a.tmps) = true) (x : Operand) (ho : o.op = .load 23 x) (b : Nat) (hx : a.eval x = .pointer (some ⟨b, 0, none⟩)) (G : Fact) (h : w.heap[b]? = some (factObj G))
    (hK : wpList Tryd.prog ops Q rest (a.put o.dst (factV G)) w) : wpList Tryd.prog ops Q (o :: rest) a w :=
  BigFrame.wpList_want hw fun _ hK2 => wp_load_fact x ho b hx G h (hK2 _ _ hK)
def BoolPost (b : Bool) (w : World) (e : Ending) (w' : World) : Prop := e = .returned (.bool b) ∧ Below w.heap.size w w'
theorem strEmpty (s : ByteArray) : (s.toList == ([] : List UInt8)) = (s.size == 0) := by
  rw [ByteArray.toList_eq]
  by_cases h : s.size = 0
  · have : s.data = #[] := Array.size_eq_zero_iff.1 h
    rw [this]; simp [h]
  · have : s.data.toList ≠ [] := fun e => h (by have := congrArg List.length e; simpa using this)
    rw [beq_eq_false_iff_ne.2 this, beq_eq_false_iff_ne.2 h]
set_option maxRecDepth 100000 in
set_option maxHeartbeats 2000000 in
theorem validText_any (F : Fact) (w : World) (hs : F.tx.size ≤ maxLen) : Calls Tryd.prog 32 #[factV F] w (BoolPost (textOK F) w) := by
  have HF := Lib.hid (heap_alloc_new w (factObj F))
  have HB := Lib.hid (below_new w (factObj F))
  unfold maxLen at hs
  go_enter Tryd.func32, Tryd.ntmps32
  go_upto_region 1 with (fail)
  generalize w.alloc (factObj F) = w1 at *
  have c0 := box_cell HF.out 0 (.int .i64 F.k) rfl
  have c18 := box_cell HF.out 18 (.string F.tx) rfl
  have HO := Lib.hid (show textOK F = ((F.tx.size == 0) || (F.k == 5) && decide (F.tx.size ≤ 8192)) from rfl)
  clear HF
  have HE := Lib.hid (strEmpty F.tx)
  obtain ⟨k, id, v, d, gone, ti, un, wf, ot, lo, pr, tl, ch, st, rc, rv, va, pa, tx⟩ := F
  simp only at c0 c18 HO HE hs
  by_cases h0 : tx.size = 0
  · have h1 : (tx.toList == []) = true := by rw [HE.out, h0]; rfl
    have HR := Lib.hid (show textOK ⟨k, id, v, d, gone, ti, un, wf, ot, lo, pr, tl, ch, st, rc, rv, va, pa, tx⟩ = true by rw [HO.out, h0]; rfl)
    clear h0
    go_wp2_with fail
    go_ret
    exact ⟨ret_bool HR.out.symm, HB.out⟩
  · have h1 : (tx.toList == []) = false := by rw [HE.out]; simpa using h0
    have HS := Lib.hid (show (tx.size == 0) = false by simpa using h0)
    clear h0
    by_cases hk : k = 5
    · subst hk
      by_cases hl : tx.size ≤ 8192
      · have HR := Lib.hid (show textOK ⟨5, id, v, d, gone, ti, un, wf, ot, lo, pr, tl, ch, st, rc, rv, va, pa, tx⟩ = true by rw [HO.out, HS.out]; simp [hl])
        have hl2 : ((tx.size : Nat) : Int) ≤ 8192 := by omega
        go_wp2_with fail
        go_ret
        exact ⟨ret_bool HR.out.symm, HB.out⟩
      · have HR := Lib.hid (show textOK ⟨5, id, v, d, gone, ti, un, wf, ot, lo, pr, tl, ch, st, rc, rv, va, pa, tx⟩ = false by rw [HO.out, HS.out]; simp [hl])
        have hl2 : ¬ ((tx.size : Nat) : Int) ≤ 8192 := by omega
        go_wp2_with fail
        go_ret
        exact ⟨ret_bool HR.out.symm, HB.out⟩
    · have HR := Lib.hid (show textOK ⟨k, id, v, d, gone, ti, un, wf, ot, lo, pr, tl, ch, st, rc, rv, va, pa, tx⟩ = false by rw [HO.out, HS.out]; simp [hk])
      go_wp2_with fail
      go_ret
      exact ⟨ret_bool HR.out.symm, HB.out⟩
set_option maxRecDepth 100000 in
set_option maxHeartbeats 2000000 in
theorem fits_any (F : Fact) (w : World) : Calls Tryd.prog 34 #[factV F] w (BoolPost (fitsB F) w) := by
  have HF := Lib.hid (heap_alloc_new w (factObj F))
  have HB := Lib.hid (below_new w (factObj F))
  go_enter Tryd.func34, Tryd.ntmps34
  go_upto_region 1 with (fail)
  generalize w.alloc (factObj F) = w1 at *
  have c0 := box_cell HF.out 0 (.int .i64 F.k) rfl
  have c5 := box_cell HF.out 5 (.int .i64 F.ti) rfl
  have c6 := box_cell HF.out 6 (.int .i64 F.un) rfl
  have c7 := box_cell HF.out 7 (.int .i64 F.w) rfl
  have c8 := box_cell HF.out 8 (.int .i64 F.ot) rfl
  have HO := Lib.hid (show fitsB F = if F.k = 3 then !(F.w == F.ot) else if F.k = 1 ∨ F.k = 6 ∨ F.k = 7 ∨ F.k = 11 then decide (F.ti ≤ F.un) else true from rfl)
  clear HF
  obtain ⟨k, id, v, d, gone, ti, un, wf, ot, lo, pr, tl, ch, st, rc, rv, va, pa, tx⟩ := F
  simp only at c0 c5 c6 c7 c8 HO
  obtain rfl | rfl | rfl | rfl | rfl | ⟨h3, h1, h6, h7, h11⟩ : k = 3 ∨ k = 1 ∨ k = 6 ∨ k = 7 ∨ k = 11 ∨ (k ≠ 3 ∧ k ≠ 1 ∧ k ≠ 6 ∧ k ≠ 7 ∧ k ≠ 11) := by omega
  · go_wp2_with fail
    go_ret
    exact ⟨ret_bool (by rw [HO.out]; simp [bne]), HB.out⟩
  · go_wp2_with fail
    go_ret
    exact ⟨ret_bool (by rw [HO.out]; simp), HB.out⟩
  · go_wp2_with fail
    go_ret
    exact ⟨ret_bool (by rw [HO.out]; simp), HB.out⟩
  · go_wp2_with fail
    go_ret
    exact ⟨ret_bool (by rw [HO.out]; simp), HB.out⟩
  · go_wp2_with fail
    go_ret
    exact ⟨ret_bool (by rw [HO.out]; simp), HB.out⟩
  · go_wp2_with fail
    go_ret
    exact ⟨ret_bool (by rw [HO.out]; simp [h3, h1, h6, h7, h11]), HB.out⟩
/-- The six questions. -/
theorem valid_and (F : Fact) : validB F = (within F.k 1 11 && within F.v 1 1000000 && within F.d 0 100000 && textOK F && numsOK F && fitsB F) := rfl
set_option maxRecDepth 100000 in
set_option maxHeartbeats 4000000 in
theorem valid_any (F : Fact) (w : World) (hT : Tab w) (hs : F.tx.size ≤ maxLen) : Calls Tryd.prog 16 #[factV F] w (BoolPost (validB F) w) := by
  have HF := Lib.hid (heap_alloc_new w (factObj F))
  have HB := Lib.hid (below_new w (factObj F))
  have HT := Lib.hid (hT.below HB.out)
  have HS := Lib.hid hs
  have HV := Lib.hid (valid_and F)
  have H1 := Lib.hid (fun W => within_any F.k 1 11 W)
  have H2 := Lib.hid (fun W => within_any F.v 1 1000000 W)
  have H3 := Lib.hid (fun W => within_any F.d 0 100000 W)
  have H4 := Lib.hid (fun W => validText_any F W HS.out)
  have H5 := Lib.hid (fun W h => validNumbers_any F W h)
  have H6 := Lib.hid (fun W => fits_any F W)
  unfold VnPost at H5
  unfold BoolPost at H4 H6
  clear hT hs
  generalize validB F = B at *
  generalize within F.k 1 11 = B1 at *
  generalize within F.v 1 1000000 = B2 at *
  generalize within F.d 0 100000 = B3 at *
  generalize textOK F = B4 at *
  generalize numsOK F = B5 at *
  generalize fitsB F = B6 at *
  go_enter Tryd.func16, Tryd.ntmps16
  go_upto_region 1 with (fail)
  generalize w.alloc (factObj F) = w1 at *
  have c0 := box_cell HF.out 0 (.int .i64 F.k) rfl
  have c2 := box_cell HF.out 2 (.int .i64 F.v) rfl
  have c3 := box_cell HF.out 3 (.int .i64 F.d) rfl
  go_wp2_with fail
  refine (H1.out _).mono ?_; rintro e w2 ⟨rfl, rfl⟩
  cases B1 with
  | false =>
    have HR := Lib.hid (show B = false by rw [HV.out]; rfl)
    go_wp2_with fail
    go_ret
    exact ⟨ret_bool HR.out.symm, HB.out⟩
  | true =>
  go_wp2_with fail
  refine (H2.out _).mono ?_; rintro e w2 ⟨rfl, rfl⟩
  cases B2 with
  | false =>
    have HR := Lib.hid (show B = false by rw [HV.out]; rfl)
    go_wp2_with fail
    go_ret
    exact ⟨ret_bool HR.out.symm, HB.out⟩
  | true =>
  go_wp2_with fail
  refine (H3.out _).mono ?_; rintro e w2 ⟨rfl, rfl⟩
  cases B3 with
  | false =>
    have HR := Lib.hid (show B = false by rw [HV.out]; rfl)
    go_wp2_with fail
    go_ret
    exact ⟨ret_bool HR.out.symm, HB.out⟩
  | true =>
  clear c0 c2 c3
  go_wp2_with (refine wpList_load_factW (by rfl) _ rfl _ rfl F HF.out ?_)
  refine (H4.out _).mono ?_; rintro e w3 ⟨rfl, g3⟩
  have HB3 := Lib.hid (below_step HB.out g3)
  have HF3 := Lib.hid (box_below HF.out g3)
  have HT3 := Lib.hid (HT.out.below g3)
  clear g3 HB HF HT
  cases B4 with
  | false =>
    have HR := Lib.hid (show B = false by rw [HV.out]; rfl)
    go_wp2_with fail
    go_ret
    exact ⟨ret_bool HR.out.symm, HB3.out⟩
  | true =>
  go_wp2_with (refine wpList_load_factW (by rfl) _ rfl _ rfl F HF3.out ?_)
  refine (H5.out _ HT3.out).mono ?_; rintro e w4 ⟨rfl, g4⟩
  have HB4 := Lib.hid (below_step HB3.out g4)
  have HF4 := Lib.hid (box_below HF3.out g4)
  clear g4 HB3 HF3 HT3
  cases B5 with
  | false =>
    have HR := Lib.hid (show B = false by rw [HV.out]; rfl)
    go_wp2_with fail
    go_ret
    exact ⟨ret_bool HR.out.symm, HB4.out⟩
  | true =>
  go_wp2_with (refine wpList_load_factW (by rfl) _ rfl _ rfl F HF4.out ?_)
  refine (H6.out _).mono ?_; rintro e w5 ⟨rfl, g5⟩
  have HB5 := Lib.hid (below_step HB4.out g5)
  have HR := Lib.hid (show B = B6 by rw [HV.out]; simp)
  clear g5 HB4 HF4
  go_wp2_with fail
  go_ret
  exact ⟨ret_bool HR.out.symm, HB5.out⟩
end Go.Proofs.YtnmjcjkjdbkpnaaDoor
