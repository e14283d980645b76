/-
  The statements' common examples: example, lots, same.
-/
import Derived.Test.YtjdhjlhcdpekbaaBk11
import Derived.Test.YtjdhjlhcdpekbaaPick
namespace Go.Proofs.Ytjdhjlhcdpekbaa
open Go.RowKit Go.Shelf Go.Sort Dsp

abbrev jA : Jb := ⟨1, 5, false, 90, 3, 30, 25⟩
abbrev jB : Jb := ⟨2, 6, true, 95, 1, 40, 25⟩
abbrev jC : Jb := ⟨3, 5, false, 90, 2, 10, 25⟩
abbrev exO : Obj := .cells #[.int .i64 1, .int .i64 5, .bool false, .int .i64 90, .int .i64 3, .int .i64 30, .int .i64 25, .int .i64 2, .int .i64 6, .bool true, .int .i64 95, .int .i64 1, .int .i64 40, .int .i64 25, .int .i64 3, .int .i64 5, .bool false, .int .i64 90, .int .i64 2, .int .i64 10, .int .i64 25] 43
theorem exA (w : World) : JbA (w.alloc exO) (some ⟨w.heap.size, 0, none⟩) 3 [jA, jB, jC] := by
  have h := heap_alloc_new w exO
  refine ⟨Nat.le_refl _, by decide, fun i hi => ⟨w.heap.size, 0, rfl, by simp, ?_⟩⟩
  have hi' : i < 3 := hi
  obtain rfl | rfl | rfl : i = 0 ∨ i = 1 ∨ i = 2 := by omega
  all_goals exact ⟨box_cell h _ _ rfl, box_cell h _ _ rfl, box_cell h _ _ rfl, box_cell h _ _ rfl, box_cell h _ _ rfl, box_cell h _ _ rfl, box_cell h _ _ rfl⟩
set_option maxRecDepth 100000 in
theorem example_any (w : World) : Calls Try.prog 42 #[] w fun e w' => ∃ a, e = .returned (.slice a 3 3) ∧ JbA w' a 3 [jA, jB, jC] ∧ Below w.heap.size w w' := by
  go_enter Try.func42, Try.ntmps42
  go_wp2_with fail
  go_ret
  exact ⟨_, rfl, exA w, below_new _ _⟩

set_option maxRecDepth 100000 in
set_option maxHeartbeats 1000000 in
theorem lots_any (L : List Jb) (a : Option Addr) (c : Nat) (w : World) (h : JbA w a c L) (hl : L.length ≤ 1000) : Calls Try.prog 43 #[.slice a L.length c] w (NewInts w (L.map (·.lot))) := by
  unfold NewInts
  have H := Lib.hid h
  obtain ⟨i0, hi, hz0, hz1, hz2⟩ := info_parts info_int
  clear h
  go_enter Try.func43, Try.ntmps43
  go_wp2_with fail
  go_loopw [3, 4] (fun vv i wr => ∃ (k : Nat) (v : Value), k ≤ L.length ∧ i = .int .i64 (k : Int) ∧ v = vv ∧ Hid (wr.ownsRow w.heap.size 3 1 v k (intRow ((L.take k).map (·.lot)))) ∧ Hid (Below w.heap.size w wr)) (fun _ i _ => L.length - (intOf i).toNat)
  case atStart => exact ⟨0, _, Nat.zero_le _, rfl, rfl, Lib.hid (by simpa [intRow] using World.ownsRow_nil _ _ _ _), Lib.hid (Below.refl _ _)⟩
  case round =>
    obtain ⟨k, v, hk, rfl, rfl, HV, HB⟩ := hrel
    by_cases hlt : k < L.length
    · obtain ⟨b, off, rfl, hb, hc⟩ := (H.out.below HB.out).at (by omega)
      obtain ⟨x0, -⟩ := hc k hlt
      have HS := Lib.hid (show intRow ((L.take (k + 1)).map (·.lot)) = intRow ((L.take k).map (·.lot)) ++ [.int .i64 L[k].lot] by unfold intRow; rw [List.take_succ_eq_append_getElem hlt, List.map_append, List.map_append]; rfl)
      have k0 : (0 : Int) ≤ (k : Int) := by omega
      have k1 : (k : Int) < (L.length : Int) := by omega
      clear hc
      generalize L[k].lot = j0 at *
      go_wp2_with (at_builtin; refine wpList_append_own _ rfl _ _ 23 rfl w.heap.size 3 i0 (.int .i64 0) 1 8 Try.underlying23 hi hz0 hz1 hz2 rfl (by decide) _ _ _ rfl (HV.out.alloc _) ⟨wr.heap.size, 0, none⟩ 1 1 [.int .i64 j0] rfl rfl (cell_one_new _ _ _) (by simp [Value.oneCell']) (by unfold maxLen; omega) (by omega) (by have := HB.out.size; simp; omega) ?_; intro v' w6 hown' hgrow _)
      have O6 := Lib.hid (show w6.ownsRow w.heap.size 3 1 v' (k + 1) (intRow ((L.take (k + 1)).map (·.lot))) by rw [HS.out]; exact hown')
      have G6 := Lib.hid (HB.out.trans (((Below.refl w.heap.size wr).alloc HB.out.size (.cells #[.int .i64 j0] 3)).grown hgrow (by have := HB.out.size; simp; omega) (fun kk e => (HV.out.lt kk e).1)))
      clear hown' hgrow
      go_wp2_with fail
      go_roundw
      case rel => exact ⟨k + 1, _, hlt, by go_num, rfl, O6, G6⟩
      case measure => simp [intOf]; omega
    · have k1 : ¬ (k : Int) < (L.length : Int) := by omega
      obtain rfl : k = L.length := by omega
      have HR := Lib.hid (show IntOwn wr w.heap.size v (L.map (·.lot)) from by have h := HV.out; rw [List.take_length] at h; unfold IntOwn; rw [List.length_map]; exact h)
      go_wp2_with fail
      go_ret
      exact ⟨v, rfl, HR.out, HB.out⟩

set_option maxRecDepth 100000 in
set_option maxHeartbeats 1000000 in
theorem same_any (L M : List Int) (a : Option Addr) (c : Nat) (a' : Option Addr) (c' : Nat) (w : World) (hL : IntA w a c L) (hM : IntA w a' c' M) :
    Calls Try.prog 24 #[.slice a L.length c, .slice a' M.length c'] w fun e w' => e = .returned (.bool (decide (L = M))) ∧ Below w.heap.size w w' := by
  have hl1 := Nat.le_trans hL.1 hL.2.1; have hl2 := Nat.le_trans hM.1 hM.2.1
  unfold maxLen at hl1 hl2
  by_cases hn : L.length = M.length
  · have HL := Lib.hid hL; have HM := Lib.hid hM; have HN := Lib.hid hn
    have hb : ((L.length : Int) != (M.length : Int)) = false := by simp [hn]
    clear hL hM hn
    go_enter Try.func24, Try.ntmps24
    go_wp2_with fail
    go_loopw [5] (fun i wr => ∃ k : Nat, k ≤ L.length ∧ i = .int .i64 (k : Int) ∧ Hid (L.take k = M.take k) ∧ Hid (Below w.heap.size w wr)) (fun i _ => L.length - (intOf i).toNat)
    case atStart => exact ⟨0, by omega, rfl, Lib.hid rfl, Lib.hid (Below.refl _ _)⟩
    case round =>
      obtain ⟨k, hk, rfl, HE, HB⟩ := hrel
      by_cases hlt : k < L.length
      · have hlt2 : k < M.length := by have := HN.out; omega
        obtain ⟨b, off, rfl, hb1, hc1⟩ := (HL.out.below HB.out).2.2 k hlt
        obtain ⟨b2, off2, rfl, hb2, hc2⟩ := (HM.out.below HB.out).2.2 k hlt2
        have HY := Lib.hid (show L[k] = M[k] → L.take (k + 1) = M.take (k + 1) from fun h => by rw [List.take_succ_eq_append_getElem hlt, List.take_succ_eq_append_getElem hlt2, HE.out, h])
        have HX := Lib.hid (show L[k] ≠ M[k] → decide (L = M) = false from fun h => decide_eq_false (fun e => h (by subst e; rfl)))
        have k0 : (0 : Int) ≤ (k : Int) := by omega
        have k1 : (k : Int) < (L.length : Int) := by omega
        have k2 : (k : Int) < (M.length : Int) := by omega
        generalize L[k] = x at *
        generalize M[k] = y at *
        by_cases e0 : x = y
        · have HE2 := Lib.hid (HY.out e0)
          subst e0
          go_wp2_with fail
          go_quiet (fail)
          go_wp2_with fail
          go_roundw
          case rel => exact ⟨k + 1, hlt, by go_num, HE2, Lib.hid (below_drewN HB.out _)⟩
          case measure => simp [intOf]; omega
        · have HR := Lib.hid (HX.out e0)
          have hxb : (x != y) = true := by simp [e0]
          go_wp2_with fail
          go_quiet (fail)
          go_wp2_with fail
          go_ret
          exact ⟨ret_bool HR.out.symm, below_drewN HB.out _⟩
      · have k1 : ¬ (k : Int) < (L.length : Int) := by omega
        have HR := Lib.hid (show decide (L = M) = true from decide_eq_true (by have h := HE.out; rw [List.take_of_length_le (by omega), List.take_of_length_le (by have := HN.out; omega)] at h; exact h))
        go_wp2_with fail
        go_ret
        exact ⟨ret_bool HR.out.symm, HB.out⟩
  · have hb : ((L.length : Int) != (M.length : Int)) = true := by simp; omega
    have HR := Lib.hid (show decide (L = M) = false from decide_eq_false (fun e => hn (by rw [e])))
    clear hL hM hn
    go_enter Try.func24, Try.ntmps24
    go_wp2_with fail
    go_ret
    exact ⟨ret_bool HR.out.symm, Below.refl _ _⟩

/-! ### the examples -/
theorem lit_ints (w : World) (l : List Int) (hl : l.length ≤ 1000) : IntA (w.alloc (.cells (intRow l).toArray 3)) (some ⟨w.heap.size, 0, none⟩) l.length l := by
  have h := heap_alloc_new w (.cells (intRow l).toArray 3)
  refine ⟨Nat.le_refl _, by unfold maxLen; omega, fun i hi => ⟨w.heap.size, 0, rfl, by simp, box_cell h _ _ ?_⟩⟩
  simp [intRow, hi]
abbrev exK : Kal.Kal := Kal.book Kal.empty ⟨3, 50, 60, 1⟩
theorem ex_pick : pickP Kal.empty 3 0 5 (orderV [1, 2] 5 [jA, jB, jC]) = some jB ∧ pickP exK 3 0 5 (orderV [1, 2] 5 [jA, jB, jC]) = some jA ∧ (pickP exK 3 45 5 (orderV [] 5 [jA, jB, jC])).isSome = false := by decide +kernel
theorem ex_order : (orderV [2, 4] 0 [jA, jB, jC]).map (·.lot) = [3, 1, 2] ∧ (orderV [3] 6 [jA, jB, jC]).map (·.lot) = [2, 1, 3] ∧ lenP 5 jB = 60 ∧ batchL (orderV [2, 4] 0 [jA, jB, jC]) = [3, 1] ∧ validR [] = true ∧ validR [1, 1] = false ∧ Kal.free Kal.empty ⟨3, 50, 60, 1⟩ = true := by decide +kernel
theorem orderV_len (rs : List Int) (r : Int) (l : List Jb) : (orderV rs r l).length ≤ l.length := by
  unfold orderV; split
  · rw [order_len]; exact Nat.le_refl _
  · exact Nat.zero_le _
set_option maxRecDepth 100000 in
set_option maxHeartbeats 8000000 in
theorem sane_any (w : World) : Calls Try.prog 11 #[] w fun e w' => e = .returned (.bool true) ∧ Below w.heap.size w w' := by
  have HE := Lib.hid (example_any w)
  go_enter Try.func11, Try.ntmps11
  go_wp2_with fail
  refine HE.out.mono ?_
  rintro _ w1 ⟨a, rfl, h1, b1⟩
  have H1 := Lib.hid h1; have B1 := Lib.hid b1
  have HN := Lib.hid (new_is w1)
  clear h1 b1
  go_wp2_with fail
  refine HN.out.mono ?_
  rintro _ w2 ⟨C, rfl, c2⟩
  have C2 := Lib.hid c2
  clear c2
  have HP1 := Lib.hid (show Calls Try.prog 19 #[.pointer (some ⟨C, 0, none⟩), .int .i64 3, .int .i64 0, .slice (some ⟨w2.heap.size, 0, none⟩) 2 2, .int .i64 5, .slice a 3 3] (w2.alloc (.cells #[.int .i64 1, .int .i64 2] 3)) fun e w' => e = .returned (.tuple #[jbV jB, .bool true]) ∧ Below w2.heap.size w2 w' by
    have h2 := below_new w2 (.cells #[.int .i64 1, .int .i64 2] 3)
    have := Pick_any (C2.out.below h2) 3 0 [1, 2] (some ⟨w2.heap.size, 0, none⟩) 2 5 [jA, jB, jC] a 3 (by unfold Fits; omega) (lit_ints w2 [1, 2] (by simp)) (by simp) (by simp) (H1.out.below (below_step C2.out.bel h2))
    rw [ex_pick.1] at this
    exact this.mono fun e w' h => ⟨h.1, below_step h2 h.2⟩)
  go_wp2_with fail
  refine HP1.out.mono ?_
  rintro _ w3 ⟨rfl, b3⟩
  have B3 := Lib.hid b3
  clear b3 HP1
  have HB4 := Lib.hid (below_step B3.out (below_new w3 (.cells #[.int .i64 2, .int .i64 6, .bool true, .int .i64 95, .int .i64 1, .int .i64 40, .int .i64 25] 43)))
  have HX4 := Lib.hid (show (w3.alloc (.cells #[.int .i64 2, .int .i64 6, .bool true, .int .i64 95, .int .i64 1, .int .i64 40, .int .i64 25] 43)).cell? ⟨w3.heap.size, 0, none⟩ = some (.int .i64 2) by go_simp)
  have HBk := Lib.hid (fun (W : World) (h : Below w2.heap.size w2 W) => book_off (W := w1) ⟨3, 50, 60, 1⟩ (C2.out.off h))
  rw [ex_order.2.2.2.2.2.2] at HBk
  go_wp2_with fail
  generalize w3.alloc (.cells #[.int .i64 2, .int .i64 6, .bool true, .int .i64 95, .int .i64 1, .int .i64 40, .int .i64 25] 43) = w4 at *
  have HBk4 := Lib.hid (HBk.out w4 HB4.out)
  simp only [if_true] at HBk4
  refine HBk4.out.mono ?_
  rintro _ w5 ⟨rfl, c5, h5⟩
  have C5 := Lib.hid c5.is
  have HX5 := Lib.hid (cell_ch h5 HX4.out (fun h => h.1 B3.out.size))
  clear c5 h5 HBk HBk4
  have HP2 := Lib.hid (show Calls Try.prog 19 #[.pointer (some ⟨C, 0, none⟩), .int .i64 3, .int .i64 0, .slice (some ⟨w5.heap.size, 0, none⟩) 2 2, .int .i64 5, .slice a 3 3] (w5.alloc (.cells #[.int .i64 1, .int .i64 2] 3)) fun e w' => e = .returned (.tuple #[jbV jA, .bool true]) ∧ Below w5.heap.size w5 w' by
    have h2 := below_new w5 (.cells #[.int .i64 1, .int .i64 2] 3)
    have := Pick_any (C5.out.below h2) 3 0 [1, 2] (some ⟨w5.heap.size, 0, none⟩) 2 5 [jA, jB, jC] a 3 (by unfold Fits; omega) (lit_ints w5 [1, 2] (by simp)) (by simp) (by simp) (H1.out.below (below_step C5.out.bel h2))
    rw [show Kal.book Kal.empty ⟨3, 50, 60, 1⟩ = exK from rfl, ex_pick.2.1] at this
    exact this.mono fun e w' h => ⟨h.1, below_step h2 h.2⟩)
  go_wp2_with fail
  refine HP2.out.mono ?_
  rintro _ w6 ⟨rfl, b6⟩
  have HB7 := Lib.hid (below_step b6 (below_new w6 (.cells #[.int .i64 1, .int .i64 5, .bool false, .int .i64 90, .int .i64 3, .int .i64 30, .int .i64 25] 43)))
  have HX7 := Lib.hid (show (w6.alloc (.cells #[.int .i64 1, .int .i64 5, .bool false, .int .i64 90, .int .i64 3, .int .i64 30, .int .i64 25] 43)).cell? ⟨w6.heap.size, 0, none⟩ = some (.int .i64 1) by go_simp)
  clear b6 HP2
  have HP3 := Lib.hid (show ∀ W, Below w5.heap.size w5 W → Calls Try.prog 19 #[.pointer (some ⟨C, 0, none⟩), .int .i64 3, .int .i64 45, .slice none 0 0, .int .i64 5, .slice a 3 3] W fun e w' => (∃ j, e = .returned (.tuple #[jbV j, .bool false])) ∧ Below W.heap.size W w' by
    intro W hW
    have := Pick_any (C5.out.below hW) 3 45 [] none 0 5 [jA, jB, jC] a 3 (by unfold Fits; omega) (IntA.nil W) (by simp) (by simp) (H1.out.below (below_step C5.out.bel hW))
    refine this.mono fun e w' h => ⟨⟨(pickP exK 3 45 5 (orderV [] 5 [jA, jB, jC])).getD zeroJ, ?_⟩, h.2⟩
    rw [h.1]; unfold pickV
    rw [show Kal.book Kal.empty ⟨3, 50, 60, 1⟩ = exK from rfl, ex_pick.2.2])
  go_wp2_with fail
  generalize w6.alloc (.cells #[.int .i64 1, .int .i64 5, .bool false, .int .i64 90, .int .i64 3, .int .i64 30, .int .i64 25] 43) = w7 at *
  have HP3' := Lib.hid (HP3.out w7 HB7.out)
  refine HP3'.out.mono ?_
  rintro _ w8 ⟨⟨j, rfl⟩, b8⟩
  obtain ⟨j0, j1, j2, j3, j4, j5, j6⟩ := j
  have b9 := below_step b8 (below_new w8 (.cells #[.int .i64 j0, .int .i64 j1, .bool j2, .int .i64 j3, .int .i64 j4, .int .i64 j5, .int .i64 j6] 43))
  have HX9 := Lib.hid (show (w8.alloc (.cells #[.int .i64 j0, .int .i64 j1, .bool j2, .int .i64 j3, .int .i64 j4, .int .i64 j5, .int .i64 j6] 43)).cell? ⟨w6.heap.size, 0, none⟩ = some (.int .i64 1) from cell_below b9 HX7.out)
  have HY9 := Lib.hid (show (w8.alloc (.cells #[.int .i64 j0, .int .i64 j1, .bool j2, .int .i64 j3, .int .i64 j4, .int .i64 j5, .int .i64 j6] 43)).cell? ⟨w3.heap.size, 0, none⟩ = some (.int .i64 2) from cell_below b9 (cell_below HB7.out HX5.out))
  have H9 := Lib.hid (H1.out.below (below_step C5.out.bel (below_step HB7.out b9)))
  have B9 := Lib.hid (below_step B1.out (below_step C5.out.bel (below_step HB7.out b9)))
  clear b8 b9 HP3' HP3
  have HW9 := Lib.hid (show (w8.alloc (.cells #[.int .i64 j0, .int .i64 j1, .bool j2, .int .i64 j3, .int .i64 j4, .int .i64 j5, .int .i64 j6] 43)).heap.size = w8.heap.size + 1 by simp)
  go_wp2_with fail
  generalize w8.alloc (.cells #[.int .i64 j0, .int .i64 j1, .bool j2, .int .i64 j3, .int .i64 j4, .int .i64 j5, .int .i64 j6] 43) = w9 at *
  have HO10 := Lib.hid (show Calls Try.prog 22 #[.slice (some ⟨w8.heap.size + 1, 0, none⟩) 2 2, .int .i64 0, .slice a 3 3] (w9.alloc (.cells #[.int .i64 2, .int .i64 4] 3)) (NewJobs (w9.alloc (.cells #[.int .i64 2, .int .i64 4] 3)) (orderV [2, 4] 0 [jA, jB, jC])) by
    have h := Order_any [2, 4] (some ⟨w9.heap.size, 0, none⟩) 2 0 [jA, jB, jC] a 3 _ (lit_ints w9 [2, 4] (by simp)) (by simp) (by simp) (H9.out.below (below_new w9 _))
    rw [HW9.out] at h
    exact h)
  unfold NewJobs at HO10
  refine HO10.out.mono ?_
  rintro _ w10 ⟨v10, rfl, o10, b10⟩
  obtain ⟨a10, c10, rfl, ja10, -⟩ := o10.arg
  have JA10 := Lib.hid ja10
  have BB10 := Lib.hid (below_step (below_new w9 (.cells #[.int .i64 2, .int .i64 4] 3)) b10)
  have HL10 := Lib.hid (lots_any _ _ _ _ JA10.out (Nat.le_trans (orderV_len _ _ _) (by simp)))
  rw [ex_order.1] at HL10
  unfold NewInts at HL10
  clear o10 b10 ja10 HO10
  generalize orderV [2, 4] 0 [jA, jB, jC] = L10 at *
  go_wp2_with fail
  refine HL10.out.mono ?_
  rintro _ w11 ⟨u10, rfl, p10, q10⟩
  obtain ⟨d10, e10, rfl, ia10⟩ := p10.arg
  have IA10 := Lib.hid ia10
  have BQ10 := Lib.hid (below_step BB10.out (below_step q10 (below_new w11 (.cells #[.int .i64 3, .int .i64 1, .int .i64 2] 3))))
  have HS10 := Lib.hid (show Calls Try.prog 24 #[.slice d10 3 e10, .slice (some ⟨w11.heap.size, 0, none⟩) 3 3] (w11.alloc (.cells #[.int .i64 3, .int .i64 1, .int .i64 2] 3)) fun e w' => e = .returned (.bool true) ∧ Below (w11.alloc (.cells #[.int .i64 3, .int .i64 1, .int .i64 2] 3)).heap.size (w11.alloc (.cells #[.int .i64 3, .int .i64 1, .int .i64 2] 3)) w' by
    have h := same_any [3, 1, 2] [3, 1, 2] d10 e10 (some ⟨w11.heap.size, 0, none⟩) 3 _ (IA10.out.below (below_new w11 _)) (lit_ints w11 [3, 1, 2] (by simp))
    rw [show decide (([3, 1, 2] : List Int) = [3, 1, 2]) = true from by decide] at h
    exact h)
  clear p10 q10 ia10 HL10
  go_wp2_with fail
  refine HS10.out.mono ?_
  rintro _ w12 ⟨rfl, s10⟩
  have BS10 := Lib.hid (below_step BQ10.out s10)
  have H12 := Lib.hid (H9.out.below BS10.out)
  clear s10 HS10
  go_wp2_with fail
  have HO13 := Lib.hid (show Calls Try.prog 22 #[.slice (some ⟨w12.heap.size, 0, none⟩) 1 1, .int .i64 6, .slice a 3 3] (w12.alloc (.cells #[.int .i64 3] 3)) (NewJobs (w12.alloc (.cells #[.int .i64 3] 3)) (orderV [3] 6 [jA, jB, jC])) by
    have h := Order_any [3] (some ⟨w12.heap.size, 0, none⟩) 1 6 [jA, jB, jC] a 3 _ (lit_ints w12 [3] (by simp)) (by simp) (by simp) (H12.out.below (below_new w12 _))
    exact h)
  unfold NewJobs at HO13
  refine HO13.out.mono ?_
  rintro _ w13 ⟨v13, rfl, o13, b13⟩
  obtain ⟨a13, c13, rfl, ja13, -⟩ := o13.arg
  have JA13 := Lib.hid ja13
  have BB13 := Lib.hid (below_step (below_new w12 (.cells #[.int .i64 3] 3)) b13)
  have HL13 := Lib.hid (lots_any _ _ _ _ JA13.out (Nat.le_trans (orderV_len _ _ _) (by simp)))
  rw [ex_order.2.1] at HL13
  unfold NewInts at HL13
  clear o13 b13 ja13 HO13
  generalize orderV [3] 6 [jA, jB, jC] = L13 at *
  go_wp2_with fail
  refine HL13.out.mono ?_
  rintro _ w14 ⟨u13, rfl, p13, q13⟩
  obtain ⟨d13, e13, rfl, ia13⟩ := p13.arg
  have IA13 := Lib.hid ia13
  have BQ13 := Lib.hid (below_step BB13.out (below_step q13 (below_new w14 (.cells #[.int .i64 2, .int .i64 1, .int .i64 3] 3))))
  have HS13 := Lib.hid (show Calls Try.prog 24 #[.slice d13 3 e13, .slice (some ⟨w14.heap.size, 0, none⟩) 3 3] (w14.alloc (.cells #[.int .i64 2, .int .i64 1, .int .i64 3] 3)) fun e w' => e = .returned (.bool true) ∧ Below (w14.alloc (.cells #[.int .i64 2, .int .i64 1, .int .i64 3] 3)).heap.size (w14.alloc (.cells #[.int .i64 2, .int .i64 1, .int .i64 3] 3)) w' by
    have h := same_any [2, 1, 3] [2, 1, 3] d13 e13 (some ⟨w14.heap.size, 0, none⟩) 3 _ (IA13.out.below (below_new w14 _)) (lit_ints w14 [2, 1, 3] (by simp))
    rw [show decide (([2, 1, 3] : List Int) = [2, 1, 3]) = true from by decide] at h
    exact h)
  clear p13 q13 ia13 HL13
  go_wp2_with fail
  refine HS13.out.mono ?_
  rintro _ w15 ⟨rfl, s13⟩
  have BS13 := Lib.hid (below_step BQ13.out s13)
  have H15 := Lib.hid (H12.out.below BS13.out)
  clear s13 HS13
  have y15 := cell_below (below_step BS10.out BS13.out) HY9.out
  have x15 := cell_below (below_step BS10.out BS13.out) HX9.out
  obtain ⟨ab, ao, rfl, hab, g0, g1, g2, g3, g4, g5, g6⟩ := H15.out.2.2 1 (by simp)
  have g0' : w15.cell? ⟨ab, ao + 7, none⟩ = some (.int .i64 2) := g0
  have g1' : w15.cell? ⟨ab, ao + 7 + 1, none⟩ = some (.int .i64 6) := g1
  have g2' : w15.cell? ⟨ab, ao + 7 + 2, none⟩ = some (.bool true) := g2
  have g3' : w15.cell? ⟨ab, ao + 7 + 3, none⟩ = some (.int .i64 95) := g3
  have g4' : w15.cell? ⟨ab, ao + 7 + 4, none⟩ = some (.int .i64 1) := g4
  have g5' : w15.cell? ⟨ab, ao + 7 + 5, none⟩ = some (.int .i64 40) := g5
  have g6' : w15.cell? ⟨ab, ao + 7 + 6, none⟩ = some (.int .i64 25) := g6
  clear g0 g1 g2 g3 g4 g5 g6
  have HLn := Lib.hid (Length_any 5 jB w15 (by simp))
  rw [ex_order.2.2.1] at HLn
  go_wp2_with fail
  refine HLn.out.mono ?_
  rintro _ w16 ⟨rfl, b16⟩
  have H16 := Lib.hid (H15.out.below b16)
  have BF := Lib.hid (below_step B9.out (below_step BS10.out (below_step BS13.out b16)))
  clear b16 HLn
  have HBt := Lib.hid (show Calls Try.prog 25 #[.slice (some ⟨w16.heap.size, 0, none⟩) 2 2, .slice (some ⟨ab, ao, none⟩) 3 3] (w16.alloc (.cells #[.int .i64 2, .int .i64 4] 3)) (NewInts (w16.alloc (.cells #[.int .i64 2, .int .i64 4] 3)) [3, 1]) by
    have h := Batch_any [2, 4] (some ⟨w16.heap.size, 0, none⟩) 2 [jA, jB, jC] (some ⟨ab, ao, none⟩) 3 _ (lit_ints w16 [2, 4] (by simp)) (by simp) (by simp) (H16.out.below (below_new w16 _))
    rw [ex_order.2.2.2.1] at h
    exact h)
  unfold NewInts at HBt
  go_wp2_with fail
  refine HBt.out.mono ?_
  rintro _ w17 ⟨u17, rfl, p17, q17⟩
  obtain ⟨d17, e17, rfl, ia17⟩ := p17.arg
  have BQ17 := Lib.hid (below_step BF.out (below_step (below_new w16 (.cells #[.int .i64 2, .int .i64 4] 3)) (below_step q17 (below_new w17 (.cells #[.int .i64 3, .int .i64 1] 3)))))
  have HS17 := Lib.hid (show Calls Try.prog 24 #[.slice d17 2 e17, .slice (some ⟨w17.heap.size, 0, none⟩) 2 2] (w17.alloc (.cells #[.int .i64 3, .int .i64 1] 3)) fun e w' => e = .returned (.bool true) ∧ Below (w17.alloc (.cells #[.int .i64 3, .int .i64 1] 3)).heap.size (w17.alloc (.cells #[.int .i64 3, .int .i64 1] 3)) w' by
    have h := same_any [3, 1] [3, 1] d17 e17 (some ⟨w17.heap.size, 0, none⟩) 2 _ (ia17.below (below_new w17 _)) (lit_ints w17 [3, 1] (by simp))
    rw [show decide (([3, 1] : List Int) = [3, 1]) = true from by decide] at h
    exact h)
  clear p17 q17 ia17 HBt
  go_wp2_with fail
  refine HS17.out.mono ?_
  rintro _ w18 ⟨rfl, s18⟩
  have B18 := Lib.hid (below_step BQ17.out s18)
  have HV0 := Lib.hid (show Calls Try.prog 27 #[.slice none 0 0] w18 fun e w' => e = .returned (.bool true) ∧ Below w18.heap.size w18 w' by
    have h := DValid_any [] none 0 w18 (IntA.nil w18)
    rw [ex_order.2.2.2.2.1] at h; exact h)
  clear s18
  go_wp2_with fail
  refine HV0.out.mono ?_
  rintro _ w19 ⟨rfl, s19⟩
  have B19 := Lib.hid (below_step B18.out (below_step s19 (below_new w19 (.cells #[.int .i64 1, .int .i64 1] 3))))
  have HV1 := Lib.hid (show Calls Try.prog 27 #[.slice (some ⟨w19.heap.size, 0, none⟩) 2 2] (w19.alloc (.cells #[.int .i64 1, .int .i64 1] 3)) fun e w' => e = .returned (.bool false) ∧ Below (w19.alloc (.cells #[.int .i64 1, .int .i64 1] 3)).heap.size (w19.alloc (.cells #[.int .i64 1, .int .i64 1] 3)) w' by
    have h := DValid_any [1, 1] (some ⟨w19.heap.size, 0, none⟩) 2 _ (lit_ints w19 [1, 1] (by simp))
    rw [ex_order.2.2.2.2.2.1] at h; exact h)
  clear s19
  go_wp2_with fail
  refine HV1.out.mono ?_
  rintro _ w20 ⟨rfl, s20⟩
  have B20 := Lib.hid (below_step B19.out s20)
  clear s20
  go_wp2_with fail
  go_ret
  exact ⟨rfl, B20.out⟩
end Go.Proofs.Ytjdhjlhcdpekbaa
