/-
  The walk of FactDecodedAgain: it returns true for all arguments. Condition: the table reads as the program's text lays it.
-/
import Derived.Test.YtnmjcjkjdbkpnaaDoorRtW
namespace Go.Proofs.YtnmjcjkjdbkpnaaDoor
open Go.RowKit Go.Shelf Fc
attribute [local go_sem] Oper.semAt_some
set_option maxRecDepth 100000 in
set_option maxHeartbeats 8000000 in
theorem again_walk (s : ByteArray) (W : World) (ht : Tab W) (hs : s.size ≤ maxLen) : Calls Tryd.prog 6 #[.string s] W fun e w' => e = .returned (.bool true) ∧ Below W.heap.size W w' := by
  unfold maxLen at hs
  have HT := Lib.hid ht
  clear ht
  go_enter Tryd.func6, Tryd.ntmps6
  go_wp2_with fail
  refine (sane_any W HT.out).mono ?_; rintro e w1 ⟨rfl, g1⟩
  have HT1 := Lib.hid (HT.out.below g1)
  have HB1 := Lib.hid g1
  clear g1 HT
  go_upto_region 3 with (fail)
  have hT3 := cutT_size 300 s
  have eT : s.extract 0 (min (s.size : Int) 300).toNat = cutT 300 s := rfl
  rw [eT]
  clear eT hs
  generalize cutT 300 s = T at *
  have hTm : T.size ≤ maxLen := by unfold maxLen; omega
  cases hD : decR T.data.toList with
  | error n =>
    have HD := Lib.hid (show Calls Tryd.prog 22 #[.string T] w1 fun e w' => e = .returned (.tuple #[factV ex0, .int .i64 n]) ∧ Below w1.heap.size w1 w' from dec_no hTm HT1.out hD)
    have hn := dec_err hD
    have hEq := fun V => run_factEq ex0 ex0 V
    rw [decide_eq_true (rfl : ex0 = ex0)] at hEq
    have hGu := run_factGuard
    clear hD hTm
    go_wp2_with fail
    refine HD.out.mono ?_; rintro e w2 ⟨rfl, g2⟩
    have HB2 := Lib.hid (below_step HB1.out g2)
    clear g2 HD HB1 HT1
    go_upto_region 4 with (refine wpList_store_new rfl rfl _ _ rfl ex0 rfl rfl _ rfl ?_)
    have HB3 := Lib.hid (below_step HB2.out (below_new w2 (factObj ex0)))
    have HF3 := Lib.hid (heap_alloc_new w2 (factObj ex0))
    generalize w2.alloc (factObj ex0) = w3 at *
    rcases hn with rfl | rfl
    · go_wp2_with (refine wpList_load_factW (by rfl) _ rfl _ rfl ex0 HF3.out ?_)
      go_ret
      exact ⟨rfl, HB3.out⟩
    · go_wp2_with (refine wpList_load_factW (by rfl) _ rfl _ rfl ex0 HF3.out ?_)
      go_ret
      exact ⟨rfl, HB3.out⟩
  | ok F =>
    have HD := Lib.hid (dec_at hTm HT1.out hD)
    obtain ⟨hv, he⟩ := enc_dec hD
    have hFm : F.tx.size ≤ maxLen := by have := (text_len hv).1; have h2 : F.tx.data.toList.length = F.tx.size := by simp
                                        unfold maxLen; omega
    have HE := Lib.hid (fun V h => enc_at (F := F) (w := V) hFm h hv)
    rw [he, show bs T.data.toList = T from mk_self T] at HE
    have HV := Lib.hid (fun V h => valid_any F V h hFm)
    unfold BoolPost at HV
    rw [hv] at HV
    clear hD hTm hv he hFm
    go_wp2_with fail
    refine HD.out.mono ?_; rintro e w2 ⟨rfl, g2⟩
    have HB2 := Lib.hid (below_step HB1.out g2)
    have HT2 := Lib.hid (HT1.out.below g2)
    clear g2 HD HB1 HT1
    go_upto_region 4 with (refine wpList_store_new rfl rfl _ _ rfl F rfl rfl _ rfl ?_)
    have g3 := below_new w2 (factObj F)
    have HF3 := Lib.hid (heap_alloc_new w2 (factObj F))
    have HT3 := Lib.hid (HT2.out.below g3)
    have HB3 := Lib.hid (below_step HB2.out g3)
    clear g3 HT2 HB2 
    generalize w2.alloc (factObj F) = w3 at *
    go_wp2_with (refine wpList_load_fact rfl _ rfl _ rfl F HF3.out ?_)
    refine (HE.out _ HT3.out).mono ?_; rintro e w4 ⟨rfl, g4⟩
    have HT4 := Lib.hid (HT3.out.below g4)
    have HB4 := Lib.hid (below_step HB3.out g4)
    have HF4 := Lib.hid (box_below HF3.out g4)
    clear g4 HT3 HB3 HF3
    go_wp2_with (refine wpList_load_factW (by rfl) _ rfl _ rfl F HF4.out ?_)
    refine (HV.out _ HT4.out).mono ?_; rintro e w5 ⟨rfl, g5⟩
    have HT5 := Lib.hid (HT4.out.below g5)
    have HB5 := Lib.hid (below_step HB4.out g5)
    have HF5 := Lib.hid (box_below HF4.out g5)
    clear g5 HT4 HB4 HF4
    go_wp2_with fail
    go_ret
    exact ⟨rfl, HB5.out⟩
end Go.Proofs.YtnmjcjkjdbkpnaaDoor
