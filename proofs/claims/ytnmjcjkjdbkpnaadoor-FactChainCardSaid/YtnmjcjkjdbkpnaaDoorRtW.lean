/-
  The walk of FactRoundTrip: it returns true for all arguments. Condition: the table reads as the program's text lays it.
-/
import Derived.Test.YtnmjcjkjdbkpnaaDoorCut
namespace Go.Proofs.YtnmjcjkjdbkpnaaDoor
open Go.RowKit Go.Shelf Fc
attribute [local go_sem] Oper.semAt_some
theorem enc_len (F : Fact) : (encB F).length ≤ 70000 := by
  unfold encB
  have h1 := numsB_len (headN F)
  have h2 := numsB_len (vals F (fieldsL F.k))
  have h3 := fields_len F.k
  have h4 := pstr_len F.tx
  unfold vals at h2
  rw [List.length_map] at h2
  rw [show (headN F).length = 4 from rfl] at h1
  rw [List.length_append, List.length_append]
  split
  · unfold vals; omega
  · simp only [List.length_nil]; unfold vals; omega
theorem encS_max (F : Fact) : (bs (encB F)).size ≤ maxLen := by rw [bs_size]; have := enc_len F; unfold maxLen; omega
set_option maxRecDepth 100000 in
set_option maxHeartbeats 8000000 in
theorem round_walk (F : Fact) (W : World) (ht : Tab W) (hs : F.tx.size ≤ maxLen) : Calls Tryd.prog 5 #[factV F] W fun e w' => e = .returned (.bool true) ∧ Below W.heap.size W w' := by
  have HTn := Lib.hid ht.1
  have HF := Lib.hid (heap_alloc_new W (factObj F))
  have HB := Lib.hid (below_new W (factObj F))
  have HT := Lib.hid (ht.below HB.out)
  have HS0 := Lib.hid hs
  clear ht hs
  go_enter Tryd.func5, Tryd.ntmps5
  go_upto_region 1 with (fail)
  generalize W.alloc (factObj F) = w1 at *
  go_wp2_with fail
  refine (sane_any w1 HT.out).mono ?_; rintro e w2 ⟨rfl, g2⟩
  have HT2 := Lib.hid (HT.out.below g2)
  have HB2 := Lib.hid (below_step HB.out g2)
  have HF2 := Lib.hid (box_below HF.out g2)
  clear g2 HT HB HF
  go_wp2_with (refine wpList_load_fact rfl _ rfl _ rfl F HF2.out ?_)
  refine (cut_any F w2 HS0.out).mono ?_; rintro e w3 ⟨rfl, g3⟩
  have HT3 := Lib.hid (HT2.out.below g3)
  have HB3 := Lib.hid (below_step HB2.out g3)
  have HF3 := Lib.hid (box_below HF2.out g3)
  clear g3 HT2 HB2 HF2
  have HF4 := Lib.hid (setRow_heap w3 W.heap.size _ (factC (cutF F)) _ _ HF3.out)
  have HC4 := row_ch w3 W.heap.size (factC (cutF F))
  have HB4 := Lib.hid (HB3.out.trans (HC4.below (B := W.heap.size) (Nat.le_of_lt (lt_of_block HF3.out)) (fun k e => by omega)))
  have HT4 := Lib.hid (HT3.out.ch HC4 (fun e => by have := HTn.out; omega))
  have HS := Lib.hid (cutF_max F)
  clear HC4 HT3 HB3 HS0
  go_upto_region 3 with (refine wpList_store_at rfl rfl _ _ rfl W.heap.size (cutF F) rfl rfl _ HF3.out rfl ?_)
  clear HF3
  generalize w3.setRow W.heap.size (factC (cutF F)) = w4 at *
  generalize cutF F = G at *
  cases hv : validB G with
  | false =>
    have HE := Lib.hid (enc_no (F := G) (w := w4) HS.out HT4.out hv)
    have HV := Lib.hid (fun V h => valid_any G V h HS.out)
    have HK := Lib.hid (fun V h => key_any G V h HS.out)
    unfold BoolPost at HV
    unfold StrPost at HK
    rw [hv] at HV
    rw [key_nil.2 hv] at HK
    clear hv
    go_wp2_with (refine wpList_load_fact rfl _ rfl _ rfl G HF4.out ?_)
    refine HE.out.mono ?_; rintro e w5 ⟨rfl, g5⟩
    have HT5 := Lib.hid (HT4.out.below g5)
    have HB5 := Lib.hid (below_step HB4.out g5)
    have HF5 := Lib.hid (box_below HF4.out g5)
    clear g5 HT4 HB4 HF4
    go_wp2_with (refine wpList_load_fact rfl _ rfl _ rfl G HF5.out ?_)
    refine (HV.out _ HT5.out).mono ?_; rintro e w6 ⟨rfl, g6⟩
    have HT6 := Lib.hid (HT5.out.below g6)
    have HB6 := Lib.hid (below_step HB5.out g6)
    have HF6 := Lib.hid (box_below HF5.out g6)
    clear g6 HT5 HB5 HF5
    go_wp2_with (refine wpList_load_factW (by rfl) _ rfl _ rfl G HF6.out ?_)
    refine (HK.out _ HT6.out).mono ?_; rintro e w7 ⟨rfl, g7⟩
    have HT7 := Lib.hid (HT6.out.below g7)
    have HB7 := Lib.hid (below_step HB6.out g7)
    have HF7 := Lib.hid (box_below HF6.out g7)
    clear g7 HT6 HB6 HF6
    go_wp2_with fail
    go_ret
    exact ⟨rfl, HB7.out⟩
  | true =>
    have HE := Lib.hid (enc_at (F := G) (w := w4) HS.out HT4.out hv)
    have HV := Lib.hid (fun V h => valid_any G V h HS.out)
    unfold BoolPost at HV
    rw [hv] at HV
    have HD := Lib.hid (fun V h => dec_at (s := bs (encB G)) (w := V) (F := G) (encS_max G) h (by rw [mk_list]; exact dec_enc hv))
    have hEq := fun V => run_factEq G G V
    rw [decide_eq_true (rfl : G = G)] at hEq
    have hGu := run_factGuard
    clear hv
    generalize bs (encB G) = S at *
    go_wp2_with (refine wpList_load_fact rfl _ rfl _ rfl G HF4.out ?_)
    refine HE.out.mono ?_; rintro e w5 ⟨rfl, g5⟩
    have HT5 := Lib.hid (HT4.out.below g5)
    have HB5 := Lib.hid (below_step HB4.out g5)
    have HF5 := Lib.hid (box_below HF4.out g5)
    clear g5 HT4 HB4 HF4
    go_wp2_with (refine wpList_load_fact rfl _ rfl _ rfl G HF5.out ?_)
    refine (HV.out _ HT5.out).mono ?_; rintro e w6 ⟨rfl, g6⟩
    have HT6 := Lib.hid (HT5.out.below g6)
    have HB6 := Lib.hid (below_step HB5.out g6)
    have HF6 := Lib.hid (box_below HF5.out g6)
    clear g6 HT5 HB5 HF5
    go_wp2_with fail
    refine (HD.out _ HT6.out).mono ?_; rintro e w7 ⟨rfl, g7⟩
    have HT7 := Lib.hid (HT6.out.below g7)
    have HB7 := Lib.hid (below_step HB6.out g7)
    have HF7 := Lib.hid (box_below HF6.out g7)
    clear g7 HT6 HB6 HF6
    go_upto_region 7 with (refine wpList_store_new rfl rfl _ _ rfl G rfl rfl _ rfl ?_)
    have g8 := below_new w7 (factObj G)
    have HG8 := Lib.hid (heap_alloc_new w7 (factObj G))
    have HT8 := Lib.hid (HT7.out.below g8)
    have HB8 := Lib.hid (below_step HB7.out g8)
    have HF8 := Lib.hid (box_below HF7.out g8)
    clear g8 HT7 HB7 HF7
    generalize w7.alloc (factObj G) = w8 at *
    go_wp2_with (first | (refine wpList_load_factW (by rfl) _ rfl _ rfl G HF8.out ?_) | (refine wpList_load_factW (by rfl) _ rfl _ rfl G HG8.out ?_))
    go_ret
    exact ⟨rfl, HB8.out⟩
end Go.Proofs.YtnmjcjkjdbkpnaaDoor
