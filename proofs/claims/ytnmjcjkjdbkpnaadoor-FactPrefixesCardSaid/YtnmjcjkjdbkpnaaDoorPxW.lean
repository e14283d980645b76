/-
  The walk of FactPrefixes: it returns true for all arguments. Condition: the table reads as the program's text lays it.
-/
import Derived.Test.YtnmjcjkjdbkpnaaDoorRtW
namespace Go.Proofs.YtnmjcjkjdbkpnaaDoor
open Go.RowKit Go.Shelf Fc
attribute [local go_sem] Oper.semAt_some
theorem dec_short {F : Fact} (h : validB F = true) (k : Nat) (hk : k < (bs (encB F)).size) : ∃ n, (n = 10 ∨ n = 150) ∧ decR ((bs (encB F)).extract 0 k).data.toList = .error n := by
  rw [bs_size] at hk
  have e : ((bs (encB F)).extract 0 k).data.toList = (encB F).take k := by rw [Lib.extract_data, mk_list]; simp
  rw [e]
  cases hd : decR ((encB F).take k) with
  | ok G => exact absurd hd (dec_cut h hk G)
  | error n => exact ⟨n, dec_err hd, rfl⟩
theorem dec_long {F : Fact} (h : validB F = true) (r : ByteArray) : decR (bs (encB F) ++ r).data.toList = if r.data.toList = [] then .ok F else .error 10 := by
  have e : (bs (encB F) ++ r).data.toList = encB F ++ r.data.toList := by simp [mk_list]
  rw [e]; exact dec_more h _
set_option maxRecDepth 100000 in
set_option maxHeartbeats 8000000 in
theorem prefixes_walk (F : Fact) (m : ByteArray) (W : World) (ht : Tab W) (hs : F.tx.size ≤ maxLen) (hm : m.size ≤ maxLen) : Calls Tryd.prog 7 #[factV F, .string m] W fun e w' => e = .returned (.bool true) ∧ Below W.heap.size W w' := by
  have HTn := Lib.hid ht.1
  have HF := Lib.hid (heap_alloc_new W (factObj F))
  have HB := Lib.hid (below_new W (factObj F))
  have HT := Lib.hid (ht.below HB.out)
  unfold maxLen at hs hm
  clear ht
  go_enter Tryd.func7, Tryd.ntmps7
  go_upto_region 1 with (fail)
  generalize W.alloc (factObj F) = w1 at *
  go_wp2_with fail
  refine (sane_any w1 HT.out).mono ?_; rintro e w2 ⟨rfl, g2⟩
  have HT2 := Lib.hid (HT.out.below g2)
  have HB2 := Lib.hid (below_step HB.out g2)
  have HF2 := Lib.hid (box_below HF.out g2)
  clear g2 HT HB HF
  have c18 := box_cell HF2.out 18 (.string F.tx) rfl
  have z18 := box_fz HF2.out 18
  have l18 := lt_of_block HF2.out
  have HF3 := Lib.hid (show (w2.setCell ⟨W.heap.size, 18, none⟩ (.string (cutT 100 F.tx))).heap[W.heap.size]? = some (factObj { F with tx := cutT 100 F.tx }) from block_set HF2.out (o := 18) _)
  have HC := one_ch w2 W.heap.size 18 (.string (cutT 100 F.tx))
  have HB3 := Lib.hid (HB2.out.trans (HC.below (B := W.heap.size) (Nat.le_of_lt l18) (fun k e => by omega)))
  have HT3 := Lib.hid (HT2.out.ch HC (fun e => by have := HTn.out; omega))
  have HS := Lib.hid (show (cutT 100 F.tx).size ≤ maxLen from by have := cutT_size 100 F.tx; unfold maxLen; omega)
  clear HC HT2 HB2
  go_upto_region 3 with (fail)
  rw [show w2.setCell ⟨W.heap.size, 18, none⟩ (.string (F.tx.extract 0 (min (F.tx.size : Int) 100).toNat)) = w2.setCell ⟨W.heap.size, 18, none⟩ (.string (cutT 100 F.tx)) from rfl]
  clear c18 z18 l18 HF2 hs
  generalize w2.setCell ⟨W.heap.size, 18, none⟩ (.string (cutT 100 F.tx)) = w3 at *
  have HS2 := Lib.hid (show ({ F with tx := cutT 100 F.tx } : Fact).tx.size ≤ maxLen from HS.out)
  clear HS
  generalize ({ F with tx := cutT 100 F.tx } : Fact) = G at *
  cases hv : validB G with
  | false =>
    have HE := Lib.hid (enc_no (F := G) (w := w3) HS2.out HT3.out hv)
    clear hv
    go_wp2_with (refine wpList_load_fact rfl _ rfl _ rfl G HF3.out ?_)
    refine HE.out.mono ?_; rintro e w4 ⟨rfl, g4⟩
    have HT4 := Lib.hid (HT3.out.below g4)
    have HB4 := Lib.hid (below_step HB3.out g4)
    have HF4 := Lib.hid (box_below HF3.out g4)
    clear g4 HT3 HB3 HF3
    go_wp2_with fail
    go_ret
    exact ⟨rfl, HB4.out⟩
  | true =>
    have HE := Lib.hid (enc_at (F := G) (w := w3) HS2.out HT3.out hv)
    have HX := Lib.hid (dec_short hv)
    have HL := Lib.hid (dec_long hv)
    have hlen : (bs (encB G)).size ≤ 70000 := by rw [bs_size]; exact enc_len G
    clear hv
    generalize bs (encB G) = S at *
    go_wp2_with (refine wpList_load_fact rfl _ rfl _ rfl G HF3.out ?_)
    refine HE.out.mono ?_; rintro e w4 ⟨rfl, g4⟩
    have HTW := Lib.hid HT3.out
    have HT4 := Lib.hid (HT3.out.below g4)
    have HB4 := Lib.hid (below_step HB3.out g4)
    have HF4 := Lib.hid (box_below HF3.out g4)
    clear g4 HT3 HB3 HF3
    clear HE
    go_wp2_with fail
    go_loopw [8] (fun i wr => ∃ k : Nat, k ≤ S.size ∧ i = .int .i64 k ∧ Tab wr ∧ Below W.heap.size W wr) (fun i _ => S.size - (intOf i).toNat)
    case atStart => exact ⟨0, by omega, rfl, HT4.out, HB4.out⟩
    case round =>
      obtain ⟨k, hk, rfl, ht5, hb5⟩ := hrel
      have HT5 := Lib.hid ht5
      have HB5 := Lib.hid hb5
      clear ht5 hb5
      by_cases h2 : k < S.size
      · obtain ⟨n, hn, hd⟩ := HX.out k h2
        have HD := Lib.hid (dec_no (s := S.extract 0 k) (w := wr) (n := n) (by unfold maxLen; rw [ByteArray.size_extract]; omega) HT5.out hd)
        have hn2 : (n == 0) = false := by rcases hn with rfl | rfl <;> rfl
        have hn3 : ¬ n = 0 := by rcases hn with rfl | rfl <;> decide
        clear hn hd
        go_wp2_with fail
        refine HD.out.mono ?_; rintro e w6 ⟨rfl, g6⟩
        have HT6 := Lib.hid (HT5.out.below g6)
        have HB6 := Lib.hid (below_step HB5.out g6)
        clear g6 HT5 HB5 
        go_upto_region 10 with (refine wpList_store_new rfl rfl _ _ rfl (zeroF 0 0 0) rfl rfl _ rfl ?_)
        have g7 := below_new w6 (factObj (zeroF 0 0 0))
        have HT7 := Lib.hid (HT6.out.below g7)
        have HB7 := Lib.hid (below_step HB6.out g7)
        clear g7 HT6 HB6 
        generalize w6.alloc (factObj (zeroF 0 0 0)) = w7 at *
        go_wp2_with fail
        go_roundw
        case rel => exact ⟨k + 1, by omega, by go_num, HT7.out, HB7.out⟩
        case measure => simp [intOf]; omega
      · obtain rfl : k = S.size := by omega
        have hr := cutT_size 20 m
        go_upto_region 13 with (fail)
        rw [show m.extract 0 (min (m.size : Int) 20).toNat = cutT 20 m from rfl]
        have hd := HL.out (cutT 20 m)
        generalize cutT 20 m = R at *
        have hsz : (S ++ R).size ≤ maxLen := by rw [ByteArray.size_append]; unfold maxLen; omega
        by_cases hR : R = ⟨#[]⟩
        · subst hR
          rw [if_pos rfl] at hd
          have HD := Lib.hid (dec_at (s := S ++ ⟨#[]⟩) (w := wr) (F := G) hsz HT5.out hd)
          clear hd
          go_wp2_with fail
          refine HD.out.mono ?_; rintro e w6 ⟨rfl, g6⟩
          have HT6 := Lib.hid (HT5.out.below g6)
          have HB6 := Lib.hid (below_step HB5.out g6)
          clear g6 HT5 HB5 
          go_upto_region 14 with (refine wpList_store_new rfl rfl _ _ rfl G rfl rfl _ rfl ?_)
          have g7 := below_new w6 (factObj G)
          have HT7 := Lib.hid (HT6.out.below g7)
          have HB7 := Lib.hid (below_step HB6.out g7)
          clear g7 HT6 HB6 
          generalize w6.alloc (factObj G) = w7 at *
          go_wp2_with fail
          go_ret
          exact ⟨rfl, HB7.out⟩
        · rw [if_neg (fun h => hR (ByteArray.ext (Array.toList_inj.1 h)))] at hd
          have k1 : (R.toList == (⟨#[]⟩ : ByteArray).toList) = false := by
            rw [beq_eq_false_iff_ne]; intro h; rw [Lib.toList_data, Lib.toList_data] at h; exact hR (ByteArray.ext (Array.toList_inj.1 h))
          have k2 : ¬ R.toList = [] := by
            intro h; rw [Lib.toList_data] at h; exact hR (ByteArray.ext (Array.toList_inj.1 h))
          have k3 : R.toList.isEmpty = false := by cases h : R.toList with
            | nil => exact absurd h k2
            | cons _ _ => rfl
          have HD := Lib.hid (dec_no (s := S ++ R) (w := wr) (n := 10) hsz HT5.out hd)
          clear hd
          go_wp2_with fail
          refine HD.out.mono ?_; rintro e w6 ⟨rfl, g6⟩
          have HT6 := Lib.hid (HT5.out.below g6)
          have HB6 := Lib.hid (below_step HB5.out g6)
          clear g6 HT5 HB5 
          go_upto_region 14 with (refine wpList_store_new rfl rfl _ _ rfl (zeroF 0 0 0) rfl rfl _ rfl ?_)
          have g7 := below_new w6 (factObj (zeroF 0 0 0))
          have HT7 := Lib.hid (HT6.out.below g7)
          have HB7 := Lib.hid (below_step HB6.out g7)
          clear g7 HT6 HB6 
          generalize w6.alloc (factObj (zeroF 0 0 0)) = w7 at *
          go_wp2_with fail
          go_ret
          exact ⟨rfl, HB7.out⟩
end Go.Proofs.YtnmjcjkjdbkpnaaDoor
