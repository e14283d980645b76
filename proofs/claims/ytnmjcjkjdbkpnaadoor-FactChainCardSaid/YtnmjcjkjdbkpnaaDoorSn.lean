/-
  The law file's fixed examples.
-/
import Derived.Test.YtnmjcjkjdbkpnaaDoorDe
namespace Go.Proofs.YtnmjcjkjdbkpnaaDoor
open Go.RowKit Go.Shelf Fc
attribute [local go_sem] Oper.semAt_some
namespace Fc
abbrev ex1 : Fact := ⟨2, 7, 1, 0, false, 30, 0, 0, 0, 0, 0, 0, 0, 0, 0, 0, -5, 0, ⟨#[]⟩⟩
abbrev ex2 : Fact := ⟨2, 7, 2, 0, false, 30, 0, 0, 0, 0, 0, 0, 0, 0, 0, 0, -5, 0, ⟨#[]⟩⟩
abbrev ex0 : Fact := ⟨0, 0, 0, 0, false, 0, 0, 0, 0, 0, 0, 0, 0, 0, 0, 0, 0, 0, ⟨#[]⟩⟩
abbrev exH : Fact := ⟨7, 1, 1, 0, false, 0, 1000000, 0, 0, 0, 0, 0, 0, 0, 0, 0, 0, 3, ⟨#[]⟩⟩
theorem ex1_v : validB ex1 = true := by kernel_rfl
theorem ex0_v : validB ex0 = false := by kernel_rfl
theorem exH_v : validB exH = true := by kernel_rfl
theorem ex1_e : encB ex1 = [4, 2, 0, 0, 14, 60, 9] := by kernel_rfl
theorem ex1_k : keyB ex1 = [4, 14] := by kernel_rfl
theorem ex1_d : decR [4, 2, 0, 0, 14, 60, 9] = .ok ex1 := by rw [← ex1_e]; exact dec_enc ex1_v
theorem ex_d150 : decR [4, 2, 0, 3, 14, 60, 9] = .error 150 := by kernel_rfl
theorem ex_d10 : decR [4, 2, 0, 0, 14, 60] = .error 10 := by kernel_rfl
theorem ex_p1 : prevB ex2 ex1 = true := by kernel_rfl
theorem ex_p2 : prevB ex1 ex2 = false := by kernel_rfl
end Fc
theorem setRow_alloc (w : World) (old cs : Array Value) (t : TypeId) : (w.alloc (.cells old t)).setRow w.heap.size cs = w.alloc (.cells cs t) := by
  have h : (w.heap.push (.cells old t)).modify w.heap.size (fun | .cells _ elem frozen => .cells cs elem frozen | o => o) = w.heap.push (.cells cs t) := by
    apply Array.ext
    · simp
    · intro i h1 h2
      rw [Array.getElem_modify]
      by_cases hi : w.heap.size = i
      · subst hi; simp
      · rw [if_neg hi]
        have : i < w.heap.size := by simp at h2; omega
        rw [Array.getElem_push_lt this, Array.getElem_push_lt this]
  show { w.alloc (.cells old t) with heap := (w.heap.push (.cells old t)).modify w.heap.size (fun | .cells _ elem frozen => .cells cs elem frozen | o => o) } = _
  rw [h]; rfl
/-- A fact into its variable. -/
theorem wpList_store_at {ops : Array Oper} {rest : List Oper} {o : Oper} {a : Act} {w : World} {Q : Exit → Act → World → Prop} (hgd : o.guard = none) (hd : o.dst = none) (x y : Operand) (ho : o.op = .store 23 x y) (b : Nat) (F : Fact) (hx : a.eval x = .pointer (some ⟨b, 0, none⟩)) (hy : a.eval y = factV F)
    (old : Array Value) (hg : w.heap[b]? = some (.cells old 23)) (hold : old.size = 19)
    (h : wpList Tryd.prog ops Q rest a (w.setRow b (factC F))) : wpList Tryd.prog ops Q (o :: rest) a w :=
  wpList_store_fact hgd x y ho b F hx hy old hg hold (by rw [hd]; exact h)
/-- A fact into a variable that has just been made. -/
theorem wpList_store_new {ops : Array Oper} {rest : List Oper} {o : Oper} {a : Act} {w : World} {Q : Exit → Act → World → Prop} (hgd : o.guard = none) (hd : o.dst = none) (x y : Operand) (ho : o.op = .store 23 x y) (F : Fact) (hx : a.eval x = .pointer (some ⟨w.heap.size, 0, none⟩)) (hy : a.eval y = factV F)
    (old : Array Value) (hold : old.size = 19)
    (h : wpList Tryd.prog ops Q rest a (w.alloc (factObj F))) : wpList Tryd.prog ops Q (o :: rest) a (w.alloc (.cells old 23)) :=
  wpList_store_fact hgd x y ho w.heap.size F hx hy old (heap_alloc_new _ _) hold (by rw [setRow_alloc, hd]; exact h)
theorem dec_at {s : ByteArray} {w : World} {F : Fact} (hs : s.size ≤ maxLen) (ht : Tab w) (h : decR s.data.toList = .ok F) : Calls Tryd.prog 22 #[.string s] w fun e w' => e = .returned (.tuple #[factV F, .int .i64 0]) ∧ Below w.heap.size w w' := by
  have := decode_any s w hs ht
  rw [h] at this; exact this
theorem dec_no {s : ByteArray} {w : World} {n : Int} (hs : s.size ≤ maxLen) (ht : Tab w) (h : decR s.data.toList = .error n) : Calls Tryd.prog 22 #[.string s] w fun e w' => e = .returned (.tuple #[factV (zeroF 0 0 0), .int .i64 n]) ∧ Below w.heap.size w w' := by
  have := decode_any s w hs ht
  rw [h] at this; exact this
theorem enc_at {F : Fact} {w : World} (hs : F.tx.size ≤ maxLen) (ht : Tab w) (h : validB F = true) : Calls Tryd.prog 14 #[factV F] w fun e w' => e = .returned (.tuple #[.string (bs (encB F)), .int .i64 0]) ∧ Below w.heap.size w w' := by
  have := encode_any F w ht hs
  unfold EncPost at this; rw [h] at this; exact this
theorem enc_no {F : Fact} {w : World} (hs : F.tx.size ≤ maxLen) (ht : Tab w) (h : validB F = false) : Calls Tryd.prog 14 #[factV F] w fun e w' => e = .returned (.tuple #[.string ⟨#[]⟩, .int .i64 150]) ∧ Below w.heap.size w w' := by
  have := encode_any F w ht hs
  unfold EncPost at this; rw [h] at this; exact this
set_option maxRecDepth 100000 in
set_option maxHeartbeats 8000000 in
theorem sane_any (w : World) (hT : Tab w) : Calls Tryd.prog 12 #[] w (BoolPost true w) := by
  have HF := Lib.hid (heap_alloc_new w (factObj ex1))
  have HB := Lib.hid (below_new w (factObj ex1))
  have HT := Lib.hid (hT.below HB.out)
  clear hT
  go_enter Tryd.func12, Tryd.ntmps12
  go_upto_region 2 with (refine wpList_store_new rfl rfl _ _ rfl ex1 rfl rfl _ rfl ?_)
  generalize w.alloc (factObj ex1) = w1 at *
  have HE := Lib.hid (enc_at (F := ex1) (w := w1) (by decide) HT.out ex1_v)
  rw [ex1_e] at HE
  go_wp2_with (refine wpList_load_fact rfl _ rfl _ rfl ex1 HF.out ?_)
  refine HE.out.mono ?_; rintro e w2 ⟨rfl, g2⟩
  clear HE
  have HT2 := Lib.hid (HT.out.below g2)
  have HB2 := Lib.hid (below_step HB.out g2)
  have HF2 := Lib.hid (box_below HF.out g2)
  clear g2 HT HB HF
  have HD := Lib.hid (dec_at (s := bs [4, 2, 0, 0, 14, 60, 9]) (w := w2) (F := ex1) (by decide) HT2.out (by rw [mk_list]; exact ex1_d))
  go_wp2_with fail
  refine HD.out.mono ?_; rintro e w3 ⟨rfl, g3⟩
  clear HD
  have HT3 := Lib.hid (HT2.out.below g3)
  have HB3 := Lib.hid (below_step HB2.out g3)
  have HF3 := Lib.hid (box_below HF2.out g3)
  clear g3 HT2 HB2 HF2
  go_upto_region 4 with (refine wpList_store_new rfl rfl _ _ rfl ex1 rfl rfl _ rfl ?_)
  have g4 := below_new w3 (factObj ex1)
  have HG4 := Lib.hid (heap_alloc_new w3 (factObj ex1))
  have HT4 := Lib.hid (HT3.out.below g4)
  have HB4 := Lib.hid (below_step HB3.out g4)
  have HF4 := Lib.hid (box_below HF3.out g4)
  clear g4 HT3 HB3 HF3
  generalize w3.alloc (factObj ex1) = w4 at *
  have HD := Lib.hid (dec_no (s := bs [4, 2, 0, 3, 14, 60, 9]) (w := w4) (n := 150) (by decide) HT4.out (by rw [mk_list]; exact ex_d150))
  go_wp2_with fail
  refine HD.out.mono ?_; rintro e w5 ⟨rfl, g5⟩
  clear HD
  have HT5 := Lib.hid (HT4.out.below g5)
  have HB5 := Lib.hid (below_step HB4.out g5)
  have HF5 := Lib.hid (box_below HF4.out g5)
  have HG5 := Lib.hid (box_below HG4.out g5)
  clear g5 HT4 HB4 HF4 HG4
  go_upto_region 5 with (refine wpList_store_new rfl rfl _ _ rfl (zeroF 0 0 0) rfl rfl _ rfl ?_)
  have g6 := below_new w5 (factObj (zeroF 0 0 0))
  have HT6 := Lib.hid (HT5.out.below g6)
  have HB6 := Lib.hid (below_step HB5.out g6)
  have HF6 := Lib.hid (box_below HF5.out g6)
  have HG6 := Lib.hid (box_below HG5.out g6)
  clear g6 HT5 HB5 HF5 HG5
  generalize w5.alloc (factObj (zeroF 0 0 0)) = w6 at *
  have HD := Lib.hid (dec_no (s := bs [4, 2, 0, 0, 14, 60]) (w := w6) (n := 10) (by decide) HT6.out (by rw [mk_list]; exact ex_d10))
  go_wp2_with fail
  refine HD.out.mono ?_; rintro e w7 ⟨rfl, g7⟩
  clear HD
  have HT7 := Lib.hid (HT6.out.below g7)
  have HB7 := Lib.hid (below_step HB6.out g7)
  have HF7 := Lib.hid (box_below HF6.out g7)
  have HG7 := Lib.hid (box_below HG6.out g7)
  clear g7 HT6 HB6 HF6 HG6
  go_upto_region 6 with (refine wpList_store_new rfl rfl _ _ rfl (zeroF 0 0 0) rfl rfl _ rfl ?_)
  have g8 := below_new w7 (factObj (zeroF 0 0 0))
  have HT8 := Lib.hid (HT7.out.below g8)
  have HB8 := Lib.hid (below_step HB7.out g8)
  have HF8 := Lib.hid (box_below HF7.out g8)
  have HG8 := Lib.hid (box_below HG7.out g8)
  clear g8 HT7 HB7 HF7 HG7
  generalize w7.alloc (factObj (zeroF 0 0 0)) = w8 at *
  have HE := Lib.hid (enc_no (F := ex0) (w := w8) (by decide) HT8.out ex0_v)
  dsimp only [ex0, factV] at HE
  go_wp2_with fail
  refine HE.out.mono ?_; rintro e w9 ⟨rfl, g9⟩
  clear HE
  have HT9 := Lib.hid (HT8.out.below g9)
  have HB9 := Lib.hid (below_step HB8.out g9)
  have HF9 := Lib.hid (box_below HF8.out g9)
  have HG9 := Lib.hid (box_below HG8.out g9)
  clear g9 HT8 HB8 HF8 HG8
  go_upto_region 8 with (first | (refine wpList_load_fact rfl _ rfl _ rfl ex1 HF9.out ?_) | (refine wpList_store_new rfl rfl _ _ rfl ex1 rfl rfl _ rfl ?_))
  go_upto_region 9 with (fail)
  have g10 := below_new w9 (factObj ex2)
  have HH10 := Lib.hid (heap_alloc_new w9 (factObj ex2))
  have HT10 := Lib.hid (HT9.out.below g10)
  have HB10 := Lib.hid (below_step HB9.out g10)
  have HF10 := Lib.hid (box_below HF9.out g10)
  have HG10 := Lib.hid (box_below HG9.out g10)
  clear g10 HT9 HB9 HF9 HG9
  generalize w9.alloc (factObj ex2) = w10 at *
  have HV := Lib.hid (valid_any exH w10 HT10.out (by decide))
  unfold BoolPost at HV
  rw [exH_v] at HV
  dsimp only [exH, factV] at HV
  go_wp2_with fail
  refine HV.out.mono ?_; rintro e w11 ⟨rfl, g11⟩
  clear HV
  have HT11 := Lib.hid (HT10.out.below g11)
  have HB11 := Lib.hid (below_step HB10.out g11)
  have HF11 := Lib.hid (box_below HF10.out g11)
  have HG11 := Lib.hid (box_below HG10.out g11)
  have HH11 := Lib.hid (box_below HH10.out g11)
  clear g11 HT10 HB10 HF10 HG10 HH10
  have hEq := fun V => run_factEq ex1 ex1 V
  rw [decide_eq_true (rfl : ex1 = ex1)] at hEq
  have hGu := run_factGuard
  have HC := Lib.hid (key_any ex1 w11 HT11.out (by decide))
  unfold StrPost at HC
  rw [ex1_k] at HC
  go_wp2_with (first | (refine wpList_load_factW (by rfl) _ rfl _ rfl ex1 HF11.out ?_) | (refine wpList_load_factW (by rfl) _ rfl _ rfl ex1 HG11.out ?_) | (refine wpList_load_factW (by rfl) _ rfl _ rfl ex2 HH11.out ?_))
  refine HC.out.mono ?_; rintro e w12 ⟨rfl, g12⟩
  clear HC
  have HT12 := Lib.hid (HT11.out.below g12)
  have HB12 := Lib.hid (below_step HB11.out g12)
  have HF12 := Lib.hid (box_below HF11.out g12)
  have HG12 := Lib.hid (box_below HG11.out g12)
  have HH12 := Lib.hid (box_below HH11.out g12)
  clear g12 HT11 HB11 HF11 HG11 HH11
  have HC := Lib.hid (valid_any ex1 w12 HT12.out (by decide))
  unfold BoolPost at HC
  rw [ex1_v] at HC
  go_wp2_with (first | (refine wpList_load_factW (by rfl) _ rfl _ rfl ex1 HF12.out ?_) | (refine wpList_load_factW (by rfl) _ rfl _ rfl ex1 HG12.out ?_) | (refine wpList_load_factW (by rfl) _ rfl _ rfl ex2 HH12.out ?_))
  refine HC.out.mono ?_; rintro e w13 ⟨rfl, g13⟩
  clear HC
  have HT13 := Lib.hid (HT12.out.below g13)
  have HB13 := Lib.hid (below_step HB12.out g13)
  have HF13 := Lib.hid (box_below HF12.out g13)
  have HG13 := Lib.hid (box_below HG12.out g13)
  have HH13 := Lib.hid (box_below HH12.out g13)
  clear g13 HT12 HB12 HF12 HG12 HH12
  have HC := Lib.hid (valid_any ex0 w13 HT13.out (by decide))
  unfold BoolPost at HC
  rw [ex0_v] at HC
  dsimp only [ex0, factV] at HC
  go_wp2_with (first | (refine wpList_load_factW (by rfl) _ rfl _ rfl ex1 HF13.out ?_) | (refine wpList_load_factW (by rfl) _ rfl _ rfl ex1 HG13.out ?_) | (refine wpList_load_factW (by rfl) _ rfl _ rfl ex2 HH13.out ?_))
  refine HC.out.mono ?_; rintro e w14 ⟨rfl, g14⟩
  clear HC
  have HT14 := Lib.hid (HT13.out.below g14)
  have HB14 := Lib.hid (below_step HB13.out g14)
  have HF14 := Lib.hid (box_below HF13.out g14)
  have HG14 := Lib.hid (box_below HG13.out g14)
  have HH14 := Lib.hid (box_below HH13.out g14)
  clear g14 HT13 HB13 HF13 HG13 HH13
  have HC := Lib.hid (prevails_any ex2 ex1 w14 HT14.out (by decide) (by decide))
  unfold BoolPost at HC
  rw [ex_p1] at HC
  go_wp2_with (first | (refine wpList_load_factW (by rfl) _ rfl _ rfl ex1 HF14.out ?_) | (refine wpList_load_factW (by rfl) _ rfl _ rfl ex1 HG14.out ?_) | (refine wpList_load_factW (by rfl) _ rfl _ rfl ex2 HH14.out ?_))
  refine HC.out.mono ?_; rintro e w15 ⟨rfl, g15⟩
  clear HC
  have HT15 := Lib.hid (HT14.out.below g15)
  have HB15 := Lib.hid (below_step HB14.out g15)
  have HF15 := Lib.hid (box_below HF14.out g15)
  have HG15 := Lib.hid (box_below HG14.out g15)
  have HH15 := Lib.hid (box_below HH14.out g15)
  clear g15 HT14 HB14 HF14 HG14 HH14
  have HC := Lib.hid (prevails_any ex1 ex2 w15 HT15.out (by decide) (by decide))
  unfold BoolPost at HC
  rw [ex_p2] at HC
  go_wp2_with (first | (refine wpList_load_factW (by rfl) _ rfl _ rfl ex1 HF15.out ?_) | (refine wpList_load_factW (by rfl) _ rfl _ rfl ex1 HG15.out ?_) | (refine wpList_load_factW (by rfl) _ rfl _ rfl ex2 HH15.out ?_))
  refine HC.out.mono ?_; rintro e w16 ⟨rfl, g16⟩
  clear HC
  have HT16 := Lib.hid (HT15.out.below g16)
  have HB16 := Lib.hid (below_step HB15.out g16)
  have HF16 := Lib.hid (box_below HF15.out g16)
  have HG16 := Lib.hid (box_below HG15.out g16)
  have HH16 := Lib.hid (box_below HH15.out g16)
  clear g16 HT15 HB15 HF15 HG15 HH15
  go_wp2_with fail
  go_ret
  exact ⟨rfl, HB16.out⟩
end Go.Proofs.YtnmjcjkjdbkpnaaDoor
