/-
  Prevails. Written by tools/l15_pv.py.
-/
import Derived.Test.YtnmjcjkjdbkpnaaDoorEn
import Derived.Laws.Cover1
namespace Go.Proofs.YtnmjcjkjdbkpnaaDoor
open Go.RowKit Go.Shelf Fc
attribute [local go_sem] Oper.semAt_some
theorem less_is : ∀ (x y : List UInt8), Op.bytesLess x y = decide (x < y)
  | [], [] => by simp [Op.bytesLess]
  | _ :: _, [] => by simp [Op.bytesLess]
  | [], _ :: _ => by simp [Op.bytesLess]
  | a :: x, b :: y => by
    simp only [Op.bytesLess, less_is x y]
    rw [Bool.eq_iff_iff]
    simp [List.cons_lt_cons_iff]
theorem bs_list (l : List UInt8) : (bs l).toList = l := by
  rw [ByteArray.toList_eq]
theorem gtr_is (x y : List UInt8) : (!(Op.bytesLess x y || x == y)) = ltB y x := by
  rw [less_is]
  unfold ltB
  rw [Bool.eq_iff_iff]
  simp only [Bool.not_eq_true', Bool.or_eq_false_iff, decide_eq_false_iff_not, beq_eq_false_iff_ne, decide_eq_true_eq]
  constructor
  · rintro ⟨h1, h2⟩
    rcases bytes_total h2 with h | h
    · exact absurd h h1
    · exact h
  · intro h
    exact ⟨fun h2 => bytes_lt_irrefl _ (bytes_lt_trans h h2), fun e => by rw [e] at h; exact bytes_lt_irrefl _ h⟩
theorem bs_inj {l m : List UInt8} (h : bs l = bs m) : l = m := by rw [← bs_list l, h, bs_list]
set_option maxRecDepth 100000 in
set_option maxHeartbeats 8000000 in
theorem prevails_any (F G : Fact) (w : World) (hT : Tab w) (hs : F.tx.size ≤ maxLen) (hs2 : G.tx.size ≤ maxLen) : Calls Tryd.prog 20 #[factV F, factV G] w (BoolPost (prevB F G) w) := by
  obtain ⟨W2, hW2⟩ : ∃ V, (w.alloc (factObj F)).alloc (factObj G) = V := ⟨_, rfl⟩
  have hb2 : Below w.heap.size w W2 := by rw [← hW2]; exact below_step (below_new _ _) (below_new _ _)
  have HF := Lib.hid (show W2.heap[w.heap.size]? = some (factObj F) from by rw [← hW2]; exact box_below (heap_alloc_new _ _) (below_new _ _))
  have HG := Lib.hid (show W2.heap[w.heap.size + 1]? = some (factObj G) from by
    rw [← hW2]
    have := heap_alloc_new (w.alloc (factObj F)) (factObj G)
    rwa [World.size_alloc] at this)
  have HB := Lib.hid hb2
  have HT := Lib.hid (hT.below hb2)
  have HKa := Lib.hid (key_any F W2 HT.out hs)
  have HKb := Lib.hid (fun V h => key_any G V h hs2)
  have HEa := Lib.hid (fun V => encoding_any F V hs)
  have HEb := Lib.hid (fun V => encoding_any G V hs2)
  unfold StrPost at HKa HKb HEa HEb
  have HP := Lib.hid (show prevB F G = if keyB F = [] ∨ keyB F ≠ keyB G then false else if F.v ≠ G.v then decide (F.v > G.v) else ltB (encB G) (encB F) from rfl)
  have HW2 := Lib.hid hW2
  clear hT hs hs2 hb2 hW2
  go_enter Tryd.func20, Tryd.ntmps20
  go_upto_region 1 with (fail)
  rw [HW2.out]
  clear HW2
  go_wp2_with (refine wpList_load_fact rfl _ rfl _ rfl F HF.out ?_)
  refine HKa.out.mono ?_; rintro e w3 ⟨rfl, g3⟩
  have HF3 := Lib.hid (box_below HF.out g3)
  have HG3 := Lib.hid (box_below HG.out g3)
  have HT3 := Lib.hid (HT.out.below g3)
  have HB3 := Lib.hid (below_step HB.out g3)
  clear g3 HF HG HT HB HKa
  by_cases h0 : keyB F = []
  · have HR := Lib.hid (show prevB F G = false by rw [HP.out, if_pos (.inl h0)])
    rw [h0]
    clear h0
    go_wp2_with fail
    go_ret
    exact ⟨ret_bool HR.out.symm, HB3.out⟩
  · have h1 : ((bs (keyB F)).toList == []) = false := by rw [bs_list]; exact beq_eq_false_iff_ne.2 h0
    have h1' : ¬ (bs (keyB F)).toList = [] := by rw [bs_list]; exact h0
    have HKb3 := Lib.hid (HKb.out w3 HT3.out)
    have HEQ := Lib.hid (fun (h : bs (keyB F) = bs (keyB G)) => bs_inj h)
    have HNE := Lib.hid (fun (h : ¬ bs (keyB F) = bs (keyB G)) => show ((bs (keyB F)).toList == (bs (keyB G)).toList) = false by rw [bs_list, bs_list]; exact beq_eq_false_iff_ne.2 (fun e => h (by rw [e])))
    have H0 := Lib.hid h0
    have HPn := Lib.hid (fun (h : ¬ bs (keyB F) = bs (keyB G)) => show prevB F G = false by rw [HP.out, if_pos (.inr (fun e => h (by rw [e])))])
    have HPy := Lib.hid (fun (h : bs (keyB F) = bs (keyB G)) => show prevB F G = if F.v ≠ G.v then decide (F.v > G.v) else ltB (encB G) (encB F) by rw [HP.out, if_neg (by intro e; rcases e with e | e; exact h0 e; exact e (HEQ.out h))])
    clear h0 HP
    generalize bs (keyB F) = A at *
    generalize bs (keyB G) = B at *
    go_wp2_with (refine wpList_load_factW (by rfl) _ rfl _ rfl G HG3.out ?_)
    refine HKb3.out.mono ?_; rintro e w4 ⟨rfl, g4⟩
    have HF4 := Lib.hid (box_below HF3.out g4)
    have HG4 := Lib.hid (box_below HG3.out g4)
    have HB4 := Lib.hid (below_step HB3.out g4)
    clear g4 HF3 HG3 HT3 HB3 HKb HKb3
    by_cases hAB : A = B
    · subst hAB
      have HPy2 := Lib.hid (HPy.out rfl)
      clear HPy HPn HNE HEQ H0
      have a2 := box_cell HF4.out 2 (.int .i64 F.v) rfl
      have b2 := box_cell HG4.out 2 (.int .i64 G.v) rfl
      by_cases hv : F.v = G.v
      · have HR := Lib.hid (show prevB F G = ltB (encB G) (encB F) by rw [HPy2.out, if_neg (by simpa using hv)])
        have hv2 : (F.v == G.v) = true := by simpa using hv
        go_wp2_with fail
        refine wp_region_held_drew (S := (fun v => v.heap[w.heap.size]? = some (factObj F) ∧ v.heap[w.heap.size + 1]? = some (factObj G) ∧ Below w.heap.size w v)) (by kernel_rfl) (⟨HF4.out, HG4.out, HB4.out.drew⟩) (fun hHeld => ?_)
        generalize w4.drew = wd at *
        refine wpAnyH_take (i := 0) (oi := { dst := some 26, op := Op.load 23 (Operand.tmp 2), type := 23, pos := "fact.go:29", after := #[], guard := none }) (v := factV F) rfl (by kernel_rfl) (by kernel_rfl) (by kernel_rfl) (fun _ _ _ h => h) (Or.inl ⟨by rfl, fun wz hSw => sem_load_fact _ rfl (w.heap.size) rfl F (hSw.1)⟩) (by assumption) ?tp0
        simp only [Act.put, List.setIfInBounds_toArray, List.set_cons_zero, List.set_cons_succ]
        refine wpAnyH_take (i := 2) (oi := { dst := some 28, op := Op.load 23 (Operand.tmp 3), type := 23, pos := "fact.go:29", after := #[], guard := none }) (v := factV G) rfl (by kernel_rfl) (by kernel_rfl) (by kernel_rfl) (fun _ _ _ h => h) (Or.inl ⟨by rfl, fun wz hSw => sem_load_fact _ rfl (w.heap.size + 1) rfl G (hSw.2.1)⟩) (by assumption) ?tp2
        simp only [Act.put, List.setIfInBounds_toArray, List.set_cons_zero, List.set_cons_succ]
        refine wpAnyH_ready (rs := [1]) (by kernel_rfl) (by simp) ?_
        refine AllReadyH.cons (o := { dst := some 27, op := Op.call { callee := Callee.value (Operand.func 26), args := #[Operand.tmp 26], argTypes := #[23] }, type := 9, pos := "fact.go:29", after := #[{ on := 0, ground := Ground.data }], guard := none }) rfl (fun K hK => ?_) AllReadyH.nil
        have HB0 := Lib.hid hHeld
        go_simp
        refine (HEa.out wd).mono ?_; rintro e w7 ⟨rfl, g7⟩
        have h7 : w7.heap[w.heap.size]? = some (factObj F) ∧ w7.heap[w.heap.size + 1]? = some (factObj G) ∧ Below w.heap.size w w7 := ⟨box_below HB0.out.1 g7, box_below HB0.out.2.1 g7, below_step HB0.out.2.2 g7⟩
        refine hK.out _ _ (h7) (fun hHeld' => ?_)
        clear hK K hHeld
        have hHeld := hHeld'; clear hHeld'
        try simp only [Act.put, List.setIfInBounds_toArray, List.set_cons_zero, List.set_cons_succ]
        refine wpAnyH_ready (rs := [3]) (by kernel_rfl) (by simp) ?_
        refine AllReadyH.cons (o := { dst := some 29, op := Op.call { callee := Callee.value (Operand.func 26), args := #[Operand.tmp 28], argTypes := #[23] }, type := 9, pos := "fact.go:29", after := #[{ on := 2, ground := Ground.data }, { on := 1, ground := Ground.chain }], guard := none }) rfl (fun K hK => ?_) AllReadyH.nil
        have HB7 := Lib.hid hHeld
        go_simp
        refine (HEb.out w7).mono ?_; rintro e w8 ⟨rfl, g8⟩
        have h8 : w8.heap[w.heap.size]? = some (factObj F) ∧ w8.heap[w.heap.size + 1]? = some (factObj G) ∧ Below w.heap.size w w8 := ⟨box_below HB7.out.1 g8, box_below HB7.out.2.1 g8, below_step HB7.out.2.2 g8⟩
        have HB8 := Lib.hid h8
        have hL : (!(Op.bytesLess (bs (encB F)).toList (bs (encB G)).toList || (bs (encB F)).toList == (bs (encB G)).toList)) = ltB (encB G) (encB F) := by rw [bs_list, bs_list]; exact gtr_is _ _
        generalize bs (encB F) = X at *
        generalize bs (encB G) = Y at *
        generalize hc1 : Op.bytesLess X.toList Y.toList = c1 at hL
        generalize hc2 : (X.toList == Y.toList) = c2 at hL
        have HL := Lib.hid hL
        clear hL
        refine hK.out _ _ (h8) (fun hHeld' => ?_)
        clear hK K hHeld
        have hHeld := hHeld'; clear hHeld'
        try simp only [Act.put, List.setIfInBounds_toArray, List.set_cons_zero, List.set_cons_succ]
        refine wpAnyH_take (i := 4) (oi := { dst := some 30, op := Op.binOp BinOp.gtr 9 (Operand.tmp 27) (Operand.tmp 29) 9, type := 4, pos := "fact.go:29", after := #[{ on := 1, ground := Ground.data }, { on := 3, ground := Ground.data }], guard := none }) (v := ?vp4) rfl (by kernel_rfl) (by kernel_rfl) (by kernel_rfl) (fun _ _ _ h => h) (Or.inl ⟨by rfl, ?yp4⟩) (by assumption) ?tp4
        case yp4 => (intro wz hSw; clear hSw; go_simp; try with_reducible rfl)
        simp only [Act.put, List.setIfInBounds_toArray, List.set_cons_zero, List.set_cons_succ]
        refine wpAnyH_take (i := 5) (oi := { dst := some 4, op := Op.assign (Operand.tmp 30), type := 4, pos := "fact.go:29", after := #[{ on := 4, ground := Ground.data }, { on := 3, ground := Ground.chain }, { on := 0, ground := Ground.phase }, { on := 1, ground := Ground.phase }, { on := 2, ground := Ground.phase }, { on := 3, ground := Ground.phase }, { on := 4, ground := Ground.phase }], guard := none }) (v := ?vp5) rfl (by kernel_rfl) (by kernel_rfl) (by kernel_rfl) (fun _ _ _ h => h) (Or.inl ⟨by rfl, ?yp5⟩) (by assumption) ?tp5
        case yp5 => (intro wz hSw; clear hSw; go_simp; try with_reducible rfl)
        simp only [Act.put, List.setIfInBounds_toArray, List.set_cons_zero, List.set_cons_succ]
        refine wpAnyH_done (by kernel_rfl) ?_ _
        go_wp2_with fail
        go_ret
        exact ⟨ret_bool (by rw [HR.out, ← HL.out]; cases c1 <;> cases c2 <;> rfl), HB8.out.2.2⟩
      · have HR := Lib.hid (show prevB F G = decide (F.v > G.v) by rw [HPy2.out, if_pos hv])
        have hv2 : (F.v == G.v) = false := by simpa using hv
        by_cases hgt : F.v > G.v
        · go_wp2_with fail
          go_ret
          exact ⟨ret_bool (by have h9 := HR.out; simp [h9, hgt]), HB4.out⟩
        · go_wp2_with fail
          go_ret
          exact ⟨ret_bool (by have h9 := HR.out; simp [h9, hgt]), HB4.out⟩
    · have h2 := HNE.out hAB
      have HR := Lib.hid (HPn.out hAB)
      have h3 : ¬ A.toList = B.toList := by intro e; rw [e] at h2; simp at h2
      clear HPy HPn HNE HEQ H0
      go_wp2_with fail
      go_ret
      exact ⟨ret_bool HR.out.symm, HB4.out⟩
end Go.Proofs.YtnmjcjkjdbkpnaaDoor
