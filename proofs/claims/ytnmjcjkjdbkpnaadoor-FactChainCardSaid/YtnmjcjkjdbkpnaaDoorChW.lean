/-
  The walk of FactChain: it returns true for all arguments. Condition: the table reads as the program's text lays it.
-/
import Derived.Test.YtnmjcjkjdbkpnaaDoorTri
namespace Go.Proofs.YtnmjcjkjdbkpnaaDoor
open Go.RowKit Go.Shelf Fc
attribute [local go_sem] Oper.semAt_some
def mkF (G : Fact) (v d va : Int) : Fact := { G with v := v, d := d, va := va }
theorem keys_ne {k : Int} : ∀ x ∈ keyL k, x ≠ 12 := by
  intro x hx e
  subst e
  unfold keyL at hx
  repeat' split at hx
  all_goals revert hx; decide
theorem mk_key {G : Fact} {v d va v' d' va' : Int} (h : validB (mkF G v d va) = true) (h' : validB (mkF G v' d' va') = true) : keyB (mkF G v d va) = keyB (mkF G v' d' va') :=
  (key_iff h h').2 ⟨rfl, fun x hx => by
    have := keys_ne x hx
    unfold mkF Fc.get
    split <;> first | rfl | exact absurd rfl this⟩
def TopB (X Y : Fact) : Prop := X = Y ∨ X ≠ Y ∧ prevB X Y = true
theorem top_of {X Y : Fact} (h : X = Y ∨ prevB X Y = true) : TopB X Y := by
  rcases h with h | h
  · exact .inl h
  · refine .inr ⟨fun e => ?_, h⟩
    subst e
    rw [prev_irrefl] at h; cases h
theorem beat {X Y : Fact} (hX : validB X = true) (hY : validB Y = true) (hk : keyB X = keyB Y) (h : prevB Y X = false) : X = Y ∨ prevB X Y = true := by
  by_cases e : X = Y
  · exact .inl e
  · right; rw [prev_one hX hY hk e, h]; rfl
theorem tops {A B C : Fact} (hA : validB A = true) (hB : validB B = true) (hC : validB C = true) (hAB : keyB A = keyB B) (hAC : keyB A = keyB C) :
    (prevB B A = false → prevB C A = false → TopB A A ∧ TopB A B ∧ TopB A C) ∧ (prevB B A = false → prevB C A = true → TopB C A ∧ TopB C B ∧ TopB C C) ∧
    (prevB B A = true → prevB C B = false → TopB B A ∧ TopB B B ∧ TopB B C) ∧ (prevB B A = true → prevB C B = true → TopB C A ∧ TopB C B ∧ TopB C C) := by
  refine ⟨fun h1 h2 => ⟨.inl rfl, top_of (beat hA hB hAB h1), top_of (beat hA hC hAC h2)⟩, fun h1 h2 => ⟨top_of (.inr h2), top_of ?_, .inl rfl⟩,
    fun h1 h2 => ⟨top_of (.inr h1), .inl rfl, top_of (beat hB hC (hAB.symm.trans hAC) h2)⟩, fun h1 h2 => ⟨top_of (.inr (prev_trans h2 h1)), top_of (.inr h2), .inl rfl⟩⟩
  rcases beat hA hB hAB h1 with e | h
  · subst e; exact .inr h2
  · exact .inr (prev_trans h2 h)
set_option maxRecDepth 100000 in
set_option maxHeartbeats 32000000 in
theorem chain_walk (F : Fact) (v0 v1 v2 d0 d1 d2 x0 x1 x2 : Int) (W : World) (ht : Tab W) (hs : F.tx.size ≤ maxLen) (v0b : (Lit.int .i64 v0).wf = true) (v1b : (Lit.int .i64 v1).wf = true) (v2b : (Lit.int .i64 v2).wf = true) (d0b : (Lit.int .i64 d0).wf = true) (d1b : (Lit.int .i64 d1).wf = true) (d2b : (Lit.int .i64 d2).wf = true) (x0b : (Lit.int .i64 x0).wf = true) (x1b : (Lit.int .i64 x1).wf = true) (x2b : (Lit.int .i64 x2).wf = true) : Calls Tryd.prog 10 #[factV F, .agg #[.int .i64 v0, .int .i64 v1, .int .i64 v2], .agg #[.int .i64 d0, .int .i64 d1, .int .i64 d2], .agg #[.int .i64 x0, .int .i64 x1, .int .i64 x2]] W fun e w' => e = .returned (.bool true) ∧ Below W.heap.size W w' := by
  obtain ⟨W2, hW2⟩ : ∃ V, (((W.alloc (factObj F)).alloc (.cells #[.int .i64 v0, .int .i64 v1, .int .i64 v2] 40)).alloc (.cells #[.int .i64 d0, .int .i64 d1, .int .i64 d2] 40)).alloc (.cells #[.int .i64 x0, .int .i64 x1, .int .i64 x2] 40) = V := ⟨_, rfl⟩
  clear v0b v1b v2b d0b d1b d2b x0b x1b x2b
  have HTn := Lib.hid ht.1
  have hb2 : Below W.heap.size W W2 := by rw [← hW2]; exact below_step (below_step (below_step (below_new _ _) (below_new _ _)) (below_new _ _)) (below_new _ _)
  have HF := Lib.hid (show W2.heap[W.heap.size]? = some (factObj F) from by rw [← hW2]; exact box_below (box_below (box_below (heap_alloc_new _ _) (below_new _ _)) (below_new _ _)) (below_new _ _))
  have HV := Lib.hid (show W2.heap[W.heap.size + 1]? = some (.cells #[.int .i64 v0, .int .i64 v1, .int .i64 v2] 40) from by
    rw [← hW2]
    have := heap_alloc_new (W.alloc (factObj F)) (.cells #[.int .i64 v0, .int .i64 v1, .int .i64 v2] 40)
    rw [World.size_alloc] at this
    exact box_below (box_below this (below_new _ _)) (below_new _ _))
  have HD := Lib.hid (show W2.heap[W.heap.size + 2]? = some (.cells #[.int .i64 d0, .int .i64 d1, .int .i64 d2] 40) from by
    rw [← hW2]
    have := heap_alloc_new ((W.alloc (factObj F)).alloc (.cells #[.int .i64 v0, .int .i64 v1, .int .i64 v2] 40)) (.cells #[.int .i64 d0, .int .i64 d1, .int .i64 d2] 40)
    rw [World.size_alloc, World.size_alloc] at this
    exact box_below this (below_new _ _))
  have HX := Lib.hid (show W2.heap[W.heap.size + 3]? = some (.cells #[.int .i64 x0, .int .i64 x1, .int .i64 x2] 40) from by
    rw [← hW2]
    have := heap_alloc_new (((W.alloc (factObj F)).alloc (.cells #[.int .i64 v0, .int .i64 v1, .int .i64 v2] 40)).alloc (.cells #[.int .i64 d0, .int .i64 d1, .int .i64 d2] 40)) (.cells #[.int .i64 x0, .int .i64 x1, .int .i64 x2] 40)
    rw [World.size_alloc, World.size_alloc, World.size_alloc] at this
    exact this)
  have HB := Lib.hid hb2
  have HT := Lib.hid (ht.below hb2)
  have HS0 := Lib.hid hs
  clear ht hs hb2
  go_enter Tryd.func10, Tryd.ntmps10
  go_upto_region 1 with (fail)
  clear hW2
  go_wp2_with fail
  refine (sane_any W2 HT.out).mono ?_; rintro e w2 ⟨rfl, g2⟩
  have HT2 := Lib.hid (HT.out.below g2)
  have HB2 := Lib.hid (below_step HB.out g2)
  have HF2 := Lib.hid (box_below HF.out g2)
  have HV2 := Lib.hid (box_below HV.out g2)
  have HD2 := Lib.hid (box_below HD.out g2)
  have HX2 := Lib.hid (box_below HX.out g2)
  clear g2 HT HB HF HV HD HX
  go_wp2_with (refine wpList_load_fact rfl _ rfl _ rfl F HF2.out ?_)
  refine (cut_any F w2 HS0.out).mono ?_; rintro e w3 ⟨rfl, g3⟩
  have HT3 := Lib.hid (HT2.out.below g3)
  have HB3 := Lib.hid (below_step HB2.out g3)
  have HF3 := Lib.hid (box_below HF2.out g3)
  have HV3 := Lib.hid (box_below HV2.out g3)
  have HD3 := Lib.hid (box_below HD2.out g3)
  have HX3 := Lib.hid (box_below HX2.out g3)
  clear g3 HT2 HB2 HF2 HV2 HD2 HX2
  have HF4 := Lib.hid (setRow_heap w3 W.heap.size _ (factC (cutF F)) _ _ HF3.out)
  have HC4 := row_ch w3 W.heap.size (factC (cutF F))
  have HV4 := Lib.hid ((HC4.block _ (lt_of_block HV3.out) (by omega)).trans HV3.out)
  have HD4 := Lib.hid ((HC4.block _ (lt_of_block HD3.out) (by omega)).trans HD3.out)
  have HX4 := Lib.hid ((HC4.block _ (lt_of_block HX3.out) (by omega)).trans HX3.out)
  have HB4 := Lib.hid (HB3.out.trans (HC4.below (B := W.heap.size) (Nat.le_of_lt (lt_of_block HF3.out)) (fun k e => by omega)))
  have HT4 := Lib.hid (HT3.out.ch HC4 (fun e => by have := HTn.out; omega))
  have HS := Lib.hid (cutF_max F)
  clear HC4 HT3 HB3 HV3 HD3 HX3 HS0
  go_upto_region 3 with (refine wpList_store_at rfl rfl _ _ rfl W.heap.size (cutF F) rfl rfl _ HF3.out rfl ?_)
  clear HF3
  generalize w3.setRow W.heap.size (factC (cutF F)) = w4 at *
  generalize cutF F = G at *
  go_upto_region 4 with (fail)
  have g5 := below_new w4 (.cells (c3 ex0 ex0 ex0) 41)
  have hC : ChS W w4.heap.size G (.cells #[.int .i64 v0, .int .i64 v1, .int .i64 v2] 40) (.cells #[.int .i64 d0, .int .i64 d1, .int .i64 d2] 40) (.cells #[.int .i64 x0, .int .i64 x1, .int .i64 x2] 40) 41 (c3 ex0 ex0 ex0) (w4.alloc (.cells (c3 ex0 ex0 ex0) 41)) :=
    ⟨box_below HF4.out g5, box_below HV4.out g5, box_below HD4.out g5, box_below HX4.out g5, heap_alloc_new _ _, lt_of_block HX4.out, HT4.out.below g5, HTn.out, below_step HB4.out g5⟩
  have HC := Lib.hid hC
  clear g5 hC HF4 HV4 HD4 HX4 HT4 HB4
  rw [show w4.alloc (.cells #[.int .i64 0, .int .i64 0, .int .i64 0, .int .i64 0, .bool false, .int .i64 0, .int .i64 0, .int .i64 0, .int .i64 0, .int .i64 0, .int .i64 0, .int .i64 0, .int .i64 0, .int .i64 0, .int .i64 0, .int .i64 0, .int .i64 0, .int .i64 0, .string ⟨#[]⟩, .int .i64 0, .int .i64 0, .int .i64 0, .int .i64 0, .bool false, .int .i64 0, .int .i64 0, .int .i64 0, .int .i64 0, .int .i64 0, .int .i64 0, .int .i64 0, .int .i64 0, .int .i64 0, .int .i64 0, .int .i64 0, .int .i64 0, .int .i64 0, .string ⟨#[]⟩, .int .i64 0, .int .i64 0, .int .i64 0, .int .i64 0, .bool false, .int .i64 0, .int .i64 0, .int .i64 0, .int .i64 0, .int .i64 0, .int .i64 0, .int .i64 0, .int .i64 0, .int .i64 0, .int .i64 0, .int .i64 0, .int .i64 0, .int .i64 0, .string ⟨#[]⟩] 41) = w4.alloc (.cells (c3 ex0 ex0 ex0) 41) from rfl]
  generalize w4.alloc (.cells (c3 ex0 ex0 ex0) 41) = w5 at *
  generalize w4.heap.size = bl at *
  obtain ⟨M0, hM0⟩ : ∃ M, M = mkF G v0 d0 (if G.va = 0 then G.va else x0) := ⟨_, rfl⟩
  have HSm0 := Lib.hid (show M0.tx.size ≤ maxLen from by rw [hM0]; exact HS.out)
  obtain ⟨M1, hM1⟩ : ∃ M, M = mkF G v1 d1 (if G.va = 0 then G.va else x1) := ⟨_, rfl⟩
  have HSm1 := Lib.hid (show M1.tx.size ≤ maxLen from by rw [hM1]; exact HS.out)
  obtain ⟨M2, hM2⟩ : ∃ M, M = mkF G v2 d2 (if G.va = 0 then G.va else x2) := ⟨_, rfl⟩
  have HSm2 := Lib.hid (show M2.tx.size ≤ maxLen from by rw [hM2]; exact HS.out)
  have hk01 : validB M0 = true → validB M1 = true → keyB M0 = keyB M1 := fun h h' => by rw [hM0] at h ⊢; rw [hM1] at h' ⊢; exact mk_key h h'
  have HK01 := Lib.hid hk01
  clear hk01
  have hk02 : validB M0 = true → validB M2 = true → keyB M0 = keyB M2 := fun h h' => by rw [hM0] at h ⊢; rw [hM2] at h' ⊢; exact mk_key h h'
  have HK02 := Lib.hid hk02
  clear hk02
  have HM0 := Lib.hid hM0
  clear hM0
  have HM1 := Lib.hid hM1
  clear hM1
  have HM2 := Lib.hid hM2
  clear hM2
  go_wp2_with fail
  go_loopw [11] (fun i wr => (i = .int .i64 0 ∧ ChS W bl G (.cells #[.int .i64 v0, .int .i64 v1, .int .i64 v2] 40) (.cells #[.int .i64 d0, .int .i64 d1, .int .i64 d2] 40) (.cells #[.int .i64 x0, .int .i64 x1, .int .i64 x2] 40) 41 (c3 ex0 ex0 ex0) wr) ∨ (i = .int .i64 1 ∧ validB M0 = true ∧ ChS W bl G (.cells #[.int .i64 v0, .int .i64 v1, .int .i64 v2] 40) (.cells #[.int .i64 d0, .int .i64 d1, .int .i64 d2] 40) (.cells #[.int .i64 x0, .int .i64 x1, .int .i64 x2] 40) 41 (c3 M0 ex0 ex0) wr) ∨ (i = .int .i64 2 ∧ validB M0 = true ∧ validB M1 = true ∧ ChS W bl G (.cells #[.int .i64 v0, .int .i64 v1, .int .i64 v2] 40) (.cells #[.int .i64 d0, .int .i64 d1, .int .i64 d2] 40) (.cells #[.int .i64 x0, .int .i64 x1, .int .i64 x2] 40) 41 (c3 M0 M1 ex0) wr) ∨ (i = .int .i64 3 ∧ validB M0 = true ∧ validB M1 = true ∧ validB M2 = true ∧ ChS W bl G (.cells #[.int .i64 v0, .int .i64 v1, .int .i64 v2] 40) (.cells #[.int .i64 d0, .int .i64 d1, .int .i64 d2] 40) (.cells #[.int .i64 x0, .int .i64 x1, .int .i64 x2] 40) 41 (c3 M0 M1 M2) wr)) (fun i _ => 3 - (intOf i).toNat)
  case atStart => exact .inl ⟨rfl, HC.out⟩
  case round =>
    rcases hrel with ⟨rfl, hS⟩ | ⟨rfl, hv0, hS⟩ | ⟨rfl, hv0, hv1, hS⟩ | ⟨rfl, hv0, hv1, hv2, hS⟩
    · have H5 := Lib.hid hS
      clear hS
      go_upto_region 8 with (first | (refine wpList_load_fact rfl _ rfl _ rfl G H5.out.1 ?_) | (refine wpList_store_midF rfl rfl _ _ rfl bl 0 G rfl rfl 41 (c3 ex0 ex0 ex0) (c3 G ex0 ex0) H5.out.2.2.2.2.1 (by show _ ≤ 57; omega) rfl ?_))
      have H6 := Lib.hid (H5.out.row (c3 G ex0 ex0))
      clear H5
      generalize wr.setRow bl (c3 G ex0 ex0) = w6 at *
      have cV := box_cell H6.out.2.1 0 (.int .i64 v0) rfl
      have cL := box_cell H6.out.2.2.2.2.1 2 (.int .i64 G.v) rfl
      have zL := box_fz H6.out.2.2.2.2.1 2
      go_upto_region 9 with (fail)
      have H7 := Lib.hid (show ChS W bl G (.cells #[.int .i64 v0, .int .i64 v1, .int .i64 v2] 40) (.cells #[.int .i64 d0, .int .i64 d1, .int .i64 d2] 40) (.cells #[.int .i64 x0, .int .i64 x1, .int .i64 x2] 40) 41 (c3 (mkF G v0 G.d G.va) ex0 ex0) (w6.setCell ⟨bl, 2, none⟩ (.int .i64 v0)) from H6.out.cell 2 (.int .i64 v0))
      clear cV cL zL H6
      generalize w6.setCell ⟨bl, 2, none⟩ (.int .i64 v0) = w7 at *
      have cV := box_cell H7.out.2.2.1 0 (.int .i64 d0) rfl
      have cL := box_cell H7.out.2.2.2.2.1 3 (.int .i64 G.d) rfl
      have zL := box_fz H7.out.2.2.2.2.1 3
      go_upto_region 10 with (fail)
      have H8 := Lib.hid (show ChS W bl G (.cells #[.int .i64 v0, .int .i64 v1, .int .i64 v2] 40) (.cells #[.int .i64 d0, .int .i64 d1, .int .i64 d2] 40) (.cells #[.int .i64 x0, .int .i64 x1, .int .i64 x2] 40) 41 (c3 (mkF G v0 d0 G.va) ex0 ex0) (w7.setCell ⟨bl, 3, none⟩ (.int .i64 d0)) from H7.out.cell 3 (.int .i64 d0))
      clear cV cL zL H7
      generalize w7.setCell ⟨bl, 3, none⟩ (.int .i64 d0) = w8 at *
      have c16 := box_cell H8.out.1 16 (.int .i64 G.va) rfl
      by_cases hz : G.va = 0
      · have hz2 : (G.va == 0) = true := by simpa using hz
        go_upto_region 12 with (fail)
        clear c16 hz2
        rw [show mkF G v0 d0 G.va = M0 from by rw [HM0.out, if_pos hz]] at H8
        clear hz
        cases hv : validB M0 with
        | false =>
          have HVm := Lib.hid (fun V h => valid_any M0 V h HSm0.out)
          unfold BoolPost at HVm
          rw [hv] at HVm
          go_wp2_with (refine wpList_load_midF (by rfl) _ rfl bl 0 rfl 41 (c3 M0 ex0 ex0) M0 H8.out.2.2.2.2.1 rfl ?_)
          refine (HVm.out _ H8.out.2.2.2.2.2.2.1).mono ?_; rintro e wz ⟨rfl, gz⟩
          have HZ := Lib.hid (H8.out.below gz)
          clear gz HVm
          go_wp2_with fail
          go_ret
          exact ⟨rfl, HZ.out.2.2.2.2.2.2.2.2⟩
        | true =>
          have HVm := Lib.hid (fun V h => valid_any M0 V h HSm0.out)
          unfold BoolPost at HVm
          rw [hv] at HVm
          go_wp2_with (refine wpList_load_midF (by rfl) _ rfl bl 0 rfl 41 (c3 M0 ex0 ex0) M0 H8.out.2.2.2.2.1 rfl ?_)
          refine (HVm.out _ H8.out.2.2.2.2.2.2.1).mono ?_; rintro e wz ⟨rfl, gz⟩
          have HZ := Lib.hid (H8.out.below gz)
          clear gz HVm
          go_wp2_with fail
          go_roundw
          case rel => exact .inr (.inl ⟨rfl, hv, HZ.out⟩)
          case measure => decide
      · have hz2 : (G.va == 0) = false := by simpa using hz
        go_upto_region 11 with (fail)
        clear c16
        have cV := box_cell H8.out.2.2.2.1 0 (.int .i64 x0) rfl
        have cL := box_cell H8.out.2.2.2.2.1 16 (.int .i64 G.va) rfl
        have zL := box_fz H8.out.2.2.2.2.1 16
        go_upto_region 12 with (fail)
        have H9 := Lib.hid (show ChS W bl G (.cells #[.int .i64 v0, .int .i64 v1, .int .i64 v2] 40) (.cells #[.int .i64 d0, .int .i64 d1, .int .i64 d2] 40) (.cells #[.int .i64 x0, .int .i64 x1, .int .i64 x2] 40) 41 (c3 (mkF G v0 d0 x0) ex0 ex0) (w8.setCell ⟨bl, 16, none⟩ (.int .i64 x0)) from H8.out.cell 16 (.int .i64 x0))
        clear cV cL zL H8
        generalize w8.setCell ⟨bl, 16, none⟩ (.int .i64 x0) = w9 at *
        rw [show mkF G v0 d0 x0 = M0 from by rw [HM0.out, if_neg hz]] at H9
        clear hz hz2
        cases hv : validB M0 with
        | false =>
          have HVm := Lib.hid (fun V h => valid_any M0 V h HSm0.out)
          unfold BoolPost at HVm
          rw [hv] at HVm
          go_wp2_with (refine wpList_load_midF (by rfl) _ rfl bl 0 rfl 41 (c3 M0 ex0 ex0) M0 H9.out.2.2.2.2.1 rfl ?_)
          refine (HVm.out _ H9.out.2.2.2.2.2.2.1).mono ?_; rintro e wz ⟨rfl, gz⟩
          have HZ := Lib.hid (H9.out.below gz)
          clear gz HVm
          go_wp2_with fail
          go_ret
          exact ⟨rfl, HZ.out.2.2.2.2.2.2.2.2⟩
        | true =>
          have HVm := Lib.hid (fun V h => valid_any M0 V h HSm0.out)
          unfold BoolPost at HVm
          rw [hv] at HVm
          go_wp2_with (refine wpList_load_midF (by rfl) _ rfl bl 0 rfl 41 (c3 M0 ex0 ex0) M0 H9.out.2.2.2.2.1 rfl ?_)
          refine (HVm.out _ H9.out.2.2.2.2.2.2.1).mono ?_; rintro e wz ⟨rfl, gz⟩
          have HZ := Lib.hid (H9.out.below gz)
          clear gz HVm
          go_wp2_with fail
          go_roundw
          case rel => exact .inr (.inl ⟨rfl, hv, HZ.out⟩)
          case measure => decide
    · have H5 := Lib.hid hS
      clear hS
      go_upto_region 8 with (first | (refine wpList_load_fact rfl _ rfl _ rfl G H5.out.1 ?_) | (refine wpList_store_midF rfl rfl _ _ rfl bl 19 G rfl rfl 41 (c3 M0 ex0 ex0) (c3 M0 G ex0) H5.out.2.2.2.2.1 (by show _ ≤ 57; omega) rfl ?_))
      have H6 := Lib.hid (H5.out.row (c3 M0 G ex0))
      clear H5
      generalize wr.setRow bl (c3 M0 G ex0) = w6 at *
      have cV := box_cell H6.out.2.1 1 (.int .i64 v1) rfl
      have cL := box_cell H6.out.2.2.2.2.1 21 (.int .i64 G.v) rfl
      have zL := box_fz H6.out.2.2.2.2.1 21
      go_upto_region 9 with (fail)
      have H7 := Lib.hid (show ChS W bl G (.cells #[.int .i64 v0, .int .i64 v1, .int .i64 v2] 40) (.cells #[.int .i64 d0, .int .i64 d1, .int .i64 d2] 40) (.cells #[.int .i64 x0, .int .i64 x1, .int .i64 x2] 40) 41 (c3 M0 (mkF G v1 G.d G.va) ex0) (w6.setCell ⟨bl, 21, none⟩ (.int .i64 v1)) from H6.out.cell 21 (.int .i64 v1))
      clear cV cL zL H6
      generalize w6.setCell ⟨bl, 21, none⟩ (.int .i64 v1) = w7 at *
      have cV := box_cell H7.out.2.2.1 1 (.int .i64 d1) rfl
      have cL := box_cell H7.out.2.2.2.2.1 22 (.int .i64 G.d) rfl
      have zL := box_fz H7.out.2.2.2.2.1 22
      go_upto_region 10 with (fail)
      have H8 := Lib.hid (show ChS W bl G (.cells #[.int .i64 v0, .int .i64 v1, .int .i64 v2] 40) (.cells #[.int .i64 d0, .int .i64 d1, .int .i64 d2] 40) (.cells #[.int .i64 x0, .int .i64 x1, .int .i64 x2] 40) 41 (c3 M0 (mkF G v1 d1 G.va) ex0) (w7.setCell ⟨bl, 22, none⟩ (.int .i64 d1)) from H7.out.cell 22 (.int .i64 d1))
      clear cV cL zL H7
      generalize w7.setCell ⟨bl, 22, none⟩ (.int .i64 d1) = w8 at *
      have c16 := box_cell H8.out.1 16 (.int .i64 G.va) rfl
      by_cases hz : G.va = 0
      · have hz2 : (G.va == 0) = true := by simpa using hz
        go_upto_region 12 with (fail)
        clear c16 hz2
        rw [show mkF G v1 d1 G.va = M1 from by rw [HM1.out, if_pos hz]] at H8
        clear hz
        cases hv : validB M1 with
        | false =>
          have HVm := Lib.hid (fun V h => valid_any M1 V h HSm1.out)
          unfold BoolPost at HVm
          rw [hv] at HVm
          go_wp2_with (refine wpList_load_midF (by rfl) _ rfl bl 19 rfl 41 (c3 M0 M1 ex0) M1 H8.out.2.2.2.2.1 rfl ?_)
          refine (HVm.out _ H8.out.2.2.2.2.2.2.1).mono ?_; rintro e wz ⟨rfl, gz⟩
          have HZ := Lib.hid (H8.out.below gz)
          clear gz HVm
          go_wp2_with fail
          go_ret
          exact ⟨rfl, HZ.out.2.2.2.2.2.2.2.2⟩
        | true =>
          have HVm := Lib.hid (fun V h => valid_any M1 V h HSm1.out)
          unfold BoolPost at HVm
          rw [hv] at HVm
          go_wp2_with (refine wpList_load_midF (by rfl) _ rfl bl 19 rfl 41 (c3 M0 M1 ex0) M1 H8.out.2.2.2.2.1 rfl ?_)
          refine (HVm.out _ H8.out.2.2.2.2.2.2.1).mono ?_; rintro e wz ⟨rfl, gz⟩
          have HZ := Lib.hid (H8.out.below gz)
          clear gz HVm
          go_wp2_with fail
          go_roundw
          case rel => exact .inr (.inr (.inl ⟨rfl, hv0, hv, HZ.out⟩))
          case measure => decide
      · have hz2 : (G.va == 0) = false := by simpa using hz
        go_upto_region 11 with (fail)
        clear c16
        have cV := box_cell H8.out.2.2.2.1 1 (.int .i64 x1) rfl
        have cL := box_cell H8.out.2.2.2.2.1 35 (.int .i64 G.va) rfl
        have zL := box_fz H8.out.2.2.2.2.1 35
        go_upto_region 12 with (fail)
        have H9 := Lib.hid (show ChS W bl G (.cells #[.int .i64 v0, .int .i64 v1, .int .i64 v2] 40) (.cells #[.int .i64 d0, .int .i64 d1, .int .i64 d2] 40) (.cells #[.int .i64 x0, .int .i64 x1, .int .i64 x2] 40) 41 (c3 M0 (mkF G v1 d1 x1) ex0) (w8.setCell ⟨bl, 35, none⟩ (.int .i64 x1)) from H8.out.cell 35 (.int .i64 x1))
        clear cV cL zL H8
        generalize w8.setCell ⟨bl, 35, none⟩ (.int .i64 x1) = w9 at *
        rw [show mkF G v1 d1 x1 = M1 from by rw [HM1.out, if_neg hz]] at H9
        clear hz hz2
        cases hv : validB M1 with
        | false =>
          have HVm := Lib.hid (fun V h => valid_any M1 V h HSm1.out)
          unfold BoolPost at HVm
          rw [hv] at HVm
          go_wp2_with (refine wpList_load_midF (by rfl) _ rfl bl 19 rfl 41 (c3 M0 M1 ex0) M1 H9.out.2.2.2.2.1 rfl ?_)
          refine (HVm.out _ H9.out.2.2.2.2.2.2.1).mono ?_; rintro e wz ⟨rfl, gz⟩
          have HZ := Lib.hid (H9.out.below gz)
          clear gz HVm
          go_wp2_with fail
          go_ret
          exact ⟨rfl, HZ.out.2.2.2.2.2.2.2.2⟩
        | true =>
          have HVm := Lib.hid (fun V h => valid_any M1 V h HSm1.out)
          unfold BoolPost at HVm
          rw [hv] at HVm
          go_wp2_with (refine wpList_load_midF (by rfl) _ rfl bl 19 rfl 41 (c3 M0 M1 ex0) M1 H9.out.2.2.2.2.1 rfl ?_)
          refine (HVm.out _ H9.out.2.2.2.2.2.2.1).mono ?_; rintro e wz ⟨rfl, gz⟩
          have HZ := Lib.hid (H9.out.below gz)
          clear gz HVm
          go_wp2_with fail
          go_roundw
          case rel => exact .inr (.inr (.inl ⟨rfl, hv0, hv, HZ.out⟩))
          case measure => decide
    · have H5 := Lib.hid hS
      clear hS
      go_upto_region 8 with (first | (refine wpList_load_fact rfl _ rfl _ rfl G H5.out.1 ?_) | (refine wpList_store_midF rfl rfl _ _ rfl bl 38 G rfl rfl 41 (c3 M0 M1 ex0) (c3 M0 M1 G) H5.out.2.2.2.2.1 (by show _ ≤ 57; omega) rfl ?_))
      have H6 := Lib.hid (H5.out.row (c3 M0 M1 G))
      clear H5
      generalize wr.setRow bl (c3 M0 M1 G) = w6 at *
      have cV := box_cell H6.out.2.1 2 (.int .i64 v2) rfl
      have cL := box_cell H6.out.2.2.2.2.1 40 (.int .i64 G.v) rfl
      have zL := box_fz H6.out.2.2.2.2.1 40
      go_upto_region 9 with (fail)
      have H7 := Lib.hid (show ChS W bl G (.cells #[.int .i64 v0, .int .i64 v1, .int .i64 v2] 40) (.cells #[.int .i64 d0, .int .i64 d1, .int .i64 d2] 40) (.cells #[.int .i64 x0, .int .i64 x1, .int .i64 x2] 40) 41 (c3 M0 M1 (mkF G v2 G.d G.va)) (w6.setCell ⟨bl, 40, none⟩ (.int .i64 v2)) from H6.out.cell 40 (.int .i64 v2))
      clear cV cL zL H6
      generalize w6.setCell ⟨bl, 40, none⟩ (.int .i64 v2) = w7 at *
      have cV := box_cell H7.out.2.2.1 2 (.int .i64 d2) rfl
      have cL := box_cell H7.out.2.2.2.2.1 41 (.int .i64 G.d) rfl
      have zL := box_fz H7.out.2.2.2.2.1 41
      go_upto_region 10 with (fail)
      have H8 := Lib.hid (show ChS W bl G (.cells #[.int .i64 v0, .int .i64 v1, .int .i64 v2] 40) (.cells #[.int .i64 d0, .int .i64 d1, .int .i64 d2] 40) (.cells #[.int .i64 x0, .int .i64 x1, .int .i64 x2] 40) 41 (c3 M0 M1 (mkF G v2 d2 G.va)) (w7.setCell ⟨bl, 41, none⟩ (.int .i64 d2)) from H7.out.cell 41 (.int .i64 d2))
      clear cV cL zL H7
      generalize w7.setCell ⟨bl, 41, none⟩ (.int .i64 d2) = w8 at *
      have c16 := box_cell H8.out.1 16 (.int .i64 G.va) rfl
      by_cases hz : G.va = 0
      · have hz2 : (G.va == 0) = true := by simpa using hz
        go_upto_region 12 with (fail)
        clear c16 hz2
        rw [show mkF G v2 d2 G.va = M2 from by rw [HM2.out, if_pos hz]] at H8
        clear hz
        cases hv : validB M2 with
        | false =>
          have HVm := Lib.hid (fun V h => valid_any M2 V h HSm2.out)
          unfold BoolPost at HVm
          rw [hv] at HVm
          go_wp2_with (refine wpList_load_midF (by rfl) _ rfl bl 38 rfl 41 (c3 M0 M1 M2) M2 H8.out.2.2.2.2.1 rfl ?_)
          refine (HVm.out _ H8.out.2.2.2.2.2.2.1).mono ?_; rintro e wz ⟨rfl, gz⟩
          have HZ := Lib.hid (H8.out.below gz)
          clear gz HVm
          go_wp2_with fail
          go_ret
          exact ⟨rfl, HZ.out.2.2.2.2.2.2.2.2⟩
        | true =>
          have HVm := Lib.hid (fun V h => valid_any M2 V h HSm2.out)
          unfold BoolPost at HVm
          rw [hv] at HVm
          go_wp2_with (refine wpList_load_midF (by rfl) _ rfl bl 38 rfl 41 (c3 M0 M1 M2) M2 H8.out.2.2.2.2.1 rfl ?_)
          refine (HVm.out _ H8.out.2.2.2.2.2.2.1).mono ?_; rintro e wz ⟨rfl, gz⟩
          have HZ := Lib.hid (H8.out.below gz)
          clear gz HVm
          go_wp2_with fail
          go_roundw
          case rel => exact .inr (.inr (.inr ⟨rfl, hv0, hv1, hv, HZ.out⟩))
          case measure => decide
      · have hz2 : (G.va == 0) = false := by simpa using hz
        go_upto_region 11 with (fail)
        clear c16
        have cV := box_cell H8.out.2.2.2.1 2 (.int .i64 x2) rfl
        have cL := box_cell H8.out.2.2.2.2.1 54 (.int .i64 G.va) rfl
        have zL := box_fz H8.out.2.2.2.2.1 54
        go_upto_region 12 with (fail)
        have H9 := Lib.hid (show ChS W bl G (.cells #[.int .i64 v0, .int .i64 v1, .int .i64 v2] 40) (.cells #[.int .i64 d0, .int .i64 d1, .int .i64 d2] 40) (.cells #[.int .i64 x0, .int .i64 x1, .int .i64 x2] 40) 41 (c3 M0 M1 (mkF G v2 d2 x2)) (w8.setCell ⟨bl, 54, none⟩ (.int .i64 x2)) from H8.out.cell 54 (.int .i64 x2))
        clear cV cL zL H8
        generalize w8.setCell ⟨bl, 54, none⟩ (.int .i64 x2) = w9 at *
        rw [show mkF G v2 d2 x2 = M2 from by rw [HM2.out, if_neg hz]] at H9
        clear hz hz2
        cases hv : validB M2 with
        | false =>
          have HVm := Lib.hid (fun V h => valid_any M2 V h HSm2.out)
          unfold BoolPost at HVm
          rw [hv] at HVm
          go_wp2_with (refine wpList_load_midF (by rfl) _ rfl bl 38 rfl 41 (c3 M0 M1 M2) M2 H9.out.2.2.2.2.1 rfl ?_)
          refine (HVm.out _ H9.out.2.2.2.2.2.2.1).mono ?_; rintro e wz ⟨rfl, gz⟩
          have HZ := Lib.hid (H9.out.below gz)
          clear gz HVm
          go_wp2_with fail
          go_ret
          exact ⟨rfl, HZ.out.2.2.2.2.2.2.2.2⟩
        | true =>
          have HVm := Lib.hid (fun V h => valid_any M2 V h HSm2.out)
          unfold BoolPost at HVm
          rw [hv] at HVm
          go_wp2_with (refine wpList_load_midF (by rfl) _ rfl bl 38 rfl 41 (c3 M0 M1 M2) M2 H9.out.2.2.2.2.1 rfl ?_)
          refine (HVm.out _ H9.out.2.2.2.2.2.2.1).mono ?_; rintro e wz ⟨rfl, gz⟩
          have HZ := Lib.hid (H9.out.below gz)
          clear gz HVm
          go_wp2_with fail
          go_roundw
          case rel => exact .inr (.inr (.inr ⟨rfl, hv0, hv1, hv, HZ.out⟩))
          case measure => decide
    · have H := Lib.hid hS
      have htop := tops hv0 hv1 hv2 (HK01.out hv0 hv1) (HK02.out hv0 hv2)
      have HTop := Lib.hid htop
      clear hS htop HM0 HM1 HM2 HK01 HK02 hv0 hv1 hv2 HC
      have HP01 := Lib.hid (fun V h => prevails_any M0 M1 V h HSm0.out HSm1.out)
      unfold BoolPost at HP01
      have HP02 := Lib.hid (fun V h => prevails_any M0 M2 V h HSm0.out HSm2.out)
      unfold BoolPost at HP02
      have HP10 := Lib.hid (fun V h => prevails_any M1 M0 V h HSm1.out HSm0.out)
      unfold BoolPost at HP10
      have HP12 := Lib.hid (fun V h => prevails_any M1 M2 V h HSm1.out HSm2.out)
      unfold BoolPost at HP12
      have HP20 := Lib.hid (fun V h => prevails_any M2 M0 V h HSm2.out HSm0.out)
      unfold BoolPost at HP20
      have HP21 := Lib.hid (fun V h => prevails_any M2 M1 V h HSm2.out HSm1.out)
      unfold BoolPost at HP21
      go_upto_region 14 with (fail)
      go_cut [71] (fun s71 wx => s71 = .bool false ∧ Hid (ChS W bl G (.cells #[.int .i64 v0, .int .i64 v1, .int .i64 v2] 40) (.cells #[.int .i64 d0, .int .i64 d1, .int .i64 d2] 40) (.cells #[.int .i64 x0, .int .i64 x1, .int .i64 x2] 40) 41 (c3 M0 M1 M2) wx))
      case first =>
        cases p01 : prevB M0 M1 with
        | false =>
          rw [p01] at HP01
          go_wp2_with (first | (refine wpList_load_midF (by rfl) _ rfl bl 0 rfl 41 (c3 M0 M1 M2) M0 H.out.2.2.2.2.1 rfl ?_) | (refine wpList_load_midF (by rfl) _ rfl bl 19 rfl 41 (c3 M0 M1 M2) M1 H.out.2.2.2.2.1 rfl ?_) | (refine wpList_load_midF (by rfl) _ rfl bl 38 rfl 41 (c3 M0 M1 M2) M2 H.out.2.2.2.2.1 rfl ?_))
          refine (HP01.out _ H.out.2.2.2.2.2.2.1).mono ?_; rintro e wza ⟨rfl, gz⟩
          have Ha := Lib.hid (H.out.below gz)
          clear gz
          go_wp2_with fail
          go_meet
          exact ⟨rfl, Ha⟩
        | true =>
          cases p12 : prevB M1 M2 with
          | false =>
            rw [p01] at HP01
            rw [p12] at HP12
            go_wp2_with (first | (refine wpList_load_midF (by rfl) _ rfl bl 0 rfl 41 (c3 M0 M1 M2) M0 H.out.2.2.2.2.1 rfl ?_) | (refine wpList_load_midF (by rfl) _ rfl bl 19 rfl 41 (c3 M0 M1 M2) M1 H.out.2.2.2.2.1 rfl ?_) | (refine wpList_load_midF (by rfl) _ rfl bl 38 rfl 41 (c3 M0 M1 M2) M2 H.out.2.2.2.2.1 rfl ?_))
            refine (HP01.out _ H.out.2.2.2.2.2.2.1).mono ?_; rintro e wza ⟨rfl, gz⟩
            have Ha := Lib.hid (H.out.below gz)
            clear gz
            go_wp2_with (first | (refine wpList_load_midF (by rfl) _ rfl bl 0 rfl 41 (c3 M0 M1 M2) M0 Ha.out.2.2.2.2.1 rfl ?_) | (refine wpList_load_midF (by rfl) _ rfl bl 19 rfl 41 (c3 M0 M1 M2) M1 Ha.out.2.2.2.2.1 rfl ?_) | (refine wpList_load_midF (by rfl) _ rfl bl 38 rfl 41 (c3 M0 M1 M2) M2 Ha.out.2.2.2.2.1 rfl ?_))
            refine (HP12.out _ Ha.out.2.2.2.2.2.2.1).mono ?_; rintro e wzb ⟨rfl, gz⟩
            have Hb := Lib.hid (Ha.out.below gz)
            clear gz
            go_wp2_with fail
            go_meet
            exact ⟨rfl, Hb⟩
          | true =>
            have p02 := prev_trans p01 p12
            rw [p01] at HP01
            rw [p12] at HP12
            rw [p02] at HP02
            go_wp2_with (first | (refine wpList_load_midF (by rfl) _ rfl bl 0 rfl 41 (c3 M0 M1 M2) M0 H.out.2.2.2.2.1 rfl ?_) | (refine wpList_load_midF (by rfl) _ rfl bl 19 rfl 41 (c3 M0 M1 M2) M1 H.out.2.2.2.2.1 rfl ?_) | (refine wpList_load_midF (by rfl) _ rfl bl 38 rfl 41 (c3 M0 M1 M2) M2 H.out.2.2.2.2.1 rfl ?_))
            refine (HP01.out _ H.out.2.2.2.2.2.2.1).mono ?_; rintro e wza ⟨rfl, gz⟩
            have Ha := Lib.hid (H.out.below gz)
            clear gz
            go_wp2_with (first | (refine wpList_load_midF (by rfl) _ rfl bl 0 rfl 41 (c3 M0 M1 M2) M0 Ha.out.2.2.2.2.1 rfl ?_) | (refine wpList_load_midF (by rfl) _ rfl bl 19 rfl 41 (c3 M0 M1 M2) M1 Ha.out.2.2.2.2.1 rfl ?_) | (refine wpList_load_midF (by rfl) _ rfl bl 38 rfl 41 (c3 M0 M1 M2) M2 Ha.out.2.2.2.2.1 rfl ?_))
            refine (HP12.out _ Ha.out.2.2.2.2.2.2.1).mono ?_; rintro e wzb ⟨rfl, gz⟩
            have Hb := Lib.hid (Ha.out.below gz)
            clear gz
            go_wp2_with (first | (refine wpList_load_midF (by rfl) _ rfl bl 0 rfl 41 (c3 M0 M1 M2) M0 Hb.out.2.2.2.2.1 rfl ?_) | (refine wpList_load_midF (by rfl) _ rfl bl 19 rfl 41 (c3 M0 M1 M2) M1 Hb.out.2.2.2.2.1 rfl ?_) | (refine wpList_load_midF (by rfl) _ rfl bl 38 rfl 41 (c3 M0 M1 M2) M2 Hb.out.2.2.2.2.1 rfl ?_))
            refine (HP02.out _ Hb.out.2.2.2.2.2.2.1).mono ?_; rintro e wzc ⟨rfl, gz⟩
            have Hc := Lib.hid (Hb.out.below gz)
            clear gz
            go_wp2_with fail
            go_meet
            exact ⟨rfl, Hc⟩
      case rest =>
        obtain ⟨rfl, HC⟩ := hcut
        clear H
        go_wp2_with fail
        go_loopw [12, 13] (fun best i wr => Hid (ChS W bl G (.cells #[.int .i64 v0, .int .i64 v1, .int .i64 v2] 40) (.cells #[.int .i64 d0, .int .i64 d1, .int .i64 d2] 40) (.cells #[.int .i64 x0, .int .i64 x1, .int .i64 x2] 40) 41 (c3 M0 M1 M2) wr) ∧ ((i = .int .i64 1 ∧ best = .int .i64 0) ∨ (i = .int .i64 2 ∧ best = .int .i64 0 ∧ prevB M1 M0 = false) ∨ (i = .int .i64 2 ∧ best = .int .i64 1 ∧ prevB M1 M0 = true) ∨ (i = .int .i64 3 ∧ best = .int .i64 0 ∧ (TopB M0 M0 ∧ TopB M0 M1 ∧ TopB M0 M2)) ∨ (i = .int .i64 3 ∧ best = .int .i64 1 ∧ (TopB M1 M0 ∧ TopB M1 M1 ∧ TopB M1 M2)) ∨ (i = .int .i64 3 ∧ best = .int .i64 2 ∧ (TopB M2 M0 ∧ TopB M2 M1 ∧ TopB M2 M2)))) (fun _ i _ => 3 - (intOf i).toNat)
        case atStart => exact ⟨HC, .inl ⟨rfl, rfl⟩⟩
        case round =>
          obtain ⟨H, hrel⟩ := hrel
          rcases hrel with ⟨rfl, rfl⟩ | ⟨rfl, rfl, hp⟩ | ⟨rfl, rfl, hp⟩ | ⟨rfl, rfl, ht⟩ | ⟨rfl, rfl, ht⟩ | ⟨rfl, rfl, ht⟩
          · obtain hq | hq : prevB M1 M0 = false ∨ prevB M1 M0 = true := by cases prevB M1 M0 <;> simp
            · skip
              rw [hq] at HP10
              go_wp2_with fail
              refine wp_region_held_drew (S := (fun v => ChS W bl G (.cells #[.int .i64 v0, .int .i64 v1, .int .i64 v2] 40) (.cells #[.int .i64 d0, .int .i64 d1, .int .i64 d2] 40) (.cells #[.int .i64 x0, .int .i64 x1, .int .i64 x2] 40) 41 (c3 M0 M1 M2) v)) (by kernel_rfl) (H.out.drew) (fun hHeld => ?_)
              generalize wr.drew = wd at *
              refine wpAnyH_take (i := 0) (oi := { dst := some 76, op := Op.move (Operand.tmp 13), type := 3, pos := "law.go:161", after := #[], guard := none }) (v := ?vrf0) rfl (by kernel_rfl) (by kernel_rfl) (by kernel_rfl) (fun _ _ _ h => h) (Or.inl ⟨by rfl, ?yrf0⟩) (by assumption) ?trf0
              case yrf0 => (intro wz hSw; clear hSw; go_simp; try with_reducible rfl)
              simp only [Act.put, List.setIfInBounds_toArray, List.set_cons_zero, List.set_cons_succ]
              refine wpAnyH_take (i := 1) (oi := { dst := some 77, op := Op.indexAddr 41 (Operand.tmp 10) (Operand.tmp 76), type := 0, pos := "law.go:161", after := #[{ on := 0, ground := Ground.data }], guard := none }) (v := ?vrf1) rfl (by kernel_rfl) (by kernel_rfl) (by kernel_rfl) (fun _ _ _ h => h) (Or.inl ⟨by rfl, ?yrf1⟩) (by assumption) ?trf1
              case yrf1 => (intro wz hSw; clear hSw; go_simp; try with_reducible rfl)
              simp only [Act.put, List.setIfInBounds_toArray, List.set_cons_zero, List.set_cons_succ]
              refine wpAnyH_take (i := 2) (oi := { dst := some 78, op := Op.load 23 (Operand.tmp 77), type := 23, pos := "law.go:161", after := #[{ on := 1, ground := Ground.data }], guard := none }) (v := factV M1) rfl (by kernel_rfl) (by kernel_rfl) (by kernel_rfl) (fun _ _ _ h => h) (Or.inl ⟨by rfl, fun wz hSw => sem_load_mid _ rfl (bl) 19 rfl (c3 M0 M1 M2) M1 (hSw.2.2.2.2.1) rfl⟩) (by assumption) ?trf2
              simp only [Act.put, List.setIfInBounds_toArray, List.set_cons_zero, List.set_cons_succ]
              refine wpAnyH_take (i := 3) (oi := { dst := some 79, op := Op.move (Operand.tmp 12), type := 3, pos := "law.go:161", after := #[], guard := none }) (v := ?vrf3) rfl (by kernel_rfl) (by kernel_rfl) (by kernel_rfl) (fun _ _ _ h => h) (Or.inl ⟨by rfl, ?yrf3⟩) (by assumption) ?trf3
              case yrf3 => (intro wz hSw; clear hSw; go_simp; try with_reducible rfl)
              simp only [Act.put, List.setIfInBounds_toArray, List.set_cons_zero, List.set_cons_succ]
              refine wpAnyH_take (i := 4) (oi := { dst := some 80, op := Op.indexAddr 41 (Operand.tmp 10) (Operand.tmp 79), type := 0, pos := "law.go:161", after := #[{ on := 3, ground := Ground.data }], guard := none }) (v := ?vrf4) rfl (by kernel_rfl) (by kernel_rfl) (by kernel_rfl) (fun _ _ _ h => h) (Or.inl ⟨by rfl, ?yrf4⟩) (by assumption) ?trf4
              case yrf4 => (intro wz hSw; clear hSw; go_simp; try with_reducible rfl)
              simp only [Act.put, List.setIfInBounds_toArray, List.set_cons_zero, List.set_cons_succ]
              refine wpAnyH_take (i := 5) (oi := { dst := some 81, op := Op.load 23 (Operand.tmp 80), type := 23, pos := "law.go:161", after := #[{ on := 4, ground := Ground.data }], guard := none }) (v := factV M0) rfl (by kernel_rfl) (by kernel_rfl) (by kernel_rfl) (fun _ _ _ h => h) (Or.inl ⟨by rfl, fun wz hSw => sem_load_mid _ rfl (bl) 0 rfl (c3 M0 M1 M2) M0 (hSw.2.2.2.2.1) rfl⟩) (by assumption) ?trf5
              simp only [Act.put, List.setIfInBounds_toArray, List.set_cons_zero, List.set_cons_succ]
              refine wpAnyH_ready (rs := [6]) (by kernel_rfl) (by simp) ?_
              refine AllReadyH.cons (o := { dst := some 82, op := Op.call { callee := Callee.value (Operand.func 20), args := #[Operand.tmp 78, Operand.tmp 81], argTypes := #[23, 23] }, type := 4, pos := "law.go:161", after := #[{ on := 2, ground := Ground.data }, { on := 5, ground := Ground.data }], guard := none }) rfl (fun K hK => ?_) AllReadyH.nil
              have HH := Lib.hid hHeld
              go_simp
              refine (HP10.out _ HH.out.2.2.2.2.2.2.1).mono ?_; rintro e wz ⟨rfl, gz⟩
              have hz := HH.out.below gz
              clear gz HH
              refine hK.out _ _ (hz) (fun hHeld' => ?_)
              clear hK K hHeld
              have hHeld := hHeld'; clear hHeld'
              try simp only [Act.put, List.setIfInBounds_toArray, List.set_cons_zero, List.set_cons_succ]
              refine wpAnyH_done (by kernel_rfl) ?_ _
              have H2 := Lib.hid hHeld
              clear hHeld
              go_wp2_with fail
              go_roundw
              case rel => exact ⟨H2, .inr (.inl ⟨rfl, rfl, hq⟩)⟩
              case measure => decide
            · skip
              rw [hq] at HP10
              go_wp2_with fail
              refine wp_region_held_drew (S := (fun v => ChS W bl G (.cells #[.int .i64 v0, .int .i64 v1, .int .i64 v2] 40) (.cells #[.int .i64 d0, .int .i64 d1, .int .i64 d2] 40) (.cells #[.int .i64 x0, .int .i64 x1, .int .i64 x2] 40) 41 (c3 M0 M1 M2) v)) (by kernel_rfl) (H.out.drew) (fun hHeld => ?_)
              generalize wr.drew = wd at *
              refine wpAnyH_take (i := 0) (oi := { dst := some 76, op := Op.move (Operand.tmp 13), type := 3, pos := "law.go:161", after := #[], guard := none }) (v := ?vrt0) rfl (by kernel_rfl) (by kernel_rfl) (by kernel_rfl) (fun _ _ _ h => h) (Or.inl ⟨by rfl, ?yrt0⟩) (by assumption) ?trt0
              case yrt0 => (intro wz hSw; clear hSw; go_simp; try with_reducible rfl)
              simp only [Act.put, List.setIfInBounds_toArray, List.set_cons_zero, List.set_cons_succ]
              refine wpAnyH_take (i := 1) (oi := { dst := some 77, op := Op.indexAddr 41 (Operand.tmp 10) (Operand.tmp 76), type := 0, pos := "law.go:161", after := #[{ on := 0, ground := Ground.data }], guard := none }) (v := ?vrt1) rfl (by kernel_rfl) (by kernel_rfl) (by kernel_rfl) (fun _ _ _ h => h) (Or.inl ⟨by rfl, ?yrt1⟩) (by assumption) ?trt1
              case yrt1 => (intro wz hSw; clear hSw; go_simp; try with_reducible rfl)
              simp only [Act.put, List.setIfInBounds_toArray, List.set_cons_zero, List.set_cons_succ]
              refine wpAnyH_take (i := 2) (oi := { dst := some 78, op := Op.load 23 (Operand.tmp 77), type := 23, pos := "law.go:161", after := #[{ on := 1, ground := Ground.data }], guard := none }) (v := factV M1) rfl (by kernel_rfl) (by kernel_rfl) (by kernel_rfl) (fun _ _ _ h => h) (Or.inl ⟨by rfl, fun wz hSw => sem_load_mid _ rfl (bl) 19 rfl (c3 M0 M1 M2) M1 (hSw.2.2.2.2.1) rfl⟩) (by assumption) ?trt2
              simp only [Act.put, List.setIfInBounds_toArray, List.set_cons_zero, List.set_cons_succ]
              refine wpAnyH_take (i := 3) (oi := { dst := some 79, op := Op.move (Operand.tmp 12), type := 3, pos := "law.go:161", after := #[], guard := none }) (v := ?vrt3) rfl (by kernel_rfl) (by kernel_rfl) (by kernel_rfl) (fun _ _ _ h => h) (Or.inl ⟨by rfl, ?yrt3⟩) (by assumption) ?trt3
              case yrt3 => (intro wz hSw; clear hSw; go_simp; try with_reducible rfl)
              simp only [Act.put, List.setIfInBounds_toArray, List.set_cons_zero, List.set_cons_succ]
              refine wpAnyH_take (i := 4) (oi := { dst := some 80, op := Op.indexAddr 41 (Operand.tmp 10) (Operand.tmp 79), type := 0, pos := "law.go:161", after := #[{ on := 3, ground := Ground.data }], guard := none }) (v := ?vrt4) rfl (by kernel_rfl) (by kernel_rfl) (by kernel_rfl) (fun _ _ _ h => h) (Or.inl ⟨by rfl, ?yrt4⟩) (by assumption) ?trt4
              case yrt4 => (intro wz hSw; clear hSw; go_simp; try with_reducible rfl)
              simp only [Act.put, List.setIfInBounds_toArray, List.set_cons_zero, List.set_cons_succ]
              refine wpAnyH_take (i := 5) (oi := { dst := some 81, op := Op.load 23 (Operand.tmp 80), type := 23, pos := "law.go:161", after := #[{ on := 4, ground := Ground.data }], guard := none }) (v := factV M0) rfl (by kernel_rfl) (by kernel_rfl) (by kernel_rfl) (fun _ _ _ h => h) (Or.inl ⟨by rfl, fun wz hSw => sem_load_mid _ rfl (bl) 0 rfl (c3 M0 M1 M2) M0 (hSw.2.2.2.2.1) rfl⟩) (by assumption) ?trt5
              simp only [Act.put, List.setIfInBounds_toArray, List.set_cons_zero, List.set_cons_succ]
              refine wpAnyH_ready (rs := [6]) (by kernel_rfl) (by simp) ?_
              refine AllReadyH.cons (o := { dst := some 82, op := Op.call { callee := Callee.value (Operand.func 20), args := #[Operand.tmp 78, Operand.tmp 81], argTypes := #[23, 23] }, type := 4, pos := "law.go:161", after := #[{ on := 2, ground := Ground.data }, { on := 5, ground := Ground.data }], guard := none }) rfl (fun K hK => ?_) AllReadyH.nil
              have HH := Lib.hid hHeld
              go_simp
              refine (HP10.out _ HH.out.2.2.2.2.2.2.1).mono ?_; rintro e wz ⟨rfl, gz⟩
              have hz := HH.out.below gz
              clear gz HH
              refine hK.out _ _ (hz) (fun hHeld' => ?_)
              clear hK K hHeld
              have hHeld := hHeld'; clear hHeld'
              try simp only [Act.put, List.setIfInBounds_toArray, List.set_cons_zero, List.set_cons_succ]
              refine wpAnyH_done (by kernel_rfl) ?_ _
              have H2 := Lib.hid hHeld
              clear hHeld
              go_wp2_with fail
              go_roundw
              case rel => exact ⟨H2, .inr (.inr (.inl ⟨rfl, rfl, hq⟩))⟩
              case measure => decide
          · obtain hq | hq : prevB M2 M0 = false ∨ prevB M2 M0 = true := by cases prevB M2 M0 <;> simp
            · skip
              rw [hq] at HP20
              go_wp2_with fail
              refine wp_region_held_drew (S := (fun v => ChS W bl G (.cells #[.int .i64 v0, .int .i64 v1, .int .i64 v2] 40) (.cells #[.int .i64 d0, .int .i64 d1, .int .i64 d2] 40) (.cells #[.int .i64 x0, .int .i64 x1, .int .i64 x2] 40) 41 (c3 M0 M1 M2) v)) (by kernel_rfl) (H.out.drew) (fun hHeld => ?_)
              generalize wr.drew = wd at *
              refine wpAnyH_take (i := 0) (oi := { dst := some 76, op := Op.move (Operand.tmp 13), type := 3, pos := "law.go:161", after := #[], guard := none }) (v := ?vsf0) rfl (by kernel_rfl) (by kernel_rfl) (by kernel_rfl) (fun _ _ _ h => h) (Or.inl ⟨by rfl, ?ysf0⟩) (by assumption) ?tsf0
              case ysf0 => (intro wz hSw; clear hSw; go_simp; try with_reducible rfl)
              simp only [Act.put, List.setIfInBounds_toArray, List.set_cons_zero, List.set_cons_succ]
              refine wpAnyH_take (i := 1) (oi := { dst := some 77, op := Op.indexAddr 41 (Operand.tmp 10) (Operand.tmp 76), type := 0, pos := "law.go:161", after := #[{ on := 0, ground := Ground.data }], guard := none }) (v := ?vsf1) rfl (by kernel_rfl) (by kernel_rfl) (by kernel_rfl) (fun _ _ _ h => h) (Or.inl ⟨by rfl, ?ysf1⟩) (by assumption) ?tsf1
              case ysf1 => (intro wz hSw; clear hSw; go_simp; try with_reducible rfl)
              simp only [Act.put, List.setIfInBounds_toArray, List.set_cons_zero, List.set_cons_succ]
              refine wpAnyH_take (i := 2) (oi := { dst := some 78, op := Op.load 23 (Operand.tmp 77), type := 23, pos := "law.go:161", after := #[{ on := 1, ground := Ground.data }], guard := none }) (v := factV M2) rfl (by kernel_rfl) (by kernel_rfl) (by kernel_rfl) (fun _ _ _ h => h) (Or.inl ⟨by rfl, fun wz hSw => sem_load_mid _ rfl (bl) 38 rfl (c3 M0 M1 M2) M2 (hSw.2.2.2.2.1) rfl⟩) (by assumption) ?tsf2
              simp only [Act.put, List.setIfInBounds_toArray, List.set_cons_zero, List.set_cons_succ]
              refine wpAnyH_take (i := 3) (oi := { dst := some 79, op := Op.move (Operand.tmp 12), type := 3, pos := "law.go:161", after := #[], guard := none }) (v := ?vsf3) rfl (by kernel_rfl) (by kernel_rfl) (by kernel_rfl) (fun _ _ _ h => h) (Or.inl ⟨by rfl, ?ysf3⟩) (by assumption) ?tsf3
              case ysf3 => (intro wz hSw; clear hSw; go_simp; try with_reducible rfl)
              simp only [Act.put, List.setIfInBounds_toArray, List.set_cons_zero, List.set_cons_succ]
              refine wpAnyH_take (i := 4) (oi := { dst := some 80, op := Op.indexAddr 41 (Operand.tmp 10) (Operand.tmp 79), type := 0, pos := "law.go:161", after := #[{ on := 3, ground := Ground.data }], guard := none }) (v := ?vsf4) rfl (by kernel_rfl) (by kernel_rfl) (by kernel_rfl) (fun _ _ _ h => h) (Or.inl ⟨by rfl, ?ysf4⟩) (by assumption) ?tsf4
              case ysf4 => (intro wz hSw; clear hSw; go_simp; try with_reducible rfl)
              simp only [Act.put, List.setIfInBounds_toArray, List.set_cons_zero, List.set_cons_succ]
              refine wpAnyH_take (i := 5) (oi := { dst := some 81, op := Op.load 23 (Operand.tmp 80), type := 23, pos := "law.go:161", after := #[{ on := 4, ground := Ground.data }], guard := none }) (v := factV M0) rfl (by kernel_rfl) (by kernel_rfl) (by kernel_rfl) (fun _ _ _ h => h) (Or.inl ⟨by rfl, fun wz hSw => sem_load_mid _ rfl (bl) 0 rfl (c3 M0 M1 M2) M0 (hSw.2.2.2.2.1) rfl⟩) (by assumption) ?tsf5
              simp only [Act.put, List.setIfInBounds_toArray, List.set_cons_zero, List.set_cons_succ]
              refine wpAnyH_ready (rs := [6]) (by kernel_rfl) (by simp) ?_
              refine AllReadyH.cons (o := { dst := some 82, op := Op.call { callee := Callee.value (Operand.func 20), args := #[Operand.tmp 78, Operand.tmp 81], argTypes := #[23, 23] }, type := 4, pos := "law.go:161", after := #[{ on := 2, ground := Ground.data }, { on := 5, ground := Ground.data }], guard := none }) rfl (fun K hK => ?_) AllReadyH.nil
              have HH := Lib.hid hHeld
              go_simp
              refine (HP20.out _ HH.out.2.2.2.2.2.2.1).mono ?_; rintro e wz ⟨rfl, gz⟩
              have hz := HH.out.below gz
              clear gz HH
              refine hK.out _ _ (hz) (fun hHeld' => ?_)
              clear hK K hHeld
              have hHeld := hHeld'; clear hHeld'
              try simp only [Act.put, List.setIfInBounds_toArray, List.set_cons_zero, List.set_cons_succ]
              refine wpAnyH_done (by kernel_rfl) ?_ _
              have H2 := Lib.hid hHeld
              clear hHeld
              go_wp2_with fail
              go_roundw
              case rel => exact ⟨H2, .inr (.inr (.inr (.inl ⟨rfl, rfl, HTop.out.1 hp hq⟩)))⟩
              case measure => decide
            · skip
              rw [hq] at HP20
              go_wp2_with fail
              refine wp_region_held_drew (S := (fun v => ChS W bl G (.cells #[.int .i64 v0, .int .i64 v1, .int .i64 v2] 40) (.cells #[.int .i64 d0, .int .i64 d1, .int .i64 d2] 40) (.cells #[.int .i64 x0, .int .i64 x1, .int .i64 x2] 40) 41 (c3 M0 M1 M2) v)) (by kernel_rfl) (H.out.drew) (fun hHeld => ?_)
              generalize wr.drew = wd at *
              refine wpAnyH_take (i := 0) (oi := { dst := some 76, op := Op.move (Operand.tmp 13), type := 3, pos := "law.go:161", after := #[], guard := none }) (v := ?vst0) rfl (by kernel_rfl) (by kernel_rfl) (by kernel_rfl) (fun _ _ _ h => h) (Or.inl ⟨by rfl, ?yst0⟩) (by assumption) ?tst0
              case yst0 => (intro wz hSw; clear hSw; go_simp; try with_reducible rfl)
              simp only [Act.put, List.setIfInBounds_toArray, List.set_cons_zero, List.set_cons_succ]
              refine wpAnyH_take (i := 1) (oi := { dst := some 77, op := Op.indexAddr 41 (Operand.tmp 10) (Operand.tmp 76), type := 0, pos := "law.go:161", after := #[{ on := 0, ground := Ground.data }], guard := none }) (v := ?vst1) rfl (by kernel_rfl) (by kernel_rfl) (by kernel_rfl) (fun _ _ _ h => h) (Or.inl ⟨by rfl, ?yst1⟩) (by assumption) ?tst1
              case yst1 => (intro wz hSw; clear hSw; go_simp; try with_reducible rfl)
              simp only [Act.put, List.setIfInBounds_toArray, List.set_cons_zero, List.set_cons_succ]
              refine wpAnyH_take (i := 2) (oi := { dst := some 78, op := Op.load 23 (Operand.tmp 77), type := 23, pos := "law.go:161", after := #[{ on := 1, ground := Ground.data }], guard := none }) (v := factV M2) rfl (by kernel_rfl) (by kernel_rfl) (by kernel_rfl) (fun _ _ _ h => h) (Or.inl ⟨by rfl, fun wz hSw => sem_load_mid _ rfl (bl) 38 rfl (c3 M0 M1 M2) M2 (hSw.2.2.2.2.1) rfl⟩) (by assumption) ?tst2
              simp only [Act.put, List.setIfInBounds_toArray, List.set_cons_zero, List.set_cons_succ]
              refine wpAnyH_take (i := 3) (oi := { dst := some 79, op := Op.move (Operand.tmp 12), type := 3, pos := "law.go:161", after := #[], guard := none }) (v := ?vst3) rfl (by kernel_rfl) (by kernel_rfl) (by kernel_rfl) (fun _ _ _ h => h) (Or.inl ⟨by rfl, ?yst3⟩) (by assumption) ?tst3
              case yst3 => (intro wz hSw; clear hSw; go_simp; try with_reducible rfl)
              simp only [Act.put, List.setIfInBounds_toArray, List.set_cons_zero, List.set_cons_succ]
              refine wpAnyH_take (i := 4) (oi := { dst := some 80, op := Op.indexAddr 41 (Operand.tmp 10) (Operand.tmp 79), type := 0, pos := "law.go:161", after := #[{ on := 3, ground := Ground.data }], guard := none }) (v := ?vst4) rfl (by kernel_rfl) (by kernel_rfl) (by kernel_rfl) (fun _ _ _ h => h) (Or.inl ⟨by rfl, ?yst4⟩) (by assumption) ?tst4
              case yst4 => (intro wz hSw; clear hSw; go_simp; try with_reducible rfl)
              simp only [Act.put, List.setIfInBounds_toArray, List.set_cons_zero, List.set_cons_succ]
              refine wpAnyH_take (i := 5) (oi := { dst := some 81, op := Op.load 23 (Operand.tmp 80), type := 23, pos := "law.go:161", after := #[{ on := 4, ground := Ground.data }], guard := none }) (v := factV M0) rfl (by kernel_rfl) (by kernel_rfl) (by kernel_rfl) (fun _ _ _ h => h) (Or.inl ⟨by rfl, fun wz hSw => sem_load_mid _ rfl (bl) 0 rfl (c3 M0 M1 M2) M0 (hSw.2.2.2.2.1) rfl⟩) (by assumption) ?tst5
              simp only [Act.put, List.setIfInBounds_toArray, List.set_cons_zero, List.set_cons_succ]
              refine wpAnyH_ready (rs := [6]) (by kernel_rfl) (by simp) ?_
              refine AllReadyH.cons (o := { dst := some 82, op := Op.call { callee := Callee.value (Operand.func 20), args := #[Operand.tmp 78, Operand.tmp 81], argTypes := #[23, 23] }, type := 4, pos := "law.go:161", after := #[{ on := 2, ground := Ground.data }, { on := 5, ground := Ground.data }], guard := none }) rfl (fun K hK => ?_) AllReadyH.nil
              have HH := Lib.hid hHeld
              go_simp
              refine (HP20.out _ HH.out.2.2.2.2.2.2.1).mono ?_; rintro e wz ⟨rfl, gz⟩
              have hz := HH.out.below gz
              clear gz HH
              refine hK.out _ _ (hz) (fun hHeld' => ?_)
              clear hK K hHeld
              have hHeld := hHeld'; clear hHeld'
              try simp only [Act.put, List.setIfInBounds_toArray, List.set_cons_zero, List.set_cons_succ]
              refine wpAnyH_done (by kernel_rfl) ?_ _
              have H2 := Lib.hid hHeld
              clear hHeld
              go_wp2_with fail
              go_roundw
              case rel => exact ⟨H2, .inr (.inr (.inr (.inr (.inr ⟨rfl, rfl, HTop.out.2.1 hp hq⟩))))⟩
              case measure => decide
          · obtain hq | hq : prevB M2 M1 = false ∨ prevB M2 M1 = true := by cases prevB M2 M1 <;> simp
            · skip
              rw [hq] at HP21
              go_wp2_with fail
              refine wp_region_held_drew (S := (fun v => ChS W bl G (.cells #[.int .i64 v0, .int .i64 v1, .int .i64 v2] 40) (.cells #[.int .i64 d0, .int .i64 d1, .int .i64 d2] 40) (.cells #[.int .i64 x0, .int .i64 x1, .int .i64 x2] 40) 41 (c3 M0 M1 M2) v)) (by kernel_rfl) (H.out.drew) (fun hHeld => ?_)
              generalize wr.drew = wd at *
              refine wpAnyH_take (i := 0) (oi := { dst := some 76, op := Op.move (Operand.tmp 13), type := 3, pos := "law.go:161", after := #[], guard := none }) (v := ?vuf0) rfl (by kernel_rfl) (by kernel_rfl) (by kernel_rfl) (fun _ _ _ h => h) (Or.inl ⟨by rfl, ?yuf0⟩) (by assumption) ?tuf0
              case yuf0 => (intro wz hSw; clear hSw; go_simp; try with_reducible rfl)
              simp only [Act.put, List.setIfInBounds_toArray, List.set_cons_zero, List.set_cons_succ]
              refine wpAnyH_take (i := 1) (oi := { dst := some 77, op := Op.indexAddr 41 (Operand.tmp 10) (Operand.tmp 76), type := 0, pos := "law.go:161", after := #[{ on := 0, ground := Ground.data }], guard := none }) (v := ?vuf1) rfl (by kernel_rfl) (by kernel_rfl) (by kernel_rfl) (fun _ _ _ h => h) (Or.inl ⟨by rfl, ?yuf1⟩) (by assumption) ?tuf1
              case yuf1 => (intro wz hSw; clear hSw; go_simp; try with_reducible rfl)
              simp only [Act.put, List.setIfInBounds_toArray, List.set_cons_zero, List.set_cons_succ]
              refine wpAnyH_take (i := 2) (oi := { dst := some 78, op := Op.load 23 (Operand.tmp 77), type := 23, pos := "law.go:161", after := #[{ on := 1, ground := Ground.data }], guard := none }) (v := factV M2) rfl (by kernel_rfl) (by kernel_rfl) (by kernel_rfl) (fun _ _ _ h => h) (Or.inl ⟨by rfl, fun wz hSw => sem_load_mid _ rfl (bl) 38 rfl (c3 M0 M1 M2) M2 (hSw.2.2.2.2.1) rfl⟩) (by assumption) ?tuf2
              simp only [Act.put, List.setIfInBounds_toArray, List.set_cons_zero, List.set_cons_succ]
              refine wpAnyH_take (i := 3) (oi := { dst := some 79, op := Op.move (Operand.tmp 12), type := 3, pos := "law.go:161", after := #[], guard := none }) (v := ?vuf3) rfl (by kernel_rfl) (by kernel_rfl) (by kernel_rfl) (fun _ _ _ h => h) (Or.inl ⟨by rfl, ?yuf3⟩) (by assumption) ?tuf3
              case yuf3 => (intro wz hSw; clear hSw; go_simp; try with_reducible rfl)
              simp only [Act.put, List.setIfInBounds_toArray, List.set_cons_zero, List.set_cons_succ]
              refine wpAnyH_take (i := 4) (oi := { dst := some 80, op := Op.indexAddr 41 (Operand.tmp 10) (Operand.tmp 79), type := 0, pos := "law.go:161", after := #[{ on := 3, ground := Ground.data }], guard := none }) (v := ?vuf4) rfl (by kernel_rfl) (by kernel_rfl) (by kernel_rfl) (fun _ _ _ h => h) (Or.inl ⟨by rfl, ?yuf4⟩) (by assumption) ?tuf4
              case yuf4 => (intro wz hSw; clear hSw; go_simp; try with_reducible rfl)
              simp only [Act.put, List.setIfInBounds_toArray, List.set_cons_zero, List.set_cons_succ]
              refine wpAnyH_take (i := 5) (oi := { dst := some 81, op := Op.load 23 (Operand.tmp 80), type := 23, pos := "law.go:161", after := #[{ on := 4, ground := Ground.data }], guard := none }) (v := factV M1) rfl (by kernel_rfl) (by kernel_rfl) (by kernel_rfl) (fun _ _ _ h => h) (Or.inl ⟨by rfl, fun wz hSw => sem_load_mid _ rfl (bl) 19 rfl (c3 M0 M1 M2) M1 (hSw.2.2.2.2.1) rfl⟩) (by assumption) ?tuf5
              simp only [Act.put, List.setIfInBounds_toArray, List.set_cons_zero, List.set_cons_succ]
              refine wpAnyH_ready (rs := [6]) (by kernel_rfl) (by simp) ?_
              refine AllReadyH.cons (o := { dst := some 82, op := Op.call { callee := Callee.value (Operand.func 20), args := #[Operand.tmp 78, Operand.tmp 81], argTypes := #[23, 23] }, type := 4, pos := "law.go:161", after := #[{ on := 2, ground := Ground.data }, { on := 5, ground := Ground.data }], guard := none }) rfl (fun K hK => ?_) AllReadyH.nil
              have HH := Lib.hid hHeld
              go_simp
              refine (HP21.out _ HH.out.2.2.2.2.2.2.1).mono ?_; rintro e wz ⟨rfl, gz⟩
              have hz := HH.out.below gz
              clear gz HH
              refine hK.out _ _ (hz) (fun hHeld' => ?_)
              clear hK K hHeld
              have hHeld := hHeld'; clear hHeld'
              try simp only [Act.put, List.setIfInBounds_toArray, List.set_cons_zero, List.set_cons_succ]
              refine wpAnyH_done (by kernel_rfl) ?_ _
              have H2 := Lib.hid hHeld
              clear hHeld
              go_wp2_with fail
              go_roundw
              case rel => exact ⟨H2, .inr (.inr (.inr (.inr (.inl ⟨rfl, rfl, HTop.out.2.2.1 hp hq⟩))))⟩
              case measure => decide
            · skip
              rw [hq] at HP21
              go_wp2_with fail
              refine wp_region_held_drew (S := (fun v => ChS W bl G (.cells #[.int .i64 v0, .int .i64 v1, .int .i64 v2] 40) (.cells #[.int .i64 d0, .int .i64 d1, .int .i64 d2] 40) (.cells #[.int .i64 x0, .int .i64 x1, .int .i64 x2] 40) 41 (c3 M0 M1 M2) v)) (by kernel_rfl) (H.out.drew) (fun hHeld => ?_)
              generalize wr.drew = wd at *
              refine wpAnyH_take (i := 0) (oi := { dst := some 76, op := Op.move (Operand.tmp 13), type := 3, pos := "law.go:161", after := #[], guard := none }) (v := ?vut0) rfl (by kernel_rfl) (by kernel_rfl) (by kernel_rfl) (fun _ _ _ h => h) (Or.inl ⟨by rfl, ?yut0⟩) (by assumption) ?tut0
              case yut0 => (intro wz hSw; clear hSw; go_simp; try with_reducible rfl)
              simp only [Act.put, List.setIfInBounds_toArray, List.set_cons_zero, List.set_cons_succ]
              refine wpAnyH_take (i := 1) (oi := { dst := some 77, op := Op.indexAddr 41 (Operand.tmp 10) (Operand.tmp 76), type := 0, pos := "law.go:161", after := #[{ on := 0, ground := Ground.data }], guard := none }) (v := ?vut1) rfl (by kernel_rfl) (by kernel_rfl) (by kernel_rfl) (fun _ _ _ h => h) (Or.inl ⟨by rfl, ?yut1⟩) (by assumption) ?tut1
              case yut1 => (intro wz hSw; clear hSw; go_simp; try with_reducible rfl)
              simp only [Act.put, List.setIfInBounds_toArray, List.set_cons_zero, List.set_cons_succ]
              refine wpAnyH_take (i := 2) (oi := { dst := some 78, op := Op.load 23 (Operand.tmp 77), type := 23, pos := "law.go:161", after := #[{ on := 1, ground := Ground.data }], guard := none }) (v := factV M2) rfl (by kernel_rfl) (by kernel_rfl) (by kernel_rfl) (fun _ _ _ h => h) (Or.inl ⟨by rfl, fun wz hSw => sem_load_mid _ rfl (bl) 38 rfl (c3 M0 M1 M2) M2 (hSw.2.2.2.2.1) rfl⟩) (by assumption) ?tut2
              simp only [Act.put, List.setIfInBounds_toArray, List.set_cons_zero, List.set_cons_succ]
              refine wpAnyH_take (i := 3) (oi := { dst := some 79, op := Op.move (Operand.tmp 12), type := 3, pos := "law.go:161", after := #[], guard := none }) (v := ?vut3) rfl (by kernel_rfl) (by kernel_rfl) (by kernel_rfl) (fun _ _ _ h => h) (Or.inl ⟨by rfl, ?yut3⟩) (by assumption) ?tut3
              case yut3 => (intro wz hSw; clear hSw; go_simp; try with_reducible rfl)
              simp only [Act.put, List.setIfInBounds_toArray, List.set_cons_zero, List.set_cons_succ]
              refine wpAnyH_take (i := 4) (oi := { dst := some 80, op := Op.indexAddr 41 (Operand.tmp 10) (Operand.tmp 79), type := 0, pos := "law.go:161", after := #[{ on := 3, ground := Ground.data }], guard := none }) (v := ?vut4) rfl (by kernel_rfl) (by kernel_rfl) (by kernel_rfl) (fun _ _ _ h => h) (Or.inl ⟨by rfl, ?yut4⟩) (by assumption) ?tut4
              case yut4 => (intro wz hSw; clear hSw; go_simp; try with_reducible rfl)
              simp only [Act.put, List.setIfInBounds_toArray, List.set_cons_zero, List.set_cons_succ]
              refine wpAnyH_take (i := 5) (oi := { dst := some 81, op := Op.load 23 (Operand.tmp 80), type := 23, pos := "law.go:161", after := #[{ on := 4, ground := Ground.data }], guard := none }) (v := factV M1) rfl (by kernel_rfl) (by kernel_rfl) (by kernel_rfl) (fun _ _ _ h => h) (Or.inl ⟨by rfl, fun wz hSw => sem_load_mid _ rfl (bl) 19 rfl (c3 M0 M1 M2) M1 (hSw.2.2.2.2.1) rfl⟩) (by assumption) ?tut5
              simp only [Act.put, List.setIfInBounds_toArray, List.set_cons_zero, List.set_cons_succ]
              refine wpAnyH_ready (rs := [6]) (by kernel_rfl) (by simp) ?_
              refine AllReadyH.cons (o := { dst := some 82, op := Op.call { callee := Callee.value (Operand.func 20), args := #[Operand.tmp 78, Operand.tmp 81], argTypes := #[23, 23] }, type := 4, pos := "law.go:161", after := #[{ on := 2, ground := Ground.data }, { on := 5, ground := Ground.data }], guard := none }) rfl (fun K hK => ?_) AllReadyH.nil
              have HH := Lib.hid hHeld
              go_simp
              refine (HP21.out _ HH.out.2.2.2.2.2.2.1).mono ?_; rintro e wz ⟨rfl, gz⟩
              have hz := HH.out.below gz
              clear gz HH
              refine hK.out _ _ (hz) (fun hHeld' => ?_)
              clear hK K hHeld
              have hHeld := hHeld'; clear hHeld'
              try simp only [Act.put, List.setIfInBounds_toArray, List.set_cons_zero, List.set_cons_succ]
              refine wpAnyH_done (by kernel_rfl) ?_ _
              have H2 := Lib.hid hHeld
              clear hHeld
              go_wp2_with fail
              go_roundw
              case rel => exact ⟨H2, .inr (.inr (.inr (.inr (.inr ⟨rfl, rfl, HTop.out.2.2.2 hp hq⟩))))⟩
              case measure => decide
          · have HC := Lib.hid H.out
            clear H
            go_wp2_with fail
            go_loopw [14] (fun i wr => Hid (ChS W bl G (.cells #[.int .i64 v0, .int .i64 v1, .int .i64 v2] 40) (.cells #[.int .i64 d0, .int .i64 d1, .int .i64 d2] 40) (.cells #[.int .i64 x0, .int .i64 x1, .int .i64 x2] 40) 41 (c3 M0 M1 M2) wr) ∧ (i = .int .i64 0 ∨ i = .int .i64 1 ∨ i = .int .i64 2 ∨ i = .int .i64 3)) (fun i _ => 3 - (intOf i).toNat)
            case atStart => exact ⟨HC, .inl rfl⟩
            case round =>
              obtain ⟨H, hrel⟩ := hrel
              rcases hrel with rfl | rfl | rfl | rfl
              · have hEq := fun V => run_factNe M0 M0 V
                rw [show (!decide (M0 = M0)) = false by simp] at hEq
                have hGu := run_factGuard
                go_wp2_with fail
                refine wp_region_held_drew (S := (fun v => ChS W bl G (.cells #[.int .i64 v0, .int .i64 v1, .int .i64 v2] 40) (.cells #[.int .i64 d0, .int .i64 d1, .int .i64 d2] 40) (.cells #[.int .i64 x0, .int .i64 x1, .int .i64 x2] 40) 41 (c3 M0 M1 M2) v)) (by kernel_rfl) (H.out.drew) (fun hHeld => ?_)
                generalize wr.drew = wd at *
                refine wpAnyH_take (i := 0) (oi := { dst := some 88, op := Op.move (Operand.tmp 14), type := 3, pos := "law.go:166", after := #[], guard := none }) (v := ?vz000) rfl (by kernel_rfl) (by kernel_rfl) (by kernel_rfl) (fun _ _ _ h => h) (Or.inl ⟨by rfl, ?yz000⟩) (by assumption) ?tz000
                case yz000 => (intro wz hSw; clear hSw; go_simp; try with_reducible rfl)
                simp only [Act.put, List.setIfInBounds_toArray, List.set_cons_zero, List.set_cons_succ]
                refine wpAnyH_take (i := 1) (oi := { dst := some 89, op := Op.indexAddr 41 (Operand.tmp 10) (Operand.tmp 88), type := 0, pos := "law.go:166", after := #[{ on := 0, ground := Ground.data }], guard := none }) (v := ?vz001) rfl (by kernel_rfl) (by kernel_rfl) (by kernel_rfl) (fun _ _ _ h => h) (Or.inl ⟨by rfl, ?yz001⟩) (by assumption) ?tz001
                case yz001 => (intro wz hSw; clear hSw; go_simp; try with_reducible rfl)
                simp only [Act.put, List.setIfInBounds_toArray, List.set_cons_zero, List.set_cons_succ]
                refine wpAnyH_take (i := 2) (oi := { dst := some 90, op := Op.load 23 (Operand.tmp 89), type := 23, pos := "law.go:166", after := #[{ on := 1, ground := Ground.data }], guard := none }) (v := factV M0) rfl (by kernel_rfl) (by kernel_rfl) (by kernel_rfl) (fun _ _ _ h => h) (Or.inl ⟨by rfl, fun wz hSw => sem_load_mid _ rfl (bl) 0 rfl (c3 M0 M1 M2) M0 (hSw.2.2.2.2.1) rfl⟩) (by assumption) ?tz002
                simp only [Act.put, List.setIfInBounds_toArray, List.set_cons_zero, List.set_cons_succ]
                refine wpAnyH_take (i := 3) (oi := { dst := some 91, op := Op.move (Operand.tmp 12), type := 3, pos := "law.go:166", after := #[], guard := none }) (v := ?vz003) rfl (by kernel_rfl) (by kernel_rfl) (by kernel_rfl) (fun _ _ _ h => h) (Or.inl ⟨by rfl, ?yz003⟩) (by assumption) ?tz003
                case yz003 => (intro wz hSw; clear hSw; go_simp; try with_reducible rfl)
                simp only [Act.put, List.setIfInBounds_toArray, List.set_cons_zero, List.set_cons_succ]
                refine wpAnyH_take (i := 4) (oi := { dst := some 92, op := Op.indexAddr 41 (Operand.tmp 10) (Operand.tmp 91), type := 0, pos := "law.go:166", after := #[{ on := 3, ground := Ground.data }], guard := none }) (v := ?vz004) rfl (by kernel_rfl) (by kernel_rfl) (by kernel_rfl) (fun _ _ _ h => h) (Or.inl ⟨by rfl, ?yz004⟩) (by assumption) ?tz004
                case yz004 => (intro wz hSw; clear hSw; go_simp; try with_reducible rfl)
                simp only [Act.put, List.setIfInBounds_toArray, List.set_cons_zero, List.set_cons_succ]
                refine wpAnyH_take (i := 5) (oi := { dst := some 93, op := Op.load 23 (Operand.tmp 92), type := 23, pos := "law.go:166", after := #[{ on := 4, ground := Ground.data }], guard := none }) (v := factV M0) rfl (by kernel_rfl) (by kernel_rfl) (by kernel_rfl) (fun _ _ _ h => h) (Or.inl ⟨by rfl, fun wz hSw => sem_load_mid _ rfl (bl) 0 rfl (c3 M0 M1 M2) M0 (hSw.2.2.2.2.1) rfl⟩) (by assumption) ?tz005
                simp only [Act.put, List.setIfInBounds_toArray, List.set_cons_zero, List.set_cons_succ]
                refine wpAnyH_take (i := 6) (oi := { dst := some 94, op := Op.binOp BinOp.neq 23 (Operand.tmp 90) (Operand.tmp 93) 23, type := 4, pos := "law.go:166", after := #[{ on := 2, ground := Ground.data }, { on := 5, ground := Ground.data }], guard := none }) (v := ?vz006) rfl (by kernel_rfl) (by kernel_rfl) (by kernel_rfl) (fun _ _ _ h => h) (Or.inl ⟨by rfl, ?yz006⟩) (by assumption) ?tz006
                case yz006 => (intro wz hSw; clear hSw; go_simp; try with_reducible rfl)
                simp only [Act.put, List.setIfInBounds_toArray, List.set_cons_zero, List.set_cons_succ]
                refine wpAnyH_take (i := 7) (oi := { dst := some 95, op := Op.move (Operand.tmp 94), type := 4, pos := "law.go:166", after := #[{ on := 6, ground := Ground.data }], guard := none }) (v := ?vz007) rfl (by kernel_rfl) (by kernel_rfl) (by kernel_rfl) (fun _ _ _ h => h) (Or.inl ⟨by rfl, ?yz007⟩) (by assumption) ?tz007
                case yz007 => (intro wz hSw; clear hSw; go_simp; try with_reducible rfl)
                simp only [Act.put, List.setIfInBounds_toArray, List.set_cons_zero, List.set_cons_succ]
                refine wpAnyH_take (i := 8) (oi := { dst := some 96, op := Op.move (Operand.tmp 12), type := 3, pos := "law.go:166", after := #[{ on := 7, ground := Ground.guard }], guard := some (7, true) }) (v := undef) rfl (by kernel_rfl) (by kernel_rfl) (by kernel_rfl) (fun _ _ _ h => h) (Or.inr ⟨by rfl, rfl⟩) (by assumption) ?_
                simp only [Act.put, List.setIfInBounds_toArray, List.set_cons_zero, List.set_cons_succ]
                refine wpAnyH_take (i := 9) (oi := { dst := some 97, op := Op.indexAddr 41 (Operand.tmp 10) (Operand.tmp 96), type := 0, pos := "law.go:166", after := #[{ on := 8, ground := Ground.data }, { on := 7, ground := Ground.guard }], guard := some (7, true) }) (v := undef) rfl (by kernel_rfl) (by kernel_rfl) (by kernel_rfl) (fun _ _ _ h => h) (Or.inr ⟨by rfl, rfl⟩) (by assumption) ?_
                simp only [Act.put, List.setIfInBounds_toArray, List.set_cons_zero, List.set_cons_succ]
                refine wpAnyH_take (i := 10) (oi := { dst := some 98, op := Op.load 23 (Operand.tmp 97), type := 23, pos := "law.go:166", after := #[{ on := 9, ground := Ground.data }, { on := 7, ground := Ground.guard }], guard := some (7, true) }) (v := undef) rfl (by kernel_rfl) (by kernel_rfl) (by kernel_rfl) (fun _ _ _ h => h) (Or.inr ⟨by rfl, rfl⟩) (by assumption) ?_
                simp only [Act.put, List.setIfInBounds_toArray, List.set_cons_zero, List.set_cons_succ]
                refine wpAnyH_take (i := 11) (oi := { dst := some 99, op := Op.move (Operand.tmp 14), type := 3, pos := "law.go:166", after := #[{ on := 7, ground := Ground.guard }], guard := some (7, true) }) (v := undef) rfl (by kernel_rfl) (by kernel_rfl) (by kernel_rfl) (fun _ _ _ h => h) (Or.inr ⟨by rfl, rfl⟩) (by assumption) ?_
                simp only [Act.put, List.setIfInBounds_toArray, List.set_cons_zero, List.set_cons_succ]
                refine wpAnyH_take (i := 12) (oi := { dst := some 100, op := Op.indexAddr 41 (Operand.tmp 10) (Operand.tmp 99), type := 0, pos := "law.go:166", after := #[{ on := 11, ground := Ground.data }, { on := 7, ground := Ground.guard }], guard := some (7, true) }) (v := undef) rfl (by kernel_rfl) (by kernel_rfl) (by kernel_rfl) (fun _ _ _ h => h) (Or.inr ⟨by rfl, rfl⟩) (by assumption) ?_
                simp only [Act.put, List.setIfInBounds_toArray, List.set_cons_zero, List.set_cons_succ]
                refine wpAnyH_take (i := 13) (oi := { dst := some 101, op := Op.load 23 (Operand.tmp 100), type := 23, pos := "law.go:166", after := #[{ on := 12, ground := Ground.data }, { on := 7, ground := Ground.guard }], guard := some (7, true) }) (v := undef) rfl (by kernel_rfl) (by kernel_rfl) (by kernel_rfl) (fun _ _ _ h => h) (Or.inr ⟨by rfl, rfl⟩) (by assumption) ?_
                simp only [Act.put, List.setIfInBounds_toArray, List.set_cons_zero, List.set_cons_succ]
                refine wpAnyH_take (i := 14) (oi := { dst := some 102, op := Op.call { callee := Callee.value (Operand.func 20), args := #[Operand.tmp 98, Operand.tmp 101], argTypes := #[23, 23] }, type := 4, pos := "law.go:166", after := #[{ on := 10, ground := Ground.data }, { on := 13, ground := Ground.data }, { on := 7, ground := Ground.chain }, { on := 7, ground := Ground.guard }], guard := some (7, true) }) (v := undef) rfl (by kernel_rfl) (by kernel_rfl) (by kernel_rfl) (fun _ _ _ h => h) (Or.inr ⟨by rfl, rfl⟩) (by assumption) ?_
                simp only [Act.put, List.setIfInBounds_toArray, List.set_cons_zero, List.set_cons_succ]
                refine wpAnyH_take (i := 15) (oi := { dst := some 103, op := Op.unOp UnOp.not 4 (Operand.tmp 102), type := 4, pos := "law.go:166", after := #[{ on := 14, ground := Ground.data }, { on := 7, ground := Ground.guard }], guard := some (7, true) }) (v := undef) rfl (by kernel_rfl) (by kernel_rfl) (by kernel_rfl) (fun _ _ _ h => h) (Or.inr ⟨by rfl, rfl⟩) (by assumption) ?_
                simp only [Act.put, List.setIfInBounds_toArray, List.set_cons_zero, List.set_cons_succ]
                refine wpAnyH_take (i := 16) (oi := { dst := some 104, op := Op.pick (Operand.tmp 95) (Operand.tmp 103) (Operand.const (Value.bool false)), type := 4, pos := "law.go:166", after := #[{ on := 7, ground := Ground.data }, { on := 15, ground := Ground.data }], guard := none }) (v := ?vz0016) rfl (by kernel_rfl) (by kernel_rfl) (by kernel_rfl) (fun _ _ _ h => h) (Or.inl ⟨by rfl, ?yz0016⟩) (by assumption) ?tz0016
                case yz0016 => (intro wz hSw; clear hSw; go_simp; try with_reducible rfl)
                simp only [Act.put, List.setIfInBounds_toArray, List.set_cons_zero, List.set_cons_succ]
                refine wpAnyH_done (by kernel_rfl) ?_ _
                have H2 := Lib.hid hHeld
                clear hHeld
                go_wp2_with fail
                go_roundw
                case rel => exact ⟨H2, .inr (.inl rfl)⟩
                case measure => decide
              · rcases ht.2.1 with he | ⟨he, hq⟩
                · have hEq := fun V => run_factNe M1 M0 V
                  rw [show (!decide (M1 = M0)) = false by rw [he]; simp] at hEq
                  have hGu := run_factGuard
                  clear he
                  go_wp2_with fail
                  refine wp_region_held_drew (S := (fun v => ChS W bl G (.cells #[.int .i64 v0, .int .i64 v1, .int .i64 v2] 40) (.cells #[.int .i64 d0, .int .i64 d1, .int .i64 d2] 40) (.cells #[.int .i64 x0, .int .i64 x1, .int .i64 x2] 40) 41 (c3 M0 M1 M2) v)) (by kernel_rfl) (H.out.drew) (fun hHeld => ?_)
                  generalize wr.drew = wd at *
                  refine wpAnyH_take (i := 0) (oi := { dst := some 88, op := Op.move (Operand.tmp 14), type := 3, pos := "law.go:166", after := #[], guard := none }) (v := ?vz01a0) rfl (by kernel_rfl) (by kernel_rfl) (by kernel_rfl) (fun _ _ _ h => h) (Or.inl ⟨by rfl, ?yz01a0⟩) (by assumption) ?tz01a0
                  case yz01a0 => (intro wz hSw; clear hSw; go_simp; try with_reducible rfl)
                  simp only [Act.put, List.setIfInBounds_toArray, List.set_cons_zero, List.set_cons_succ]
                  refine wpAnyH_take (i := 1) (oi := { dst := some 89, op := Op.indexAddr 41 (Operand.tmp 10) (Operand.tmp 88), type := 0, pos := "law.go:166", after := #[{ on := 0, ground := Ground.data }], guard := none }) (v := ?vz01a1) rfl (by kernel_rfl) (by kernel_rfl) (by kernel_rfl) (fun _ _ _ h => h) (Or.inl ⟨by rfl, ?yz01a1⟩) (by assumption) ?tz01a1
                  case yz01a1 => (intro wz hSw; clear hSw; go_simp; try with_reducible rfl)
                  simp only [Act.put, List.setIfInBounds_toArray, List.set_cons_zero, List.set_cons_succ]
                  refine wpAnyH_take (i := 2) (oi := { dst := some 90, op := Op.load 23 (Operand.tmp 89), type := 23, pos := "law.go:166", after := #[{ on := 1, ground := Ground.data }], guard := none }) (v := factV M1) rfl (by kernel_rfl) (by kernel_rfl) (by kernel_rfl) (fun _ _ _ h => h) (Or.inl ⟨by rfl, fun wz hSw => sem_load_mid _ rfl (bl) 19 rfl (c3 M0 M1 M2) M1 (hSw.2.2.2.2.1) rfl⟩) (by assumption) ?tz01a2
                  simp only [Act.put, List.setIfInBounds_toArray, List.set_cons_zero, List.set_cons_succ]
                  refine wpAnyH_take (i := 3) (oi := { dst := some 91, op := Op.move (Operand.tmp 12), type := 3, pos := "law.go:166", after := #[], guard := none }) (v := ?vz01a3) rfl (by kernel_rfl) (by kernel_rfl) (by kernel_rfl) (fun _ _ _ h => h) (Or.inl ⟨by rfl, ?yz01a3⟩) (by assumption) ?tz01a3
                  case yz01a3 => (intro wz hSw; clear hSw; go_simp; try with_reducible rfl)
                  simp only [Act.put, List.setIfInBounds_toArray, List.set_cons_zero, List.set_cons_succ]
                  refine wpAnyH_take (i := 4) (oi := { dst := some 92, op := Op.indexAddr 41 (Operand.tmp 10) (Operand.tmp 91), type := 0, pos := "law.go:166", after := #[{ on := 3, ground := Ground.data }], guard := none }) (v := ?vz01a4) rfl (by kernel_rfl) (by kernel_rfl) (by kernel_rfl) (fun _ _ _ h => h) (Or.inl ⟨by rfl, ?yz01a4⟩) (by assumption) ?tz01a4
                  case yz01a4 => (intro wz hSw; clear hSw; go_simp; try with_reducible rfl)
                  simp only [Act.put, List.setIfInBounds_toArray, List.set_cons_zero, List.set_cons_succ]
                  refine wpAnyH_take (i := 5) (oi := { dst := some 93, op := Op.load 23 (Operand.tmp 92), type := 23, pos := "law.go:166", after := #[{ on := 4, ground := Ground.data }], guard := none }) (v := factV M0) rfl (by kernel_rfl) (by kernel_rfl) (by kernel_rfl) (fun _ _ _ h => h) (Or.inl ⟨by rfl, fun wz hSw => sem_load_mid _ rfl (bl) 0 rfl (c3 M0 M1 M2) M0 (hSw.2.2.2.2.1) rfl⟩) (by assumption) ?tz01a5
                  simp only [Act.put, List.setIfInBounds_toArray, List.set_cons_zero, List.set_cons_succ]
                  refine wpAnyH_take (i := 6) (oi := { dst := some 94, op := Op.binOp BinOp.neq 23 (Operand.tmp 90) (Operand.tmp 93) 23, type := 4, pos := "law.go:166", after := #[{ on := 2, ground := Ground.data }, { on := 5, ground := Ground.data }], guard := none }) (v := ?vz01a6) rfl (by kernel_rfl) (by kernel_rfl) (by kernel_rfl) (fun _ _ _ h => h) (Or.inl ⟨by rfl, ?yz01a6⟩) (by assumption) ?tz01a6
                  case yz01a6 => (intro wz hSw; clear hSw; go_simp; try with_reducible rfl)
                  simp only [Act.put, List.setIfInBounds_toArray, List.set_cons_zero, List.set_cons_succ]
                  refine wpAnyH_take (i := 7) (oi := { dst := some 95, op := Op.move (Operand.tmp 94), type := 4, pos := "law.go:166", after := #[{ on := 6, ground := Ground.data }], guard := none }) (v := ?vz01a7) rfl (by kernel_rfl) (by kernel_rfl) (by kernel_rfl) (fun _ _ _ h => h) (Or.inl ⟨by rfl, ?yz01a7⟩) (by assumption) ?tz01a7
                  case yz01a7 => (intro wz hSw; clear hSw; go_simp; try with_reducible rfl)
                  simp only [Act.put, List.setIfInBounds_toArray, List.set_cons_zero, List.set_cons_succ]
                  refine wpAnyH_take (i := 8) (oi := { dst := some 96, op := Op.move (Operand.tmp 12), type := 3, pos := "law.go:166", after := #[{ on := 7, ground := Ground.guard }], guard := some (7, true) }) (v := undef) rfl (by kernel_rfl) (by kernel_rfl) (by kernel_rfl) (fun _ _ _ h => h) (Or.inr ⟨by rfl, rfl⟩) (by assumption) ?_
                  simp only [Act.put, List.setIfInBounds_toArray, List.set_cons_zero, List.set_cons_succ]
                  refine wpAnyH_take (i := 9) (oi := { dst := some 97, op := Op.indexAddr 41 (Operand.tmp 10) (Operand.tmp 96), type := 0, pos := "law.go:166", after := #[{ on := 8, ground := Ground.data }, { on := 7, ground := Ground.guard }], guard := some (7, true) }) (v := undef) rfl (by kernel_rfl) (by kernel_rfl) (by kernel_rfl) (fun _ _ _ h => h) (Or.inr ⟨by rfl, rfl⟩) (by assumption) ?_
                  simp only [Act.put, List.setIfInBounds_toArray, List.set_cons_zero, List.set_cons_succ]
                  refine wpAnyH_take (i := 10) (oi := { dst := some 98, op := Op.load 23 (Operand.tmp 97), type := 23, pos := "law.go:166", after := #[{ on := 9, ground := Ground.data }, { on := 7, ground := Ground.guard }], guard := some (7, true) }) (v := undef) rfl (by kernel_rfl) (by kernel_rfl) (by kernel_rfl) (fun _ _ _ h => h) (Or.inr ⟨by rfl, rfl⟩) (by assumption) ?_
                  simp only [Act.put, List.setIfInBounds_toArray, List.set_cons_zero, List.set_cons_succ]
                  refine wpAnyH_take (i := 11) (oi := { dst := some 99, op := Op.move (Operand.tmp 14), type := 3, pos := "law.go:166", after := #[{ on := 7, ground := Ground.guard }], guard := some (7, true) }) (v := undef) rfl (by kernel_rfl) (by kernel_rfl) (by kernel_rfl) (fun _ _ _ h => h) (Or.inr ⟨by rfl, rfl⟩) (by assumption) ?_
                  simp only [Act.put, List.setIfInBounds_toArray, List.set_cons_zero, List.set_cons_succ]
                  refine wpAnyH_take (i := 12) (oi := { dst := some 100, op := Op.indexAddr 41 (Operand.tmp 10) (Operand.tmp 99), type := 0, pos := "law.go:166", after := #[{ on := 11, ground := Ground.data }, { on := 7, ground := Ground.guard }], guard := some (7, true) }) (v := undef) rfl (by kernel_rfl) (by kernel_rfl) (by kernel_rfl) (fun _ _ _ h => h) (Or.inr ⟨by rfl, rfl⟩) (by assumption) ?_
                  simp only [Act.put, List.setIfInBounds_toArray, List.set_cons_zero, List.set_cons_succ]
                  refine wpAnyH_take (i := 13) (oi := { dst := some 101, op := Op.load 23 (Operand.tmp 100), type := 23, pos := "law.go:166", after := #[{ on := 12, ground := Ground.data }, { on := 7, ground := Ground.guard }], guard := some (7, true) }) (v := undef) rfl (by kernel_rfl) (by kernel_rfl) (by kernel_rfl) (fun _ _ _ h => h) (Or.inr ⟨by rfl, rfl⟩) (by assumption) ?_
                  simp only [Act.put, List.setIfInBounds_toArray, List.set_cons_zero, List.set_cons_succ]
                  refine wpAnyH_take (i := 14) (oi := { dst := some 102, op := Op.call { callee := Callee.value (Operand.func 20), args := #[Operand.tmp 98, Operand.tmp 101], argTypes := #[23, 23] }, type := 4, pos := "law.go:166", after := #[{ on := 10, ground := Ground.data }, { on := 13, ground := Ground.data }, { on := 7, ground := Ground.chain }, { on := 7, ground := Ground.guard }], guard := some (7, true) }) (v := undef) rfl (by kernel_rfl) (by kernel_rfl) (by kernel_rfl) (fun _ _ _ h => h) (Or.inr ⟨by rfl, rfl⟩) (by assumption) ?_
                  simp only [Act.put, List.setIfInBounds_toArray, List.set_cons_zero, List.set_cons_succ]
                  refine wpAnyH_take (i := 15) (oi := { dst := some 103, op := Op.unOp UnOp.not 4 (Operand.tmp 102), type := 4, pos := "law.go:166", after := #[{ on := 14, ground := Ground.data }, { on := 7, ground := Ground.guard }], guard := some (7, true) }) (v := undef) rfl (by kernel_rfl) (by kernel_rfl) (by kernel_rfl) (fun _ _ _ h => h) (Or.inr ⟨by rfl, rfl⟩) (by assumption) ?_
                  simp only [Act.put, List.setIfInBounds_toArray, List.set_cons_zero, List.set_cons_succ]
                  refine wpAnyH_take (i := 16) (oi := { dst := some 104, op := Op.pick (Operand.tmp 95) (Operand.tmp 103) (Operand.const (Value.bool false)), type := 4, pos := "law.go:166", after := #[{ on := 7, ground := Ground.data }, { on := 15, ground := Ground.data }], guard := none }) (v := ?vz01a16) rfl (by kernel_rfl) (by kernel_rfl) (by kernel_rfl) (fun _ _ _ h => h) (Or.inl ⟨by rfl, ?yz01a16⟩) (by assumption) ?tz01a16
                  case yz01a16 => (intro wz hSw; clear hSw; go_simp; try with_reducible rfl)
                  simp only [Act.put, List.setIfInBounds_toArray, List.set_cons_zero, List.set_cons_succ]
                  refine wpAnyH_done (by kernel_rfl) ?_ _
                  have H2 := Lib.hid hHeld
                  clear hHeld
                  go_wp2_with fail
                  go_roundw
                  case rel => exact ⟨H2, .inr (.inr (.inl rfl))⟩
                  case measure => decide
                · have hEq := fun V => run_factNe M1 M0 V
                  rw [show (!decide (M1 = M0)) = true by rw [decide_eq_false (fun e => he e.symm)]; rfl] at hEq
                  rw [hq] at HP01
                  have hGu := run_factGuard
                  clear he hq
                  go_wp2_with fail
                  refine wp_region_held_drew (S := (fun v => ChS W bl G (.cells #[.int .i64 v0, .int .i64 v1, .int .i64 v2] 40) (.cells #[.int .i64 d0, .int .i64 d1, .int .i64 d2] 40) (.cells #[.int .i64 x0, .int .i64 x1, .int .i64 x2] 40) 41 (c3 M0 M1 M2) v)) (by kernel_rfl) (H.out.drew) (fun hHeld => ?_)
                  generalize wr.drew = wd at *
                  refine wpAnyH_take (i := 0) (oi := { dst := some 88, op := Op.move (Operand.tmp 14), type := 3, pos := "law.go:166", after := #[], guard := none }) (v := ?vz01b0) rfl (by kernel_rfl) (by kernel_rfl) (by kernel_rfl) (fun _ _ _ h => h) (Or.inl ⟨by rfl, ?yz01b0⟩) (by assumption) ?tz01b0
                  case yz01b0 => (intro wz hSw; clear hSw; go_simp; try with_reducible rfl)
                  simp only [Act.put, List.setIfInBounds_toArray, List.set_cons_zero, List.set_cons_succ]
                  refine wpAnyH_take (i := 1) (oi := { dst := some 89, op := Op.indexAddr 41 (Operand.tmp 10) (Operand.tmp 88), type := 0, pos := "law.go:166", after := #[{ on := 0, ground := Ground.data }], guard := none }) (v := ?vz01b1) rfl (by kernel_rfl) (by kernel_rfl) (by kernel_rfl) (fun _ _ _ h => h) (Or.inl ⟨by rfl, ?yz01b1⟩) (by assumption) ?tz01b1
                  case yz01b1 => (intro wz hSw; clear hSw; go_simp; try with_reducible rfl)
                  simp only [Act.put, List.setIfInBounds_toArray, List.set_cons_zero, List.set_cons_succ]
                  refine wpAnyH_take (i := 2) (oi := { dst := some 90, op := Op.load 23 (Operand.tmp 89), type := 23, pos := "law.go:166", after := #[{ on := 1, ground := Ground.data }], guard := none }) (v := factV M1) rfl (by kernel_rfl) (by kernel_rfl) (by kernel_rfl) (fun _ _ _ h => h) (Or.inl ⟨by rfl, fun wz hSw => sem_load_mid _ rfl (bl) 19 rfl (c3 M0 M1 M2) M1 (hSw.2.2.2.2.1) rfl⟩) (by assumption) ?tz01b2
                  simp only [Act.put, List.setIfInBounds_toArray, List.set_cons_zero, List.set_cons_succ]
                  refine wpAnyH_take (i := 3) (oi := { dst := some 91, op := Op.move (Operand.tmp 12), type := 3, pos := "law.go:166", after := #[], guard := none }) (v := ?vz01b3) rfl (by kernel_rfl) (by kernel_rfl) (by kernel_rfl) (fun _ _ _ h => h) (Or.inl ⟨by rfl, ?yz01b3⟩) (by assumption) ?tz01b3
                  case yz01b3 => (intro wz hSw; clear hSw; go_simp; try with_reducible rfl)
                  simp only [Act.put, List.setIfInBounds_toArray, List.set_cons_zero, List.set_cons_succ]
                  refine wpAnyH_take (i := 4) (oi := { dst := some 92, op := Op.indexAddr 41 (Operand.tmp 10) (Operand.tmp 91), type := 0, pos := "law.go:166", after := #[{ on := 3, ground := Ground.data }], guard := none }) (v := ?vz01b4) rfl (by kernel_rfl) (by kernel_rfl) (by kernel_rfl) (fun _ _ _ h => h) (Or.inl ⟨by rfl, ?yz01b4⟩) (by assumption) ?tz01b4
                  case yz01b4 => (intro wz hSw; clear hSw; go_simp; try with_reducible rfl)
                  simp only [Act.put, List.setIfInBounds_toArray, List.set_cons_zero, List.set_cons_succ]
                  refine wpAnyH_take (i := 5) (oi := { dst := some 93, op := Op.load 23 (Operand.tmp 92), type := 23, pos := "law.go:166", after := #[{ on := 4, ground := Ground.data }], guard := none }) (v := factV M0) rfl (by kernel_rfl) (by kernel_rfl) (by kernel_rfl) (fun _ _ _ h => h) (Or.inl ⟨by rfl, fun wz hSw => sem_load_mid _ rfl (bl) 0 rfl (c3 M0 M1 M2) M0 (hSw.2.2.2.2.1) rfl⟩) (by assumption) ?tz01b5
                  simp only [Act.put, List.setIfInBounds_toArray, List.set_cons_zero, List.set_cons_succ]
                  refine wpAnyH_take (i := 6) (oi := { dst := some 94, op := Op.binOp BinOp.neq 23 (Operand.tmp 90) (Operand.tmp 93) 23, type := 4, pos := "law.go:166", after := #[{ on := 2, ground := Ground.data }, { on := 5, ground := Ground.data }], guard := none }) (v := ?vz01b6) rfl (by kernel_rfl) (by kernel_rfl) (by kernel_rfl) (fun _ _ _ h => h) (Or.inl ⟨by rfl, ?yz01b6⟩) (by assumption) ?tz01b6
                  case yz01b6 => (intro wz hSw; clear hSw; go_simp; try with_reducible rfl)
                  simp only [Act.put, List.setIfInBounds_toArray, List.set_cons_zero, List.set_cons_succ]
                  refine wpAnyH_take (i := 7) (oi := { dst := some 95, op := Op.move (Operand.tmp 94), type := 4, pos := "law.go:166", after := #[{ on := 6, ground := Ground.data }], guard := none }) (v := ?vz01b7) rfl (by kernel_rfl) (by kernel_rfl) (by kernel_rfl) (fun _ _ _ h => h) (Or.inl ⟨by rfl, ?yz01b7⟩) (by assumption) ?tz01b7
                  case yz01b7 => (intro wz hSw; clear hSw; go_simp; try with_reducible rfl)
                  simp only [Act.put, List.setIfInBounds_toArray, List.set_cons_zero, List.set_cons_succ]
                  refine wpAnyH_take (i := 8) (oi := { dst := some 96, op := Op.move (Operand.tmp 12), type := 3, pos := "law.go:166", after := #[{ on := 7, ground := Ground.guard }], guard := some (7, true) }) (v := ?vz01b8) rfl (by kernel_rfl) (by kernel_rfl) (by kernel_rfl) (fun _ _ _ h => h) (Or.inl ⟨by rfl, ?yz01b8⟩) (by assumption) ?tz01b8
                  case yz01b8 => (intro wz hSw; clear hSw; go_simp; try with_reducible rfl)
                  simp only [Act.put, List.setIfInBounds_toArray, List.set_cons_zero, List.set_cons_succ]
                  refine wpAnyH_take (i := 9) (oi := { dst := some 97, op := Op.indexAddr 41 (Operand.tmp 10) (Operand.tmp 96), type := 0, pos := "law.go:166", after := #[{ on := 8, ground := Ground.data }, { on := 7, ground := Ground.guard }], guard := some (7, true) }) (v := ?vz01b9) rfl (by kernel_rfl) (by kernel_rfl) (by kernel_rfl) (fun _ _ _ h => h) (Or.inl ⟨by rfl, ?yz01b9⟩) (by assumption) ?tz01b9
                  case yz01b9 => (intro wz hSw; clear hSw; go_simp; try with_reducible rfl)
                  simp only [Act.put, List.setIfInBounds_toArray, List.set_cons_zero, List.set_cons_succ]
                  refine wpAnyH_take (i := 10) (oi := { dst := some 98, op := Op.load 23 (Operand.tmp 97), type := 23, pos := "law.go:166", after := #[{ on := 9, ground := Ground.data }, { on := 7, ground := Ground.guard }], guard := some (7, true) }) (v := factV M0) rfl (by kernel_rfl) (by kernel_rfl) (by kernel_rfl) (fun _ _ _ h => h) (Or.inl ⟨by rfl, fun wz hSw => sem_load_mid _ rfl (bl) 0 rfl (c3 M0 M1 M2) M0 (hSw.2.2.2.2.1) rfl⟩) (by assumption) ?tz01b10
                  simp only [Act.put, List.setIfInBounds_toArray, List.set_cons_zero, List.set_cons_succ]
                  refine wpAnyH_take (i := 11) (oi := { dst := some 99, op := Op.move (Operand.tmp 14), type := 3, pos := "law.go:166", after := #[{ on := 7, ground := Ground.guard }], guard := some (7, true) }) (v := ?vz01b11) rfl (by kernel_rfl) (by kernel_rfl) (by kernel_rfl) (fun _ _ _ h => h) (Or.inl ⟨by rfl, ?yz01b11⟩) (by assumption) ?tz01b11
                  case yz01b11 => (intro wz hSw; clear hSw; go_simp; try with_reducible rfl)
                  simp only [Act.put, List.setIfInBounds_toArray, List.set_cons_zero, List.set_cons_succ]
                  refine wpAnyH_take (i := 12) (oi := { dst := some 100, op := Op.indexAddr 41 (Operand.tmp 10) (Operand.tmp 99), type := 0, pos := "law.go:166", after := #[{ on := 11, ground := Ground.data }, { on := 7, ground := Ground.guard }], guard := some (7, true) }) (v := ?vz01b12) rfl (by kernel_rfl) (by kernel_rfl) (by kernel_rfl) (fun _ _ _ h => h) (Or.inl ⟨by rfl, ?yz01b12⟩) (by assumption) ?tz01b12
                  case yz01b12 => (intro wz hSw; clear hSw; go_simp; try with_reducible rfl)
                  simp only [Act.put, List.setIfInBounds_toArray, List.set_cons_zero, List.set_cons_succ]
                  refine wpAnyH_take (i := 13) (oi := { dst := some 101, op := Op.load 23 (Operand.tmp 100), type := 23, pos := "law.go:166", after := #[{ on := 12, ground := Ground.data }, { on := 7, ground := Ground.guard }], guard := some (7, true) }) (v := factV M1) rfl (by kernel_rfl) (by kernel_rfl) (by kernel_rfl) (fun _ _ _ h => h) (Or.inl ⟨by rfl, fun wz hSw => sem_load_mid _ rfl (bl) 19 rfl (c3 M0 M1 M2) M1 (hSw.2.2.2.2.1) rfl⟩) (by assumption) ?tz01b13
                  simp only [Act.put, List.setIfInBounds_toArray, List.set_cons_zero, List.set_cons_succ]
                  refine wpAnyH_ready (rs := [14]) (by kernel_rfl) (by simp) ?_
                  refine AllReadyH.cons (o := { dst := some 102, op := Op.call { callee := Callee.value (Operand.func 20), args := #[Operand.tmp 98, Operand.tmp 101], argTypes := #[23, 23] }, type := 4, pos := "law.go:166", after := #[{ on := 10, ground := Ground.data }, { on := 13, ground := Ground.data }, { on := 7, ground := Ground.chain }, { on := 7, ground := Ground.guard }], guard := some (7, true) }) rfl (fun K hK => ?_) AllReadyH.nil
                  have HH := Lib.hid hHeld
                  go_simp
                  refine (HP01.out _ HH.out.2.2.2.2.2.2.1).mono ?_; rintro e wz ⟨rfl, gz⟩
                  have hz := HH.out.below gz
                  clear gz HH
                  refine hK.out _ _ (hz) (fun hHeld' => ?_)
                  clear hK K hHeld
                  have hHeld := hHeld'; clear hHeld'
                  try simp only [Act.put, List.setIfInBounds_toArray, List.set_cons_zero, List.set_cons_succ]
                  refine wpAnyH_take (i := 15) (oi := { dst := some 103, op := Op.unOp UnOp.not 4 (Operand.tmp 102), type := 4, pos := "law.go:166", after := #[{ on := 14, ground := Ground.data }, { on := 7, ground := Ground.guard }], guard := some (7, true) }) (v := ?vz01b15) rfl (by kernel_rfl) (by kernel_rfl) (by kernel_rfl) (fun _ _ _ h => h) (Or.inl ⟨by rfl, ?yz01b15⟩) (by assumption) ?tz01b15
                  case yz01b15 => (intro wz hSw; clear hSw; go_simp; try with_reducible rfl)
                  simp only [Act.put, List.setIfInBounds_toArray, List.set_cons_zero, List.set_cons_succ]
                  refine wpAnyH_take (i := 16) (oi := { dst := some 104, op := Op.pick (Operand.tmp 95) (Operand.tmp 103) (Operand.const (Value.bool false)), type := 4, pos := "law.go:166", after := #[{ on := 7, ground := Ground.data }, { on := 15, ground := Ground.data }], guard := none }) (v := ?vz01b16) rfl (by kernel_rfl) (by kernel_rfl) (by kernel_rfl) (fun _ _ _ h => h) (Or.inl ⟨by rfl, ?yz01b16⟩) (by assumption) ?tz01b16
                  case yz01b16 => (intro wz hSw; clear hSw; go_simp; try with_reducible rfl)
                  simp only [Act.put, List.setIfInBounds_toArray, List.set_cons_zero, List.set_cons_succ]
                  refine wpAnyH_done (by kernel_rfl) ?_ _
                  have H2 := Lib.hid hHeld
                  clear hHeld
                  go_wp2_with fail
                  go_roundw
                  case rel => exact ⟨H2, .inr (.inr (.inl rfl))⟩
                  case measure => decide
              · rcases ht.2.2 with he | ⟨he, hq⟩
                · have hEq := fun V => run_factNe M2 M0 V
                  rw [show (!decide (M2 = M0)) = false by rw [he]; simp] at hEq
                  have hGu := run_factGuard
                  clear he
                  go_wp2_with fail
                  refine wp_region_held_drew (S := (fun v => ChS W bl G (.cells #[.int .i64 v0, .int .i64 v1, .int .i64 v2] 40) (.cells #[.int .i64 d0, .int .i64 d1, .int .i64 d2] 40) (.cells #[.int .i64 x0, .int .i64 x1, .int .i64 x2] 40) 41 (c3 M0 M1 M2) v)) (by kernel_rfl) (H.out.drew) (fun hHeld => ?_)
                  generalize wr.drew = wd at *
                  refine wpAnyH_take (i := 0) (oi := { dst := some 88, op := Op.move (Operand.tmp 14), type := 3, pos := "law.go:166", after := #[], guard := none }) (v := ?vz02a0) rfl (by kernel_rfl) (by kernel_rfl) (by kernel_rfl) (fun _ _ _ h => h) (Or.inl ⟨by rfl, ?yz02a0⟩) (by assumption) ?tz02a0
                  case yz02a0 => (intro wz hSw; clear hSw; go_simp; try with_reducible rfl)
                  simp only [Act.put, List.setIfInBounds_toArray, List.set_cons_zero, List.set_cons_succ]
                  refine wpAnyH_take (i := 1) (oi := { dst := some 89, op := Op.indexAddr 41 (Operand.tmp 10) (Operand.tmp 88), type := 0, pos := "law.go:166", after := #[{ on := 0, ground := Ground.data }], guard := none }) (v := ?vz02a1) rfl (by kernel_rfl) (by kernel_rfl) (by kernel_rfl) (fun _ _ _ h => h) (Or.inl ⟨by rfl, ?yz02a1⟩) (by assumption) ?tz02a1
                  case yz02a1 => (intro wz hSw; clear hSw; go_simp; try with_reducible rfl)
                  simp only [Act.put, List.setIfInBounds_toArray, List.set_cons_zero, List.set_cons_succ]
                  refine wpAnyH_take (i := 2) (oi := { dst := some 90, op := Op.load 23 (Operand.tmp 89), type := 23, pos := "law.go:166", after := #[{ on := 1, ground := Ground.data }], guard := none }) (v := factV M2) rfl (by kernel_rfl) (by kernel_rfl) (by kernel_rfl) (fun _ _ _ h => h) (Or.inl ⟨by rfl, fun wz hSw => sem_load_mid _ rfl (bl) 38 rfl (c3 M0 M1 M2) M2 (hSw.2.2.2.2.1) rfl⟩) (by assumption) ?tz02a2
                  simp only [Act.put, List.setIfInBounds_toArray, List.set_cons_zero, List.set_cons_succ]
                  refine wpAnyH_take (i := 3) (oi := { dst := some 91, op := Op.move (Operand.tmp 12), type := 3, pos := "law.go:166", after := #[], guard := none }) (v := ?vz02a3) rfl (by kernel_rfl) (by kernel_rfl) (by kernel_rfl) (fun _ _ _ h => h) (Or.inl ⟨by rfl, ?yz02a3⟩) (by assumption) ?tz02a3
                  case yz02a3 => (intro wz hSw; clear hSw; go_simp; try with_reducible rfl)
                  simp only [Act.put, List.setIfInBounds_toArray, List.set_cons_zero, List.set_cons_succ]
                  refine wpAnyH_take (i := 4) (oi := { dst := some 92, op := Op.indexAddr 41 (Operand.tmp 10) (Operand.tmp 91), type := 0, pos := "law.go:166", after := #[{ on := 3, ground := Ground.data }], guard := none }) (v := ?vz02a4) rfl (by kernel_rfl) (by kernel_rfl) (by kernel_rfl) (fun _ _ _ h => h) (Or.inl ⟨by rfl, ?yz02a4⟩) (by assumption) ?tz02a4
                  case yz02a4 => (intro wz hSw; clear hSw; go_simp; try with_reducible rfl)
                  simp only [Act.put, List.setIfInBounds_toArray, List.set_cons_zero, List.set_cons_succ]
                  refine wpAnyH_take (i := 5) (oi := { dst := some 93, op := Op.load 23 (Operand.tmp 92), type := 23, pos := "law.go:166", after := #[{ on := 4, ground := Ground.data }], guard := none }) (v := factV M0) rfl (by kernel_rfl) (by kernel_rfl) (by kernel_rfl) (fun _ _ _ h => h) (Or.inl ⟨by rfl, fun wz hSw => sem_load_mid _ rfl (bl) 0 rfl (c3 M0 M1 M2) M0 (hSw.2.2.2.2.1) rfl⟩) (by assumption) ?tz02a5
                  simp only [Act.put, List.setIfInBounds_toArray, List.set_cons_zero, List.set_cons_succ]
                  refine wpAnyH_take (i := 6) (oi := { dst := some 94, op := Op.binOp BinOp.neq 23 (Operand.tmp 90) (Operand.tmp 93) 23, type := 4, pos := "law.go:166", after := #[{ on := 2, ground := Ground.data }, { on := 5, ground := Ground.data }], guard := none }) (v := ?vz02a6) rfl (by kernel_rfl) (by kernel_rfl) (by kernel_rfl) (fun _ _ _ h => h) (Or.inl ⟨by rfl, ?yz02a6⟩) (by assumption) ?tz02a6
                  case yz02a6 => (intro wz hSw; clear hSw; go_simp; try with_reducible rfl)
                  simp only [Act.put, List.setIfInBounds_toArray, List.set_cons_zero, List.set_cons_succ]
                  refine wpAnyH_take (i := 7) (oi := { dst := some 95, op := Op.move (Operand.tmp 94), type := 4, pos := "law.go:166", after := #[{ on := 6, ground := Ground.data }], guard := none }) (v := ?vz02a7) rfl (by kernel_rfl) (by kernel_rfl) (by kernel_rfl) (fun _ _ _ h => h) (Or.inl ⟨by rfl, ?yz02a7⟩) (by assumption) ?tz02a7
                  case yz02a7 => (intro wz hSw; clear hSw; go_simp; try with_reducible rfl)
                  simp only [Act.put, List.setIfInBounds_toArray, List.set_cons_zero, List.set_cons_succ]
                  refine wpAnyH_take (i := 8) (oi := { dst := some 96, op := Op.move (Operand.tmp 12), type := 3, pos := "law.go:166", after := #[{ on := 7, ground := Ground.guard }], guard := some (7, true) }) (v := undef) rfl (by kernel_rfl) (by kernel_rfl) (by kernel_rfl) (fun _ _ _ h => h) (Or.inr ⟨by rfl, rfl⟩) (by assumption) ?_
                  simp only [Act.put, List.setIfInBounds_toArray, List.set_cons_zero, List.set_cons_succ]
                  refine wpAnyH_take (i := 9) (oi := { dst := some 97, op := Op.indexAddr 41 (Operand.tmp 10) (Operand.tmp 96), type := 0, pos := "law.go:166", after := #[{ on := 8, ground := Ground.data }, { on := 7, ground := Ground.guard }], guard := some (7, true) }) (v := undef) rfl (by kernel_rfl) (by kernel_rfl) (by kernel_rfl) (fun _ _ _ h => h) (Or.inr ⟨by rfl, rfl⟩) (by assumption) ?_
                  simp only [Act.put, List.setIfInBounds_toArray, List.set_cons_zero, List.set_cons_succ]
                  refine wpAnyH_take (i := 10) (oi := { dst := some 98, op := Op.load 23 (Operand.tmp 97), type := 23, pos := "law.go:166", after := #[{ on := 9, ground := Ground.data }, { on := 7, ground := Ground.guard }], guard := some (7, true) }) (v := undef) rfl (by kernel_rfl) (by kernel_rfl) (by kernel_rfl) (fun _ _ _ h => h) (Or.inr ⟨by rfl, rfl⟩) (by assumption) ?_
                  simp only [Act.put, List.setIfInBounds_toArray, List.set_cons_zero, List.set_cons_succ]
                  refine wpAnyH_take (i := 11) (oi := { dst := some 99, op := Op.move (Operand.tmp 14), type := 3, pos := "law.go:166", after := #[{ on := 7, ground := Ground.guard }], guard := some (7, true) }) (v := undef) rfl (by kernel_rfl) (by kernel_rfl) (by kernel_rfl) (fun _ _ _ h => h) (Or.inr ⟨by rfl, rfl⟩) (by assumption) ?_
                  simp only [Act.put, List.setIfInBounds_toArray, List.set_cons_zero, List.set_cons_succ]
                  refine wpAnyH_take (i := 12) (oi := { dst := some 100, op := Op.indexAddr 41 (Operand.tmp 10) (Operand.tmp 99), type := 0, pos := "law.go:166", after := #[{ on := 11, ground := Ground.data }, { on := 7, ground := Ground.guard }], guard := some (7, true) }) (v := undef) rfl (by kernel_rfl) (by kernel_rfl) (by kernel_rfl) (fun _ _ _ h => h) (Or.inr ⟨by rfl, rfl⟩) (by assumption) ?_
                  simp only [Act.put, List.setIfInBounds_toArray, List.set_cons_zero, List.set_cons_succ]
                  refine wpAnyH_take (i := 13) (oi := { dst := some 101, op := Op.load 23 (Operand.tmp 100), type := 23, pos := "law.go:166", after := #[{ on := 12, ground := Ground.data }, { on := 7, ground := Ground.guard }], guard := some (7, true) }) (v := undef) rfl (by kernel_rfl) (by kernel_rfl) (by kernel_rfl) (fun _ _ _ h => h) (Or.inr ⟨by rfl, rfl⟩) (by assumption) ?_
                  simp only [Act.put, List.setIfInBounds_toArray, List.set_cons_zero, List.set_cons_succ]
                  refine wpAnyH_take (i := 14) (oi := { dst := some 102, op := Op.call { callee := Callee.value (Operand.func 20), args := #[Operand.tmp 98, Operand.tmp 101], argTypes := #[23, 23] }, type := 4, pos := "law.go:166", after := #[{ on := 10, ground := Ground.data }, { on := 13, ground := Ground.data }, { on := 7, ground := Ground.chain }, { on := 7, ground := Ground.guard }], guard := some (7, true) }) (v := undef) rfl (by kernel_rfl) (by kernel_rfl) (by kernel_rfl) (fun _ _ _ h => h) (Or.inr ⟨by rfl, rfl⟩) (by assumption) ?_
                  simp only [Act.put, List.setIfInBounds_toArray, List.set_cons_zero, List.set_cons_succ]
                  refine wpAnyH_take (i := 15) (oi := { dst := some 103, op := Op.unOp UnOp.not 4 (Operand.tmp 102), type := 4, pos := "law.go:166", after := #[{ on := 14, ground := Ground.data }, { on := 7, ground := Ground.guard }], guard := some (7, true) }) (v := undef) rfl (by kernel_rfl) (by kernel_rfl) (by kernel_rfl) (fun _ _ _ h => h) (Or.inr ⟨by rfl, rfl⟩) (by assumption) ?_
                  simp only [Act.put, List.setIfInBounds_toArray, List.set_cons_zero, List.set_cons_succ]
                  refine wpAnyH_take (i := 16) (oi := { dst := some 104, op := Op.pick (Operand.tmp 95) (Operand.tmp 103) (Operand.const (Value.bool false)), type := 4, pos := "law.go:166", after := #[{ on := 7, ground := Ground.data }, { on := 15, ground := Ground.data }], guard := none }) (v := ?vz02a16) rfl (by kernel_rfl) (by kernel_rfl) (by kernel_rfl) (fun _ _ _ h => h) (Or.inl ⟨by rfl, ?yz02a16⟩) (by assumption) ?tz02a16
                  case yz02a16 => (intro wz hSw; clear hSw; go_simp; try with_reducible rfl)
                  simp only [Act.put, List.setIfInBounds_toArray, List.set_cons_zero, List.set_cons_succ]
                  refine wpAnyH_done (by kernel_rfl) ?_ _
                  have H2 := Lib.hid hHeld
                  clear hHeld
                  go_wp2_with fail
                  go_roundw
                  case rel => exact ⟨H2, .inr (.inr (.inr rfl))⟩
                  case measure => decide
                · have hEq := fun V => run_factNe M2 M0 V
                  rw [show (!decide (M2 = M0)) = true by rw [decide_eq_false (fun e => he e.symm)]; rfl] at hEq
                  rw [hq] at HP02
                  have hGu := run_factGuard
                  clear he hq
                  go_wp2_with fail
                  refine wp_region_held_drew (S := (fun v => ChS W bl G (.cells #[.int .i64 v0, .int .i64 v1, .int .i64 v2] 40) (.cells #[.int .i64 d0, .int .i64 d1, .int .i64 d2] 40) (.cells #[.int .i64 x0, .int .i64 x1, .int .i64 x2] 40) 41 (c3 M0 M1 M2) v)) (by kernel_rfl) (H.out.drew) (fun hHeld => ?_)
                  generalize wr.drew = wd at *
                  refine wpAnyH_take (i := 0) (oi := { dst := some 88, op := Op.move (Operand.tmp 14), type := 3, pos := "law.go:166", after := #[], guard := none }) (v := ?vz02b0) rfl (by kernel_rfl) (by kernel_rfl) (by kernel_rfl) (fun _ _ _ h => h) (Or.inl ⟨by rfl, ?yz02b0⟩) (by assumption) ?tz02b0
                  case yz02b0 => (intro wz hSw; clear hSw; go_simp; try with_reducible rfl)
                  simp only [Act.put, List.setIfInBounds_toArray, List.set_cons_zero, List.set_cons_succ]
                  refine wpAnyH_take (i := 1) (oi := { dst := some 89, op := Op.indexAddr 41 (Operand.tmp 10) (Operand.tmp 88), type := 0, pos := "law.go:166", after := #[{ on := 0, ground := Ground.data }], guard := none }) (v := ?vz02b1) rfl (by kernel_rfl) (by kernel_rfl) (by kernel_rfl) (fun _ _ _ h => h) (Or.inl ⟨by rfl, ?yz02b1⟩) (by assumption) ?tz02b1
                  case yz02b1 => (intro wz hSw; clear hSw; go_simp; try with_reducible rfl)
                  simp only [Act.put, List.setIfInBounds_toArray, List.set_cons_zero, List.set_cons_succ]
                  refine wpAnyH_take (i := 2) (oi := { dst := some 90, op := Op.load 23 (Operand.tmp 89), type := 23, pos := "law.go:166", after := #[{ on := 1, ground := Ground.data }], guard := none }) (v := factV M2) rfl (by kernel_rfl) (by kernel_rfl) (by kernel_rfl) (fun _ _ _ h => h) (Or.inl ⟨by rfl, fun wz hSw => sem_load_mid _ rfl (bl) 38 rfl (c3 M0 M1 M2) M2 (hSw.2.2.2.2.1) rfl⟩) (by assumption) ?tz02b2
                  simp only [Act.put, List.setIfInBounds_toArray, List.set_cons_zero, List.set_cons_succ]
                  refine wpAnyH_take (i := 3) (oi := { dst := some 91, op := Op.move (Operand.tmp 12), type := 3, pos := "law.go:166", after := #[], guard := none }) (v := ?vz02b3) rfl (by kernel_rfl) (by kernel_rfl) (by kernel_rfl) (fun _ _ _ h => h) (Or.inl ⟨by rfl, ?yz02b3⟩) (by assumption) ?tz02b3
                  case yz02b3 => (intro wz hSw; clear hSw; go_simp; try with_reducible rfl)
                  simp only [Act.put, List.setIfInBounds_toArray, List.set_cons_zero, List.set_cons_succ]
                  refine wpAnyH_take (i := 4) (oi := { dst := some 92, op := Op.indexAddr 41 (Operand.tmp 10) (Operand.tmp 91), type := 0, pos := "law.go:166", after := #[{ on := 3, ground := Ground.data }], guard := none }) (v := ?vz02b4) rfl (by kernel_rfl) (by kernel_rfl) (by kernel_rfl) (fun _ _ _ h => h) (Or.inl ⟨by rfl, ?yz02b4⟩) (by assumption) ?tz02b4
                  case yz02b4 => (intro wz hSw; clear hSw; go_simp; try with_reducible rfl)
                  simp only [Act.put, List.setIfInBounds_toArray, List.set_cons_zero, List.set_cons_succ]
                  refine wpAnyH_take (i := 5) (oi := { dst := some 93, op := Op.load 23 (Operand.tmp 92), type := 23, pos := "law.go:166", after := #[{ on := 4, ground := Ground.data }], guard := none }) (v := factV M0) rfl (by kernel_rfl) (by kernel_rfl) (by kernel_rfl) (fun _ _ _ h => h) (Or.inl ⟨by rfl, fun wz hSw => sem_load_mid _ rfl (bl) 0 rfl (c3 M0 M1 M2) M0 (hSw.2.2.2.2.1) rfl⟩) (by assumption) ?tz02b5
                  simp only [Act.put, List.setIfInBounds_toArray, List.set_cons_zero, List.set_cons_succ]
                  refine wpAnyH_take (i := 6) (oi := { dst := some 94, op := Op.binOp BinOp.neq 23 (Operand.tmp 90) (Operand.tmp 93) 23, type := 4, pos := "law.go:166", after := #[{ on := 2, ground := Ground.data }, { on := 5, ground := Ground.data }], guard := none }) (v := ?vz02b6) rfl (by kernel_rfl) (by kernel_rfl) (by kernel_rfl) (fun _ _ _ h => h) (Or.inl ⟨by rfl, ?yz02b6⟩) (by assumption) ?tz02b6
                  case yz02b6 => (intro wz hSw; clear hSw; go_simp; try with_reducible rfl)
                  simp only [Act.put, List.setIfInBounds_toArray, List.set_cons_zero, List.set_cons_succ]
                  refine wpAnyH_take (i := 7) (oi := { dst := some 95, op := Op.move (Operand.tmp 94), type := 4, pos := "law.go:166", after := #[{ on := 6, ground := Ground.data }], guard := none }) (v := ?vz02b7) rfl (by kernel_rfl) (by kernel_rfl) (by kernel_rfl) (fun _ _ _ h => h) (Or.inl ⟨by rfl, ?yz02b7⟩) (by assumption) ?tz02b7
                  case yz02b7 => (intro wz hSw; clear hSw; go_simp; try with_reducible rfl)
                  simp only [Act.put, List.setIfInBounds_toArray, List.set_cons_zero, List.set_cons_succ]
                  refine wpAnyH_take (i := 8) (oi := { dst := some 96, op := Op.move (Operand.tmp 12), type := 3, pos := "law.go:166", after := #[{ on := 7, ground := Ground.guard }], guard := some (7, true) }) (v := ?vz02b8) rfl (by kernel_rfl) (by kernel_rfl) (by kernel_rfl) (fun _ _ _ h => h) (Or.inl ⟨by rfl, ?yz02b8⟩) (by assumption) ?tz02b8
                  case yz02b8 => (intro wz hSw; clear hSw; go_simp; try with_reducible rfl)
                  simp only [Act.put, List.setIfInBounds_toArray, List.set_cons_zero, List.set_cons_succ]
                  refine wpAnyH_take (i := 9) (oi := { dst := some 97, op := Op.indexAddr 41 (Operand.tmp 10) (Operand.tmp 96), type := 0, pos := "law.go:166", after := #[{ on := 8, ground := Ground.data }, { on := 7, ground := Ground.guard }], guard := some (7, true) }) (v := ?vz02b9) rfl (by kernel_rfl) (by kernel_rfl) (by kernel_rfl) (fun _ _ _ h => h) (Or.inl ⟨by rfl, ?yz02b9⟩) (by assumption) ?tz02b9
                  case yz02b9 => (intro wz hSw; clear hSw; go_simp; try with_reducible rfl)
                  simp only [Act.put, List.setIfInBounds_toArray, List.set_cons_zero, List.set_cons_succ]
                  refine wpAnyH_take (i := 10) (oi := { dst := some 98, op := Op.load 23 (Operand.tmp 97), type := 23, pos := "law.go:166", after := #[{ on := 9, ground := Ground.data }, { on := 7, ground := Ground.guard }], guard := some (7, true) }) (v := factV M0) rfl (by kernel_rfl) (by kernel_rfl) (by kernel_rfl) (fun _ _ _ h => h) (Or.inl ⟨by rfl, fun wz hSw => sem_load_mid _ rfl (bl) 0 rfl (c3 M0 M1 M2) M0 (hSw.2.2.2.2.1) rfl⟩) (by assumption) ?tz02b10
                  simp only [Act.put, List.setIfInBounds_toArray, List.set_cons_zero, List.set_cons_succ]
                  refine wpAnyH_take (i := 11) (oi := { dst := some 99, op := Op.move (Operand.tmp 14), type := 3, pos := "law.go:166", after := #[{ on := 7, ground := Ground.guard }], guard := some (7, true) }) (v := ?vz02b11) rfl (by kernel_rfl) (by kernel_rfl) (by kernel_rfl) (fun _ _ _ h => h) (Or.inl ⟨by rfl, ?yz02b11⟩) (by assumption) ?tz02b11
                  case yz02b11 => (intro wz hSw; clear hSw; go_simp; try with_reducible rfl)
                  simp only [Act.put, List.setIfInBounds_toArray, List.set_cons_zero, List.set_cons_succ]
                  refine wpAnyH_take (i := 12) (oi := { dst := some 100, op := Op.indexAddr 41 (Operand.tmp 10) (Operand.tmp 99), type := 0, pos := "law.go:166", after := #[{ on := 11, ground := Ground.data }, { on := 7, ground := Ground.guard }], guard := some (7, true) }) (v := ?vz02b12) rfl (by kernel_rfl) (by kernel_rfl) (by kernel_rfl) (fun _ _ _ h => h) (Or.inl ⟨by rfl, ?yz02b12⟩) (by assumption) ?tz02b12
                  case yz02b12 => (intro wz hSw; clear hSw; go_simp; try with_reducible rfl)
                  simp only [Act.put, List.setIfInBounds_toArray, List.set_cons_zero, List.set_cons_succ]
                  refine wpAnyH_take (i := 13) (oi := { dst := some 101, op := Op.load 23 (Operand.tmp 100), type := 23, pos := "law.go:166", after := #[{ on := 12, ground := Ground.data }, { on := 7, ground := Ground.guard }], guard := some (7, true) }) (v := factV M2) rfl (by kernel_rfl) (by kernel_rfl) (by kernel_rfl) (fun _ _ _ h => h) (Or.inl ⟨by rfl, fun wz hSw => sem_load_mid _ rfl (bl) 38 rfl (c3 M0 M1 M2) M2 (hSw.2.2.2.2.1) rfl⟩) (by assumption) ?tz02b13
                  simp only [Act.put, List.setIfInBounds_toArray, List.set_cons_zero, List.set_cons_succ]
                  refine wpAnyH_ready (rs := [14]) (by kernel_rfl) (by simp) ?_
                  refine AllReadyH.cons (o := { dst := some 102, op := Op.call { callee := Callee.value (Operand.func 20), args := #[Operand.tmp 98, Operand.tmp 101], argTypes := #[23, 23] }, type := 4, pos := "law.go:166", after := #[{ on := 10, ground := Ground.data }, { on := 13, ground := Ground.data }, { on := 7, ground := Ground.chain }, { on := 7, ground := Ground.guard }], guard := some (7, true) }) rfl (fun K hK => ?_) AllReadyH.nil
                  have HH := Lib.hid hHeld
                  go_simp
                  refine (HP02.out _ HH.out.2.2.2.2.2.2.1).mono ?_; rintro e wz ⟨rfl, gz⟩
                  have hz := HH.out.below gz
                  clear gz HH
                  refine hK.out _ _ (hz) (fun hHeld' => ?_)
                  clear hK K hHeld
                  have hHeld := hHeld'; clear hHeld'
                  try simp only [Act.put, List.setIfInBounds_toArray, List.set_cons_zero, List.set_cons_succ]
                  refine wpAnyH_take (i := 15) (oi := { dst := some 103, op := Op.unOp UnOp.not 4 (Operand.tmp 102), type := 4, pos := "law.go:166", after := #[{ on := 14, ground := Ground.data }, { on := 7, ground := Ground.guard }], guard := some (7, true) }) (v := ?vz02b15) rfl (by kernel_rfl) (by kernel_rfl) (by kernel_rfl) (fun _ _ _ h => h) (Or.inl ⟨by rfl, ?yz02b15⟩) (by assumption) ?tz02b15
                  case yz02b15 => (intro wz hSw; clear hSw; go_simp; try with_reducible rfl)
                  simp only [Act.put, List.setIfInBounds_toArray, List.set_cons_zero, List.set_cons_succ]
                  refine wpAnyH_take (i := 16) (oi := { dst := some 104, op := Op.pick (Operand.tmp 95) (Operand.tmp 103) (Operand.const (Value.bool false)), type := 4, pos := "law.go:166", after := #[{ on := 7, ground := Ground.data }, { on := 15, ground := Ground.data }], guard := none }) (v := ?vz02b16) rfl (by kernel_rfl) (by kernel_rfl) (by kernel_rfl) (fun _ _ _ h => h) (Or.inl ⟨by rfl, ?yz02b16⟩) (by assumption) ?tz02b16
                  case yz02b16 => (intro wz hSw; clear hSw; go_simp; try with_reducible rfl)
                  simp only [Act.put, List.setIfInBounds_toArray, List.set_cons_zero, List.set_cons_succ]
                  refine wpAnyH_done (by kernel_rfl) ?_ _
                  have H2 := Lib.hid hHeld
                  clear hHeld
                  go_wp2_with fail
                  go_roundw
                  case rel => exact ⟨H2, .inr (.inr (.inr rfl))⟩
                  case measure => decide
              · go_wp2_with fail
                go_ret
                exact ⟨rfl, H.out.2.2.2.2.2.2.2.2⟩
          · have HC := Lib.hid H.out
            clear H
            go_wp2_with fail
            go_loopw [14] (fun i wr => Hid (ChS W bl G (.cells #[.int .i64 v0, .int .i64 v1, .int .i64 v2] 40) (.cells #[.int .i64 d0, .int .i64 d1, .int .i64 d2] 40) (.cells #[.int .i64 x0, .int .i64 x1, .int .i64 x2] 40) 41 (c3 M0 M1 M2) wr) ∧ (i = .int .i64 0 ∨ i = .int .i64 1 ∨ i = .int .i64 2 ∨ i = .int .i64 3)) (fun i _ => 3 - (intOf i).toNat)
            case atStart => exact ⟨HC, .inl rfl⟩
            case round =>
              obtain ⟨H, hrel⟩ := hrel
              rcases hrel with rfl | rfl | rfl | rfl
              · rcases ht.1 with he | ⟨he, hq⟩
                · have hEq := fun V => run_factNe M0 M1 V
                  rw [show (!decide (M0 = M1)) = false by rw [he]; simp] at hEq
                  have hGu := run_factGuard
                  clear he
                  go_wp2_with fail
                  refine wp_region_held_drew (S := (fun v => ChS W bl G (.cells #[.int .i64 v0, .int .i64 v1, .int .i64 v2] 40) (.cells #[.int .i64 d0, .int .i64 d1, .int .i64 d2] 40) (.cells #[.int .i64 x0, .int .i64 x1, .int .i64 x2] 40) 41 (c3 M0 M1 M2) v)) (by kernel_rfl) (H.out.drew) (fun hHeld => ?_)
                  generalize wr.drew = wd at *
                  refine wpAnyH_take (i := 0) (oi := { dst := some 88, op := Op.move (Operand.tmp 14), type := 3, pos := "law.go:166", after := #[], guard := none }) (v := ?vz10a0) rfl (by kernel_rfl) (by kernel_rfl) (by kernel_rfl) (fun _ _ _ h => h) (Or.inl ⟨by rfl, ?yz10a0⟩) (by assumption) ?tz10a0
                  case yz10a0 => (intro wz hSw; clear hSw; go_simp; try with_reducible rfl)
                  simp only [Act.put, List.setIfInBounds_toArray, List.set_cons_zero, List.set_cons_succ]
                  refine wpAnyH_take (i := 1) (oi := { dst := some 89, op := Op.indexAddr 41 (Operand.tmp 10) (Operand.tmp 88), type := 0, pos := "law.go:166", after := #[{ on := 0, ground := Ground.data }], guard := none }) (v := ?vz10a1) rfl (by kernel_rfl) (by kernel_rfl) (by kernel_rfl) (fun _ _ _ h => h) (Or.inl ⟨by rfl, ?yz10a1⟩) (by assumption) ?tz10a1
                  case yz10a1 => (intro wz hSw; clear hSw; go_simp; try with_reducible rfl)
                  simp only [Act.put, List.setIfInBounds_toArray, List.set_cons_zero, List.set_cons_succ]
                  refine wpAnyH_take (i := 2) (oi := { dst := some 90, op := Op.load 23 (Operand.tmp 89), type := 23, pos := "law.go:166", after := #[{ on := 1, ground := Ground.data }], guard := none }) (v := factV M0) rfl (by kernel_rfl) (by kernel_rfl) (by kernel_rfl) (fun _ _ _ h => h) (Or.inl ⟨by rfl, fun wz hSw => sem_load_mid _ rfl (bl) 0 rfl (c3 M0 M1 M2) M0 (hSw.2.2.2.2.1) rfl⟩) (by assumption) ?tz10a2
                  simp only [Act.put, List.setIfInBounds_toArray, List.set_cons_zero, List.set_cons_succ]
                  refine wpAnyH_take (i := 3) (oi := { dst := some 91, op := Op.move (Operand.tmp 12), type := 3, pos := "law.go:166", after := #[], guard := none }) (v := ?vz10a3) rfl (by kernel_rfl) (by kernel_rfl) (by kernel_rfl) (fun _ _ _ h => h) (Or.inl ⟨by rfl, ?yz10a3⟩) (by assumption) ?tz10a3
                  case yz10a3 => (intro wz hSw; clear hSw; go_simp; try with_reducible rfl)
                  simp only [Act.put, List.setIfInBounds_toArray, List.set_cons_zero, List.set_cons_succ]
                  refine wpAnyH_take (i := 4) (oi := { dst := some 92, op := Op.indexAddr 41 (Operand.tmp 10) (Operand.tmp 91), type := 0, pos := "law.go:166", after := #[{ on := 3, ground := Ground.data }], guard := none }) (v := ?vz10a4) rfl (by kernel_rfl) (by kernel_rfl) (by kernel_rfl) (fun _ _ _ h => h) (Or.inl ⟨by rfl, ?yz10a4⟩) (by assumption) ?tz10a4
                  case yz10a4 => (intro wz hSw; clear hSw; go_simp; try with_reducible rfl)
                  simp only [Act.put, List.setIfInBounds_toArray, List.set_cons_zero, List.set_cons_succ]
                  refine wpAnyH_take (i := 5) (oi := { dst := some 93, op := Op.load 23 (Operand.tmp 92), type := 23, pos := "law.go:166", after := #[{ on := 4, ground := Ground.data }], guard := none }) (v := factV M1) rfl (by kernel_rfl) (by kernel_rfl) (by kernel_rfl) (fun _ _ _ h => h) (Or.inl ⟨by rfl, fun wz hSw => sem_load_mid _ rfl (bl) 19 rfl (c3 M0 M1 M2) M1 (hSw.2.2.2.2.1) rfl⟩) (by assumption) ?tz10a5
                  simp only [Act.put, List.setIfInBounds_toArray, List.set_cons_zero, List.set_cons_succ]
                  refine wpAnyH_take (i := 6) (oi := { dst := some 94, op := Op.binOp BinOp.neq 23 (Operand.tmp 90) (Operand.tmp 93) 23, type := 4, pos := "law.go:166", after := #[{ on := 2, ground := Ground.data }, { on := 5, ground := Ground.data }], guard := none }) (v := ?vz10a6) rfl (by kernel_rfl) (by kernel_rfl) (by kernel_rfl) (fun _ _ _ h => h) (Or.inl ⟨by rfl, ?yz10a6⟩) (by assumption) ?tz10a6
                  case yz10a6 => (intro wz hSw; clear hSw; go_simp; try with_reducible rfl)
                  simp only [Act.put, List.setIfInBounds_toArray, List.set_cons_zero, List.set_cons_succ]
                  refine wpAnyH_take (i := 7) (oi := { dst := some 95, op := Op.move (Operand.tmp 94), type := 4, pos := "law.go:166", after := #[{ on := 6, ground := Ground.data }], guard := none }) (v := ?vz10a7) rfl (by kernel_rfl) (by kernel_rfl) (by kernel_rfl) (fun _ _ _ h => h) (Or.inl ⟨by rfl, ?yz10a7⟩) (by assumption) ?tz10a7
                  case yz10a7 => (intro wz hSw; clear hSw; go_simp; try with_reducible rfl)
                  simp only [Act.put, List.setIfInBounds_toArray, List.set_cons_zero, List.set_cons_succ]
                  refine wpAnyH_take (i := 8) (oi := { dst := some 96, op := Op.move (Operand.tmp 12), type := 3, pos := "law.go:166", after := #[{ on := 7, ground := Ground.guard }], guard := some (7, true) }) (v := undef) rfl (by kernel_rfl) (by kernel_rfl) (by kernel_rfl) (fun _ _ _ h => h) (Or.inr ⟨by rfl, rfl⟩) (by assumption) ?_
                  simp only [Act.put, List.setIfInBounds_toArray, List.set_cons_zero, List.set_cons_succ]
                  refine wpAnyH_take (i := 9) (oi := { dst := some 97, op := Op.indexAddr 41 (Operand.tmp 10) (Operand.tmp 96), type := 0, pos := "law.go:166", after := #[{ on := 8, ground := Ground.data }, { on := 7, ground := Ground.guard }], guard := some (7, true) }) (v := undef) rfl (by kernel_rfl) (by kernel_rfl) (by kernel_rfl) (fun _ _ _ h => h) (Or.inr ⟨by rfl, rfl⟩) (by assumption) ?_
                  simp only [Act.put, List.setIfInBounds_toArray, List.set_cons_zero, List.set_cons_succ]
                  refine wpAnyH_take (i := 10) (oi := { dst := some 98, op := Op.load 23 (Operand.tmp 97), type := 23, pos := "law.go:166", after := #[{ on := 9, ground := Ground.data }, { on := 7, ground := Ground.guard }], guard := some (7, true) }) (v := undef) rfl (by kernel_rfl) (by kernel_rfl) (by kernel_rfl) (fun _ _ _ h => h) (Or.inr ⟨by rfl, rfl⟩) (by assumption) ?_
                  simp only [Act.put, List.setIfInBounds_toArray, List.set_cons_zero, List.set_cons_succ]
                  refine wpAnyH_take (i := 11) (oi := { dst := some 99, op := Op.move (Operand.tmp 14), type := 3, pos := "law.go:166", after := #[{ on := 7, ground := Ground.guard }], guard := some (7, true) }) (v := undef) rfl (by kernel_rfl) (by kernel_rfl) (by kernel_rfl) (fun _ _ _ h => h) (Or.inr ⟨by rfl, rfl⟩) (by assumption) ?_
                  simp only [Act.put, List.setIfInBounds_toArray, List.set_cons_zero, List.set_cons_succ]
                  refine wpAnyH_take (i := 12) (oi := { dst := some 100, op := Op.indexAddr 41 (Operand.tmp 10) (Operand.tmp 99), type := 0, pos := "law.go:166", after := #[{ on := 11, ground := Ground.data }, { on := 7, ground := Ground.guard }], guard := some (7, true) }) (v := undef) rfl (by kernel_rfl) (by kernel_rfl) (by kernel_rfl) (fun _ _ _ h => h) (Or.inr ⟨by rfl, rfl⟩) (by assumption) ?_
                  simp only [Act.put, List.setIfInBounds_toArray, List.set_cons_zero, List.set_cons_succ]
                  refine wpAnyH_take (i := 13) (oi := { dst := some 101, op := Op.load 23 (Operand.tmp 100), type := 23, pos := "law.go:166", after := #[{ on := 12, ground := Ground.data }, { on := 7, ground := Ground.guard }], guard := some (7, true) }) (v := undef) rfl (by kernel_rfl) (by kernel_rfl) (by kernel_rfl) (fun _ _ _ h => h) (Or.inr ⟨by rfl, rfl⟩) (by assumption) ?_
                  simp only [Act.put, List.setIfInBounds_toArray, List.set_cons_zero, List.set_cons_succ]
                  refine wpAnyH_take (i := 14) (oi := { dst := some 102, op := Op.call { callee := Callee.value (Operand.func 20), args := #[Operand.tmp 98, Operand.tmp 101], argTypes := #[23, 23] }, type := 4, pos := "law.go:166", after := #[{ on := 10, ground := Ground.data }, { on := 13, ground := Ground.data }, { on := 7, ground := Ground.chain }, { on := 7, ground := Ground.guard }], guard := some (7, true) }) (v := undef) rfl (by kernel_rfl) (by kernel_rfl) (by kernel_rfl) (fun _ _ _ h => h) (Or.inr ⟨by rfl, rfl⟩) (by assumption) ?_
                  simp only [Act.put, List.setIfInBounds_toArray, List.set_cons_zero, List.set_cons_succ]
                  refine wpAnyH_take (i := 15) (oi := { dst := some 103, op := Op.unOp UnOp.not 4 (Operand.tmp 102), type := 4, pos := "law.go:166", after := #[{ on := 14, ground := Ground.data }, { on := 7, ground := Ground.guard }], guard := some (7, true) }) (v := undef) rfl (by kernel_rfl) (by kernel_rfl) (by kernel_rfl) (fun _ _ _ h => h) (Or.inr ⟨by rfl, rfl⟩) (by assumption) ?_
                  simp only [Act.put, List.setIfInBounds_toArray, List.set_cons_zero, List.set_cons_succ]
                  refine wpAnyH_take (i := 16) (oi := { dst := some 104, op := Op.pick (Operand.tmp 95) (Operand.tmp 103) (Operand.const (Value.bool false)), type := 4, pos := "law.go:166", after := #[{ on := 7, ground := Ground.data }, { on := 15, ground := Ground.data }], guard := none }) (v := ?vz10a16) rfl (by kernel_rfl) (by kernel_rfl) (by kernel_rfl) (fun _ _ _ h => h) (Or.inl ⟨by rfl, ?yz10a16⟩) (by assumption) ?tz10a16
                  case yz10a16 => (intro wz hSw; clear hSw; go_simp; try with_reducible rfl)
                  simp only [Act.put, List.setIfInBounds_toArray, List.set_cons_zero, List.set_cons_succ]
                  refine wpAnyH_done (by kernel_rfl) ?_ _
                  have H2 := Lib.hid hHeld
                  clear hHeld
                  go_wp2_with fail
                  go_roundw
                  case rel => exact ⟨H2, .inr (.inl rfl)⟩
                  case measure => decide
                · have hEq := fun V => run_factNe M0 M1 V
                  rw [show (!decide (M0 = M1)) = true by rw [decide_eq_false (fun e => he e.symm)]; rfl] at hEq
                  rw [hq] at HP10
                  have hGu := run_factGuard
                  clear he hq
                  go_wp2_with fail
                  refine wp_region_held_drew (S := (fun v => ChS W bl G (.cells #[.int .i64 v0, .int .i64 v1, .int .i64 v2] 40) (.cells #[.int .i64 d0, .int .i64 d1, .int .i64 d2] 40) (.cells #[.int .i64 x0, .int .i64 x1, .int .i64 x2] 40) 41 (c3 M0 M1 M2) v)) (by kernel_rfl) (H.out.drew) (fun hHeld => ?_)
                  generalize wr.drew = wd at *
                  refine wpAnyH_take (i := 0) (oi := { dst := some 88, op := Op.move (Operand.tmp 14), type := 3, pos := "law.go:166", after := #[], guard := none }) (v := ?vz10b0) rfl (by kernel_rfl) (by kernel_rfl) (by kernel_rfl) (fun _ _ _ h => h) (Or.inl ⟨by rfl, ?yz10b0⟩) (by assumption) ?tz10b0
                  case yz10b0 => (intro wz hSw; clear hSw; go_simp; try with_reducible rfl)
                  simp only [Act.put, List.setIfInBounds_toArray, List.set_cons_zero, List.set_cons_succ]
                  refine wpAnyH_take (i := 1) (oi := { dst := some 89, op := Op.indexAddr 41 (Operand.tmp 10) (Operand.tmp 88), type := 0, pos := "law.go:166", after := #[{ on := 0, ground := Ground.data }], guard := none }) (v := ?vz10b1) rfl (by kernel_rfl) (by kernel_rfl) (by kernel_rfl) (fun _ _ _ h => h) (Or.inl ⟨by rfl, ?yz10b1⟩) (by assumption) ?tz10b1
                  case yz10b1 => (intro wz hSw; clear hSw; go_simp; try with_reducible rfl)
                  simp only [Act.put, List.setIfInBounds_toArray, List.set_cons_zero, List.set_cons_succ]
                  refine wpAnyH_take (i := 2) (oi := { dst := some 90, op := Op.load 23 (Operand.tmp 89), type := 23, pos := "law.go:166", after := #[{ on := 1, ground := Ground.data }], guard := none }) (v := factV M0) rfl (by kernel_rfl) (by kernel_rfl) (by kernel_rfl) (fun _ _ _ h => h) (Or.inl ⟨by rfl, fun wz hSw => sem_load_mid _ rfl (bl) 0 rfl (c3 M0 M1 M2) M0 (hSw.2.2.2.2.1) rfl⟩) (by assumption) ?tz10b2
                  simp only [Act.put, List.setIfInBounds_toArray, List.set_cons_zero, List.set_cons_succ]
                  refine wpAnyH_take (i := 3) (oi := { dst := some 91, op := Op.move (Operand.tmp 12), type := 3, pos := "law.go:166", after := #[], guard := none }) (v := ?vz10b3) rfl (by kernel_rfl) (by kernel_rfl) (by kernel_rfl) (fun _ _ _ h => h) (Or.inl ⟨by rfl, ?yz10b3⟩) (by assumption) ?tz10b3
                  case yz10b3 => (intro wz hSw; clear hSw; go_simp; try with_reducible rfl)
                  simp only [Act.put, List.setIfInBounds_toArray, List.set_cons_zero, List.set_cons_succ]
                  refine wpAnyH_take (i := 4) (oi := { dst := some 92, op := Op.indexAddr 41 (Operand.tmp 10) (Operand.tmp 91), type := 0, pos := "law.go:166", after := #[{ on := 3, ground := Ground.data }], guard := none }) (v := ?vz10b4) rfl (by kernel_rfl) (by kernel_rfl) (by kernel_rfl) (fun _ _ _ h => h) (Or.inl ⟨by rfl, ?yz10b4⟩) (by assumption) ?tz10b4
                  case yz10b4 => (intro wz hSw; clear hSw; go_simp; try with_reducible rfl)
                  simp only [Act.put, List.setIfInBounds_toArray, List.set_cons_zero, List.set_cons_succ]
                  refine wpAnyH_take (i := 5) (oi := { dst := some 93, op := Op.load 23 (Operand.tmp 92), type := 23, pos := "law.go:166", after := #[{ on := 4, ground := Ground.data }], guard := none }) (v := factV M1) rfl (by kernel_rfl) (by kernel_rfl) (by kernel_rfl) (fun _ _ _ h => h) (Or.inl ⟨by rfl, fun wz hSw => sem_load_mid _ rfl (bl) 19 rfl (c3 M0 M1 M2) M1 (hSw.2.2.2.2.1) rfl⟩) (by assumption) ?tz10b5
                  simp only [Act.put, List.setIfInBounds_toArray, List.set_cons_zero, List.set_cons_succ]
                  refine wpAnyH_take (i := 6) (oi := { dst := some 94, op := Op.binOp BinOp.neq 23 (Operand.tmp 90) (Operand.tmp 93) 23, type := 4, pos := "law.go:166", after := #[{ on := 2, ground := Ground.data }, { on := 5, ground := Ground.data }], guard := none }) (v := ?vz10b6) rfl (by kernel_rfl) (by kernel_rfl) (by kernel_rfl) (fun _ _ _ h => h) (Or.inl ⟨by rfl, ?yz10b6⟩) (by assumption) ?tz10b6
                  case yz10b6 => (intro wz hSw; clear hSw; go_simp; try with_reducible rfl)
                  simp only [Act.put, List.setIfInBounds_toArray, List.set_cons_zero, List.set_cons_succ]
                  refine wpAnyH_take (i := 7) (oi := { dst := some 95, op := Op.move (Operand.tmp 94), type := 4, pos := "law.go:166", after := #[{ on := 6, ground := Ground.data }], guard := none }) (v := ?vz10b7) rfl (by kernel_rfl) (by kernel_rfl) (by kernel_rfl) (fun _ _ _ h => h) (Or.inl ⟨by rfl, ?yz10b7⟩) (by assumption) ?tz10b7
                  case yz10b7 => (intro wz hSw; clear hSw; go_simp; try with_reducible rfl)
                  simp only [Act.put, List.setIfInBounds_toArray, List.set_cons_zero, List.set_cons_succ]
                  refine wpAnyH_take (i := 8) (oi := { dst := some 96, op := Op.move (Operand.tmp 12), type := 3, pos := "law.go:166", after := #[{ on := 7, ground := Ground.guard }], guard := some (7, true) }) (v := ?vz10b8) rfl (by kernel_rfl) (by kernel_rfl) (by kernel_rfl) (fun _ _ _ h => h) (Or.inl ⟨by rfl, ?yz10b8⟩) (by assumption) ?tz10b8
                  case yz10b8 => (intro wz hSw; clear hSw; go_simp; try with_reducible rfl)
                  simp only [Act.put, List.setIfInBounds_toArray, List.set_cons_zero, List.set_cons_succ]
                  refine wpAnyH_take (i := 9) (oi := { dst := some 97, op := Op.indexAddr 41 (Operand.tmp 10) (Operand.tmp 96), type := 0, pos := "law.go:166", after := #[{ on := 8, ground := Ground.data }, { on := 7, ground := Ground.guard }], guard := some (7, true) }) (v := ?vz10b9) rfl (by kernel_rfl) (by kernel_rfl) (by kernel_rfl) (fun _ _ _ h => h) (Or.inl ⟨by rfl, ?yz10b9⟩) (by assumption) ?tz10b9
                  case yz10b9 => (intro wz hSw; clear hSw; go_simp; try with_reducible rfl)
                  simp only [Act.put, List.setIfInBounds_toArray, List.set_cons_zero, List.set_cons_succ]
                  refine wpAnyH_take (i := 10) (oi := { dst := some 98, op := Op.load 23 (Operand.tmp 97), type := 23, pos := "law.go:166", after := #[{ on := 9, ground := Ground.data }, { on := 7, ground := Ground.guard }], guard := some (7, true) }) (v := factV M1) rfl (by kernel_rfl) (by kernel_rfl) (by kernel_rfl) (fun _ _ _ h => h) (Or.inl ⟨by rfl, fun wz hSw => sem_load_mid _ rfl (bl) 19 rfl (c3 M0 M1 M2) M1 (hSw.2.2.2.2.1) rfl⟩) (by assumption) ?tz10b10
                  simp only [Act.put, List.setIfInBounds_toArray, List.set_cons_zero, List.set_cons_succ]
                  refine wpAnyH_take (i := 11) (oi := { dst := some 99, op := Op.move (Operand.tmp 14), type := 3, pos := "law.go:166", after := #[{ on := 7, ground := Ground.guard }], guard := some (7, true) }) (v := ?vz10b11) rfl (by kernel_rfl) (by kernel_rfl) (by kernel_rfl) (fun _ _ _ h => h) (Or.inl ⟨by rfl, ?yz10b11⟩) (by assumption) ?tz10b11
                  case yz10b11 => (intro wz hSw; clear hSw; go_simp; try with_reducible rfl)
                  simp only [Act.put, List.setIfInBounds_toArray, List.set_cons_zero, List.set_cons_succ]
                  refine wpAnyH_take (i := 12) (oi := { dst := some 100, op := Op.indexAddr 41 (Operand.tmp 10) (Operand.tmp 99), type := 0, pos := "law.go:166", after := #[{ on := 11, ground := Ground.data }, { on := 7, ground := Ground.guard }], guard := some (7, true) }) (v := ?vz10b12) rfl (by kernel_rfl) (by kernel_rfl) (by kernel_rfl) (fun _ _ _ h => h) (Or.inl ⟨by rfl, ?yz10b12⟩) (by assumption) ?tz10b12
                  case yz10b12 => (intro wz hSw; clear hSw; go_simp; try with_reducible rfl)
                  simp only [Act.put, List.setIfInBounds_toArray, List.set_cons_zero, List.set_cons_succ]
                  refine wpAnyH_take (i := 13) (oi := { dst := some 101, op := Op.load 23 (Operand.tmp 100), type := 23, pos := "law.go:166", after := #[{ on := 12, ground := Ground.data }, { on := 7, ground := Ground.guard }], guard := some (7, true) }) (v := factV M0) rfl (by kernel_rfl) (by kernel_rfl) (by kernel_rfl) (fun _ _ _ h => h) (Or.inl ⟨by rfl, fun wz hSw => sem_load_mid _ rfl (bl) 0 rfl (c3 M0 M1 M2) M0 (hSw.2.2.2.2.1) rfl⟩) (by assumption) ?tz10b13
                  simp only [Act.put, List.setIfInBounds_toArray, List.set_cons_zero, List.set_cons_succ]
                  refine wpAnyH_ready (rs := [14]) (by kernel_rfl) (by simp) ?_
                  refine AllReadyH.cons (o := { dst := some 102, op := Op.call { callee := Callee.value (Operand.func 20), args := #[Operand.tmp 98, Operand.tmp 101], argTypes := #[23, 23] }, type := 4, pos := "law.go:166", after := #[{ on := 10, ground := Ground.data }, { on := 13, ground := Ground.data }, { on := 7, ground := Ground.chain }, { on := 7, ground := Ground.guard }], guard := some (7, true) }) rfl (fun K hK => ?_) AllReadyH.nil
                  have HH := Lib.hid hHeld
                  go_simp
                  refine (HP10.out _ HH.out.2.2.2.2.2.2.1).mono ?_; rintro e wz ⟨rfl, gz⟩
                  have hz := HH.out.below gz
                  clear gz HH
                  refine hK.out _ _ (hz) (fun hHeld' => ?_)
                  clear hK K hHeld
                  have hHeld := hHeld'; clear hHeld'
                  try simp only [Act.put, List.setIfInBounds_toArray, List.set_cons_zero, List.set_cons_succ]
                  refine wpAnyH_take (i := 15) (oi := { dst := some 103, op := Op.unOp UnOp.not 4 (Operand.tmp 102), type := 4, pos := "law.go:166", after := #[{ on := 14, ground := Ground.data }, { on := 7, ground := Ground.guard }], guard := some (7, true) }) (v := ?vz10b15) rfl (by kernel_rfl) (by kernel_rfl) (by kernel_rfl) (fun _ _ _ h => h) (Or.inl ⟨by rfl, ?yz10b15⟩) (by assumption) ?tz10b15
                  case yz10b15 => (intro wz hSw; clear hSw; go_simp; try with_reducible rfl)
                  simp only [Act.put, List.setIfInBounds_toArray, List.set_cons_zero, List.set_cons_succ]
                  refine wpAnyH_take (i := 16) (oi := { dst := some 104, op := Op.pick (Operand.tmp 95) (Operand.tmp 103) (Operand.const (Value.bool false)), type := 4, pos := "law.go:166", after := #[{ on := 7, ground := Ground.data }, { on := 15, ground := Ground.data }], guard := none }) (v := ?vz10b16) rfl (by kernel_rfl) (by kernel_rfl) (by kernel_rfl) (fun _ _ _ h => h) (Or.inl ⟨by rfl, ?yz10b16⟩) (by assumption) ?tz10b16
                  case yz10b16 => (intro wz hSw; clear hSw; go_simp; try with_reducible rfl)
                  simp only [Act.put, List.setIfInBounds_toArray, List.set_cons_zero, List.set_cons_succ]
                  refine wpAnyH_done (by kernel_rfl) ?_ _
                  have H2 := Lib.hid hHeld
                  clear hHeld
                  go_wp2_with fail
                  go_roundw
                  case rel => exact ⟨H2, .inr (.inl rfl)⟩
                  case measure => decide
              · have hEq := fun V => run_factNe M1 M1 V
                rw [show (!decide (M1 = M1)) = false by simp] at hEq
                have hGu := run_factGuard
                go_wp2_with fail
                refine wp_region_held_drew (S := (fun v => ChS W bl G (.cells #[.int .i64 v0, .int .i64 v1, .int .i64 v2] 40) (.cells #[.int .i64 d0, .int .i64 d1, .int .i64 d2] 40) (.cells #[.int .i64 x0, .int .i64 x1, .int .i64 x2] 40) 41 (c3 M0 M1 M2) v)) (by kernel_rfl) (H.out.drew) (fun hHeld => ?_)
                generalize wr.drew = wd at *
                refine wpAnyH_take (i := 0) (oi := { dst := some 88, op := Op.move (Operand.tmp 14), type := 3, pos := "law.go:166", after := #[], guard := none }) (v := ?vz110) rfl (by kernel_rfl) (by kernel_rfl) (by kernel_rfl) (fun _ _ _ h => h) (Or.inl ⟨by rfl, ?yz110⟩) (by assumption) ?tz110
                case yz110 => (intro wz hSw; clear hSw; go_simp; try with_reducible rfl)
                simp only [Act.put, List.setIfInBounds_toArray, List.set_cons_zero, List.set_cons_succ]
                refine wpAnyH_take (i := 1) (oi := { dst := some 89, op := Op.indexAddr 41 (Operand.tmp 10) (Operand.tmp 88), type := 0, pos := "law.go:166", after := #[{ on := 0, ground := Ground.data }], guard := none }) (v := ?vz111) rfl (by kernel_rfl) (by kernel_rfl) (by kernel_rfl) (fun _ _ _ h => h) (Or.inl ⟨by rfl, ?yz111⟩) (by assumption) ?tz111
                case yz111 => (intro wz hSw; clear hSw; go_simp; try with_reducible rfl)
                simp only [Act.put, List.setIfInBounds_toArray, List.set_cons_zero, List.set_cons_succ]
                refine wpAnyH_take (i := 2) (oi := { dst := some 90, op := Op.load 23 (Operand.tmp 89), type := 23, pos := "law.go:166", after := #[{ on := 1, ground := Ground.data }], guard := none }) (v := factV M1) rfl (by kernel_rfl) (by kernel_rfl) (by kernel_rfl) (fun _ _ _ h => h) (Or.inl ⟨by rfl, fun wz hSw => sem_load_mid _ rfl (bl) 19 rfl (c3 M0 M1 M2) M1 (hSw.2.2.2.2.1) rfl⟩) (by assumption) ?tz112
                simp only [Act.put, List.setIfInBounds_toArray, List.set_cons_zero, List.set_cons_succ]
                refine wpAnyH_take (i := 3) (oi := { dst := some 91, op := Op.move (Operand.tmp 12), type := 3, pos := "law.go:166", after := #[], guard := none }) (v := ?vz113) rfl (by kernel_rfl) (by kernel_rfl) (by kernel_rfl) (fun _ _ _ h => h) (Or.inl ⟨by rfl, ?yz113⟩) (by assumption) ?tz113
                case yz113 => (intro wz hSw; clear hSw; go_simp; try with_reducible rfl)
                simp only [Act.put, List.setIfInBounds_toArray, List.set_cons_zero, List.set_cons_succ]
                refine wpAnyH_take (i := 4) (oi := { dst := some 92, op := Op.indexAddr 41 (Operand.tmp 10) (Operand.tmp 91), type := 0, pos := "law.go:166", after := #[{ on := 3, ground := Ground.data }], guard := none }) (v := ?vz114) rfl (by kernel_rfl) (by kernel_rfl) (by kernel_rfl) (fun _ _ _ h => h) (Or.inl ⟨by rfl, ?yz114⟩) (by assumption) ?tz114
                case yz114 => (intro wz hSw; clear hSw; go_simp; try with_reducible rfl)
                simp only [Act.put, List.setIfInBounds_toArray, List.set_cons_zero, List.set_cons_succ]
                refine wpAnyH_take (i := 5) (oi := { dst := some 93, op := Op.load 23 (Operand.tmp 92), type := 23, pos := "law.go:166", after := #[{ on := 4, ground := Ground.data }], guard := none }) (v := factV M1) rfl (by kernel_rfl) (by kernel_rfl) (by kernel_rfl) (fun _ _ _ h => h) (Or.inl ⟨by rfl, fun wz hSw => sem_load_mid _ rfl (bl) 19 rfl (c3 M0 M1 M2) M1 (hSw.2.2.2.2.1) rfl⟩) (by assumption) ?tz115
                simp only [Act.put, List.setIfInBounds_toArray, List.set_cons_zero, List.set_cons_succ]
                refine wpAnyH_take (i := 6) (oi := { dst := some 94, op := Op.binOp BinOp.neq 23 (Operand.tmp 90) (Operand.tmp 93) 23, type := 4, pos := "law.go:166", after := #[{ on := 2, ground := Ground.data }, { on := 5, ground := Ground.data }], guard := none }) (v := ?vz116) rfl (by kernel_rfl) (by kernel_rfl) (by kernel_rfl) (fun _ _ _ h => h) (Or.inl ⟨by rfl, ?yz116⟩) (by assumption) ?tz116
                case yz116 => (intro wz hSw; clear hSw; go_simp; try with_reducible rfl)
                simp only [Act.put, List.setIfInBounds_toArray, List.set_cons_zero, List.set_cons_succ]
                refine wpAnyH_take (i := 7) (oi := { dst := some 95, op := Op.move (Operand.tmp 94), type := 4, pos := "law.go:166", after := #[{ on := 6, ground := Ground.data }], guard := none }) (v := ?vz117) rfl (by kernel_rfl) (by kernel_rfl) (by kernel_rfl) (fun _ _ _ h => h) (Or.inl ⟨by rfl, ?yz117⟩) (by assumption) ?tz117
                case yz117 => (intro wz hSw; clear hSw; go_simp; try with_reducible rfl)
                simp only [Act.put, List.setIfInBounds_toArray, List.set_cons_zero, List.set_cons_succ]
                refine wpAnyH_take (i := 8) (oi := { dst := some 96, op := Op.move (Operand.tmp 12), type := 3, pos := "law.go:166", after := #[{ on := 7, ground := Ground.guard }], guard := some (7, true) }) (v := undef) rfl (by kernel_rfl) (by kernel_rfl) (by kernel_rfl) (fun _ _ _ h => h) (Or.inr ⟨by rfl, rfl⟩) (by assumption) ?_
                simp only [Act.put, List.setIfInBounds_toArray, List.set_cons_zero, List.set_cons_succ]
                refine wpAnyH_take (i := 9) (oi := { dst := some 97, op := Op.indexAddr 41 (Operand.tmp 10) (Operand.tmp 96), type := 0, pos := "law.go:166", after := #[{ on := 8, ground := Ground.data }, { on := 7, ground := Ground.guard }], guard := some (7, true) }) (v := undef) rfl (by kernel_rfl) (by kernel_rfl) (by kernel_rfl) (fun _ _ _ h => h) (Or.inr ⟨by rfl, rfl⟩) (by assumption) ?_
                simp only [Act.put, List.setIfInBounds_toArray, List.set_cons_zero, List.set_cons_succ]
                refine wpAnyH_take (i := 10) (oi := { dst := some 98, op := Op.load 23 (Operand.tmp 97), type := 23, pos := "law.go:166", after := #[{ on := 9, ground := Ground.data }, { on := 7, ground := Ground.guard }], guard := some (7, true) }) (v := undef) rfl (by kernel_rfl) (by kernel_rfl) (by kernel_rfl) (fun _ _ _ h => h) (Or.inr ⟨by rfl, rfl⟩) (by assumption) ?_
                simp only [Act.put, List.setIfInBounds_toArray, List.set_cons_zero, List.set_cons_succ]
                refine wpAnyH_take (i := 11) (oi := { dst := some 99, op := Op.move (Operand.tmp 14), type := 3, pos := "law.go:166", after := #[{ on := 7, ground := Ground.guard }], guard := some (7, true) }) (v := undef) rfl (by kernel_rfl) (by kernel_rfl) (by kernel_rfl) (fun _ _ _ h => h) (Or.inr ⟨by rfl, rfl⟩) (by assumption) ?_
                simp only [Act.put, List.setIfInBounds_toArray, List.set_cons_zero, List.set_cons_succ]
                refine wpAnyH_take (i := 12) (oi := { dst := some 100, op := Op.indexAddr 41 (Operand.tmp 10) (Operand.tmp 99), type := 0, pos := "law.go:166", after := #[{ on := 11, ground := Ground.data }, { on := 7, ground := Ground.guard }], guard := some (7, true) }) (v := undef) rfl (by kernel_rfl) (by kernel_rfl) (by kernel_rfl) (fun _ _ _ h => h) (Or.inr ⟨by rfl, rfl⟩) (by assumption) ?_
                simp only [Act.put, List.setIfInBounds_toArray, List.set_cons_zero, List.set_cons_succ]
                refine wpAnyH_take (i := 13) (oi := { dst := some 101, op := Op.load 23 (Operand.tmp 100), type := 23, pos := "law.go:166", after := #[{ on := 12, ground := Ground.data }, { on := 7, ground := Ground.guard }], guard := some (7, true) }) (v := undef) rfl (by kernel_rfl) (by kernel_rfl) (by kernel_rfl) (fun _ _ _ h => h) (Or.inr ⟨by rfl, rfl⟩) (by assumption) ?_
                simp only [Act.put, List.setIfInBounds_toArray, List.set_cons_zero, List.set_cons_succ]
                refine wpAnyH_take (i := 14) (oi := { dst := some 102, op := Op.call { callee := Callee.value (Operand.func 20), args := #[Operand.tmp 98, Operand.tmp 101], argTypes := #[23, 23] }, type := 4, pos := "law.go:166", after := #[{ on := 10, ground := Ground.data }, { on := 13, ground := Ground.data }, { on := 7, ground := Ground.chain }, { on := 7, ground := Ground.guard }], guard := some (7, true) }) (v := undef) rfl (by kernel_rfl) (by kernel_rfl) (by kernel_rfl) (fun _ _ _ h => h) (Or.inr ⟨by rfl, rfl⟩) (by assumption) ?_
                simp only [Act.put, List.setIfInBounds_toArray, List.set_cons_zero, List.set_cons_succ]
                refine wpAnyH_take (i := 15) (oi := { dst := some 103, op := Op.unOp UnOp.not 4 (Operand.tmp 102), type := 4, pos := "law.go:166", after := #[{ on := 14, ground := Ground.data }, { on := 7, ground := Ground.guard }], guard := some (7, true) }) (v := undef) rfl (by kernel_rfl) (by kernel_rfl) (by kernel_rfl) (fun _ _ _ h => h) (Or.inr ⟨by rfl, rfl⟩) (by assumption) ?_
                simp only [Act.put, List.setIfInBounds_toArray, List.set_cons_zero, List.set_cons_succ]
                refine wpAnyH_take (i := 16) (oi := { dst := some 104, op := Op.pick (Operand.tmp 95) (Operand.tmp 103) (Operand.const (Value.bool false)), type := 4, pos := "law.go:166", after := #[{ on := 7, ground := Ground.data }, { on := 15, ground := Ground.data }], guard := none }) (v := ?vz1116) rfl (by kernel_rfl) (by kernel_rfl) (by kernel_rfl) (fun _ _ _ h => h) (Or.inl ⟨by rfl, ?yz1116⟩) (by assumption) ?tz1116
                case yz1116 => (intro wz hSw; clear hSw; go_simp; try with_reducible rfl)
                simp only [Act.put, List.setIfInBounds_toArray, List.set_cons_zero, List.set_cons_succ]
                refine wpAnyH_done (by kernel_rfl) ?_ _
                have H2 := Lib.hid hHeld
                clear hHeld
                go_wp2_with fail
                go_roundw
                case rel => exact ⟨H2, .inr (.inr (.inl rfl))⟩
                case measure => decide
              · rcases ht.2.2 with he | ⟨he, hq⟩
                · have hEq := fun V => run_factNe M2 M1 V
                  rw [show (!decide (M2 = M1)) = false by rw [he]; simp] at hEq
                  have hGu := run_factGuard
                  clear he
                  go_wp2_with fail
                  refine wp_region_held_drew (S := (fun v => ChS W bl G (.cells #[.int .i64 v0, .int .i64 v1, .int .i64 v2] 40) (.cells #[.int .i64 d0, .int .i64 d1, .int .i64 d2] 40) (.cells #[.int .i64 x0, .int .i64 x1, .int .i64 x2] 40) 41 (c3 M0 M1 M2) v)) (by kernel_rfl) (H.out.drew) (fun hHeld => ?_)
                  generalize wr.drew = wd at *
                  refine wpAnyH_take (i := 0) (oi := { dst := some 88, op := Op.move (Operand.tmp 14), type := 3, pos := "law.go:166", after := #[], guard := none }) (v := ?vz12a0) rfl (by kernel_rfl) (by kernel_rfl) (by kernel_rfl) (fun _ _ _ h => h) (Or.inl ⟨by rfl, ?yz12a0⟩) (by assumption) ?tz12a0
                  case yz12a0 => (intro wz hSw; clear hSw; go_simp; try with_reducible rfl)
                  simp only [Act.put, List.setIfInBounds_toArray, List.set_cons_zero, List.set_cons_succ]
                  refine wpAnyH_take (i := 1) (oi := { dst := some 89, op := Op.indexAddr 41 (Operand.tmp 10) (Operand.tmp 88), type := 0, pos := "law.go:166", after := #[{ on := 0, ground := Ground.data }], guard := none }) (v := ?vz12a1) rfl (by kernel_rfl) (by kernel_rfl) (by kernel_rfl) (fun _ _ _ h => h) (Or.inl ⟨by rfl, ?yz12a1⟩) (by assumption) ?tz12a1
                  case yz12a1 => (intro wz hSw; clear hSw; go_simp; try with_reducible rfl)
                  simp only [Act.put, List.setIfInBounds_toArray, List.set_cons_zero, List.set_cons_succ]
                  refine wpAnyH_take (i := 2) (oi := { dst := some 90, op := Op.load 23 (Operand.tmp 89), type := 23, pos := "law.go:166", after := #[{ on := 1, ground := Ground.data }], guard := none }) (v := factV M2) rfl (by kernel_rfl) (by kernel_rfl) (by kernel_rfl) (fun _ _ _ h => h) (Or.inl ⟨by rfl, fun wz hSw => sem_load_mid _ rfl (bl) 38 rfl (c3 M0 M1 M2) M2 (hSw.2.2.2.2.1) rfl⟩) (by assumption) ?tz12a2
                  simp only [Act.put, List.setIfInBounds_toArray, List.set_cons_zero, List.set_cons_succ]
                  refine wpAnyH_take (i := 3) (oi := { dst := some 91, op := Op.move (Operand.tmp 12), type := 3, pos := "law.go:166", after := #[], guard := none }) (v := ?vz12a3) rfl (by kernel_rfl) (by kernel_rfl) (by kernel_rfl) (fun _ _ _ h => h) (Or.inl ⟨by rfl, ?yz12a3⟩) (by assumption) ?tz12a3
                  case yz12a3 => (intro wz hSw; clear hSw; go_simp; try with_reducible rfl)
                  simp only [Act.put, List.setIfInBounds_toArray, List.set_cons_zero, List.set_cons_succ]
                  refine wpAnyH_take (i := 4) (oi := { dst := some 92, op := Op.indexAddr 41 (Operand.tmp 10) (Operand.tmp 91), type := 0, pos := "law.go:166", after := #[{ on := 3, ground := Ground.data }], guard := none }) (v := ?vz12a4) rfl (by kernel_rfl) (by kernel_rfl) (by kernel_rfl) (fun _ _ _ h => h) (Or.inl ⟨by rfl, ?yz12a4⟩) (by assumption) ?tz12a4
                  case yz12a4 => (intro wz hSw; clear hSw; go_simp; try with_reducible rfl)
                  simp only [Act.put, List.setIfInBounds_toArray, List.set_cons_zero, List.set_cons_succ]
                  refine wpAnyH_take (i := 5) (oi := { dst := some 93, op := Op.load 23 (Operand.tmp 92), type := 23, pos := "law.go:166", after := #[{ on := 4, ground := Ground.data }], guard := none }) (v := factV M1) rfl (by kernel_rfl) (by kernel_rfl) (by kernel_rfl) (fun _ _ _ h => h) (Or.inl ⟨by rfl, fun wz hSw => sem_load_mid _ rfl (bl) 19 rfl (c3 M0 M1 M2) M1 (hSw.2.2.2.2.1) rfl⟩) (by assumption) ?tz12a5
                  simp only [Act.put, List.setIfInBounds_toArray, List.set_cons_zero, List.set_cons_succ]
                  refine wpAnyH_take (i := 6) (oi := { dst := some 94, op := Op.binOp BinOp.neq 23 (Operand.tmp 90) (Operand.tmp 93) 23, type := 4, pos := "law.go:166", after := #[{ on := 2, ground := Ground.data }, { on := 5, ground := Ground.data }], guard := none }) (v := ?vz12a6) rfl (by kernel_rfl) (by kernel_rfl) (by kernel_rfl) (fun _ _ _ h => h) (Or.inl ⟨by rfl, ?yz12a6⟩) (by assumption) ?tz12a6
                  case yz12a6 => (intro wz hSw; clear hSw; go_simp; try with_reducible rfl)
                  simp only [Act.put, List.setIfInBounds_toArray, List.set_cons_zero, List.set_cons_succ]
                  refine wpAnyH_take (i := 7) (oi := { dst := some 95, op := Op.move (Operand.tmp 94), type := 4, pos := "law.go:166", after := #[{ on := 6, ground := Ground.data }], guard := none }) (v := ?vz12a7) rfl (by kernel_rfl) (by kernel_rfl) (by kernel_rfl) (fun _ _ _ h => h) (Or.inl ⟨by rfl, ?yz12a7⟩) (by assumption) ?tz12a7
                  case yz12a7 => (intro wz hSw; clear hSw; go_simp; try with_reducible rfl)
                  simp only [Act.put, List.setIfInBounds_toArray, List.set_cons_zero, List.set_cons_succ]
                  refine wpAnyH_take (i := 8) (oi := { dst := some 96, op := Op.move (Operand.tmp 12), type := 3, pos := "law.go:166", after := #[{ on := 7, ground := Ground.guard }], guard := some (7, true) }) (v := undef) rfl (by kernel_rfl) (by kernel_rfl) (by kernel_rfl) (fun _ _ _ h => h) (Or.inr ⟨by rfl, rfl⟩) (by assumption) ?_
                  simp only [Act.put, List.setIfInBounds_toArray, List.set_cons_zero, List.set_cons_succ]
                  refine wpAnyH_take (i := 9) (oi := { dst := some 97, op := Op.indexAddr 41 (Operand.tmp 10) (Operand.tmp 96), type := 0, pos := "law.go:166", after := #[{ on := 8, ground := Ground.data }, { on := 7, ground := Ground.guard }], guard := some (7, true) }) (v := undef) rfl (by kernel_rfl) (by kernel_rfl) (by kernel_rfl) (fun _ _ _ h => h) (Or.inr ⟨by rfl, rfl⟩) (by assumption) ?_
                  simp only [Act.put, List.setIfInBounds_toArray, List.set_cons_zero, List.set_cons_succ]
                  refine wpAnyH_take (i := 10) (oi := { dst := some 98, op := Op.load 23 (Operand.tmp 97), type := 23, pos := "law.go:166", after := #[{ on := 9, ground := Ground.data }, { on := 7, ground := Ground.guard }], guard := some (7, true) }) (v := undef) rfl (by kernel_rfl) (by kernel_rfl) (by kernel_rfl) (fun _ _ _ h => h) (Or.inr ⟨by rfl, rfl⟩) (by assumption) ?_
                  simp only [Act.put, List.setIfInBounds_toArray, List.set_cons_zero, List.set_cons_succ]
                  refine wpAnyH_take (i := 11) (oi := { dst := some 99, op := Op.move (Operand.tmp 14), type := 3, pos := "law.go:166", after := #[{ on := 7, ground := Ground.guard }], guard := some (7, true) }) (v := undef) rfl (by kernel_rfl) (by kernel_rfl) (by kernel_rfl) (fun _ _ _ h => h) (Or.inr ⟨by rfl, rfl⟩) (by assumption) ?_
                  simp only [Act.put, List.setIfInBounds_toArray, List.set_cons_zero, List.set_cons_succ]
                  refine wpAnyH_take (i := 12) (oi := { dst := some 100, op := Op.indexAddr 41 (Operand.tmp 10) (Operand.tmp 99), type := 0, pos := "law.go:166", after := #[{ on := 11, ground := Ground.data }, { on := 7, ground := Ground.guard }], guard := some (7, true) }) (v := undef) rfl (by kernel_rfl) (by kernel_rfl) (by kernel_rfl) (fun _ _ _ h => h) (Or.inr ⟨by rfl, rfl⟩) (by assumption) ?_
                  simp only [Act.put, List.setIfInBounds_toArray, List.set_cons_zero, List.set_cons_succ]
                  refine wpAnyH_take (i := 13) (oi := { dst := some 101, op := Op.load 23 (Operand.tmp 100), type := 23, pos := "law.go:166", after := #[{ on := 12, ground := Ground.data }, { on := 7, ground := Ground.guard }], guard := some (7, true) }) (v := undef) rfl (by kernel_rfl) (by kernel_rfl) (by kernel_rfl) (fun _ _ _ h => h) (Or.inr ⟨by rfl, rfl⟩) (by assumption) ?_
                  simp only [Act.put, List.setIfInBounds_toArray, List.set_cons_zero, List.set_cons_succ]
                  refine wpAnyH_take (i := 14) (oi := { dst := some 102, op := Op.call { callee := Callee.value (Operand.func 20), args := #[Operand.tmp 98, Operand.tmp 101], argTypes := #[23, 23] }, type := 4, pos := "law.go:166", after := #[{ on := 10, ground := Ground.data }, { on := 13, ground := Ground.data }, { on := 7, ground := Ground.chain }, { on := 7, ground := Ground.guard }], guard := some (7, true) }) (v := undef) rfl (by kernel_rfl) (by kernel_rfl) (by kernel_rfl) (fun _ _ _ h => h) (Or.inr ⟨by rfl, rfl⟩) (by assumption) ?_
                  simp only [Act.put, List.setIfInBounds_toArray, List.set_cons_zero, List.set_cons_succ]
                  refine wpAnyH_take (i := 15) (oi := { dst := some 103, op := Op.unOp UnOp.not 4 (Operand.tmp 102), type := 4, pos := "law.go:166", after := #[{ on := 14, ground := Ground.data }, { on := 7, ground := Ground.guard }], guard := some (7, true) }) (v := undef) rfl (by kernel_rfl) (by kernel_rfl) (by kernel_rfl) (fun _ _ _ h => h) (Or.inr ⟨by rfl, rfl⟩) (by assumption) ?_
                  simp only [Act.put, List.setIfInBounds_toArray, List.set_cons_zero, List.set_cons_succ]
                  refine wpAnyH_take (i := 16) (oi := { dst := some 104, op := Op.pick (Operand.tmp 95) (Operand.tmp 103) (Operand.const (Value.bool false)), type := 4, pos := "law.go:166", after := #[{ on := 7, ground := Ground.data }, { on := 15, ground := Ground.data }], guard := none }) (v := ?vz12a16) rfl (by kernel_rfl) (by kernel_rfl) (by kernel_rfl) (fun _ _ _ h => h) (Or.inl ⟨by rfl, ?yz12a16⟩) (by assumption) ?tz12a16
                  case yz12a16 => (intro wz hSw; clear hSw; go_simp; try with_reducible rfl)
                  simp only [Act.put, List.setIfInBounds_toArray, List.set_cons_zero, List.set_cons_succ]
                  refine wpAnyH_done (by kernel_rfl) ?_ _
                  have H2 := Lib.hid hHeld
                  clear hHeld
                  go_wp2_with fail
                  go_roundw
                  case rel => exact ⟨H2, .inr (.inr (.inr rfl))⟩
                  case measure => decide
                · have hEq := fun V => run_factNe M2 M1 V
                  rw [show (!decide (M2 = M1)) = true by rw [decide_eq_false (fun e => he e.symm)]; rfl] at hEq
                  rw [hq] at HP12
                  have hGu := run_factGuard
                  clear he hq
                  go_wp2_with fail
                  refine wp_region_held_drew (S := (fun v => ChS W bl G (.cells #[.int .i64 v0, .int .i64 v1, .int .i64 v2] 40) (.cells #[.int .i64 d0, .int .i64 d1, .int .i64 d2] 40) (.cells #[.int .i64 x0, .int .i64 x1, .int .i64 x2] 40) 41 (c3 M0 M1 M2) v)) (by kernel_rfl) (H.out.drew) (fun hHeld => ?_)
                  generalize wr.drew = wd at *
                  refine wpAnyH_take (i := 0) (oi := { dst := some 88, op := Op.move (Operand.tmp 14), type := 3, pos := "law.go:166", after := #[], guard := none }) (v := ?vz12b0) rfl (by kernel_rfl) (by kernel_rfl) (by kernel_rfl) (fun _ _ _ h => h) (Or.inl ⟨by rfl, ?yz12b0⟩) (by assumption) ?tz12b0
                  case yz12b0 => (intro wz hSw; clear hSw; go_simp; try with_reducible rfl)
                  simp only [Act.put, List.setIfInBounds_toArray, List.set_cons_zero, List.set_cons_succ]
                  refine wpAnyH_take (i := 1) (oi := { dst := some 89, op := Op.indexAddr 41 (Operand.tmp 10) (Operand.tmp 88), type := 0, pos := "law.go:166", after := #[{ on := 0, ground := Ground.data }], guard := none }) (v := ?vz12b1) rfl (by kernel_rfl) (by kernel_rfl) (by kernel_rfl) (fun _ _ _ h => h) (Or.inl ⟨by rfl, ?yz12b1⟩) (by assumption) ?tz12b1
                  case yz12b1 => (intro wz hSw; clear hSw; go_simp; try with_reducible rfl)
                  simp only [Act.put, List.setIfInBounds_toArray, List.set_cons_zero, List.set_cons_succ]
                  refine wpAnyH_take (i := 2) (oi := { dst := some 90, op := Op.load 23 (Operand.tmp 89), type := 23, pos := "law.go:166", after := #[{ on := 1, ground := Ground.data }], guard := none }) (v := factV M2) rfl (by kernel_rfl) (by kernel_rfl) (by kernel_rfl) (fun _ _ _ h => h) (Or.inl ⟨by rfl, fun wz hSw => sem_load_mid _ rfl (bl) 38 rfl (c3 M0 M1 M2) M2 (hSw.2.2.2.2.1) rfl⟩) (by assumption) ?tz12b2
                  simp only [Act.put, List.setIfInBounds_toArray, List.set_cons_zero, List.set_cons_succ]
                  refine wpAnyH_take (i := 3) (oi := { dst := some 91, op := Op.move (Operand.tmp 12), type := 3, pos := "law.go:166", after := #[], guard := none }) (v := ?vz12b3) rfl (by kernel_rfl) (by kernel_rfl) (by kernel_rfl) (fun _ _ _ h => h) (Or.inl ⟨by rfl, ?yz12b3⟩) (by assumption) ?tz12b3
                  case yz12b3 => (intro wz hSw; clear hSw; go_simp; try with_reducible rfl)
                  simp only [Act.put, List.setIfInBounds_toArray, List.set_cons_zero, List.set_cons_succ]
                  refine wpAnyH_take (i := 4) (oi := { dst := some 92, op := Op.indexAddr 41 (Operand.tmp 10) (Operand.tmp 91), type := 0, pos := "law.go:166", after := #[{ on := 3, ground := Ground.data }], guard := none }) (v := ?vz12b4) rfl (by kernel_rfl) (by kernel_rfl) (by kernel_rfl) (fun _ _ _ h => h) (Or.inl ⟨by rfl, ?yz12b4⟩) (by assumption) ?tz12b4
                  case yz12b4 => (intro wz hSw; clear hSw; go_simp; try with_reducible rfl)
                  simp only [Act.put, List.setIfInBounds_toArray, List.set_cons_zero, List.set_cons_succ]
                  refine wpAnyH_take (i := 5) (oi := { dst := some 93, op := Op.load 23 (Operand.tmp 92), type := 23, pos := "law.go:166", after := #[{ on := 4, ground := Ground.data }], guard := none }) (v := factV M1) rfl (by kernel_rfl) (by kernel_rfl) (by kernel_rfl) (fun _ _ _ h => h) (Or.inl ⟨by rfl, fun wz hSw => sem_load_mid _ rfl (bl) 19 rfl (c3 M0 M1 M2) M1 (hSw.2.2.2.2.1) rfl⟩) (by assumption) ?tz12b5
                  simp only [Act.put, List.setIfInBounds_toArray, List.set_cons_zero, List.set_cons_succ]
                  refine wpAnyH_take (i := 6) (oi := { dst := some 94, op := Op.binOp BinOp.neq 23 (Operand.tmp 90) (Operand.tmp 93) 23, type := 4, pos := "law.go:166", after := #[{ on := 2, ground := Ground.data }, { on := 5, ground := Ground.data }], guard := none }) (v := ?vz12b6) rfl (by kernel_rfl) (by kernel_rfl) (by kernel_rfl) (fun _ _ _ h => h) (Or.inl ⟨by rfl, ?yz12b6⟩) (by assumption) ?tz12b6
                  case yz12b6 => (intro wz hSw; clear hSw; go_simp; try with_reducible rfl)
                  simp only [Act.put, List.setIfInBounds_toArray, List.set_cons_zero, List.set_cons_succ]
                  refine wpAnyH_take (i := 7) (oi := { dst := some 95, op := Op.move (Operand.tmp 94), type := 4, pos := "law.go:166", after := #[{ on := 6, ground := Ground.data }], guard := none }) (v := ?vz12b7) rfl (by kernel_rfl) (by kernel_rfl) (by kernel_rfl) (fun _ _ _ h => h) (Or.inl ⟨by rfl, ?yz12b7⟩) (by assumption) ?tz12b7
                  case yz12b7 => (intro wz hSw; clear hSw; go_simp; try with_reducible rfl)
                  simp only [Act.put, List.setIfInBounds_toArray, List.set_cons_zero, List.set_cons_succ]
                  refine wpAnyH_take (i := 8) (oi := { dst := some 96, op := Op.move (Operand.tmp 12), type := 3, pos := "law.go:166", after := #[{ on := 7, ground := Ground.guard }], guard := some (7, true) }) (v := ?vz12b8) rfl (by kernel_rfl) (by kernel_rfl) (by kernel_rfl) (fun _ _ _ h => h) (Or.inl ⟨by rfl, ?yz12b8⟩) (by assumption) ?tz12b8
                  case yz12b8 => (intro wz hSw; clear hSw; go_simp; try with_reducible rfl)
                  simp only [Act.put, List.setIfInBounds_toArray, List.set_cons_zero, List.set_cons_succ]
                  refine wpAnyH_take (i := 9) (oi := { dst := some 97, op := Op.indexAddr 41 (Operand.tmp 10) (Operand.tmp 96), type := 0, pos := "law.go:166", after := #[{ on := 8, ground := Ground.data }, { on := 7, ground := Ground.guard }], guard := some (7, true) }) (v := ?vz12b9) rfl (by kernel_rfl) (by kernel_rfl) (by kernel_rfl) (fun _ _ _ h => h) (Or.inl ⟨by rfl, ?yz12b9⟩) (by assumption) ?tz12b9
                  case yz12b9 => (intro wz hSw; clear hSw; go_simp; try with_reducible rfl)
                  simp only [Act.put, List.setIfInBounds_toArray, List.set_cons_zero, List.set_cons_succ]
                  refine wpAnyH_take (i := 10) (oi := { dst := some 98, op := Op.load 23 (Operand.tmp 97), type := 23, pos := "law.go:166", after := #[{ on := 9, ground := Ground.data }, { on := 7, ground := Ground.guard }], guard := some (7, true) }) (v := factV M1) rfl (by kernel_rfl) (by kernel_rfl) (by kernel_rfl) (fun _ _ _ h => h) (Or.inl ⟨by rfl, fun wz hSw => sem_load_mid _ rfl (bl) 19 rfl (c3 M0 M1 M2) M1 (hSw.2.2.2.2.1) rfl⟩) (by assumption) ?tz12b10
                  simp only [Act.put, List.setIfInBounds_toArray, List.set_cons_zero, List.set_cons_succ]
                  refine wpAnyH_take (i := 11) (oi := { dst := some 99, op := Op.move (Operand.tmp 14), type := 3, pos := "law.go:166", after := #[{ on := 7, ground := Ground.guard }], guard := some (7, true) }) (v := ?vz12b11) rfl (by kernel_rfl) (by kernel_rfl) (by kernel_rfl) (fun _ _ _ h => h) (Or.inl ⟨by rfl, ?yz12b11⟩) (by assumption) ?tz12b11
                  case yz12b11 => (intro wz hSw; clear hSw; go_simp; try with_reducible rfl)
                  simp only [Act.put, List.setIfInBounds_toArray, List.set_cons_zero, List.set_cons_succ]
                  refine wpAnyH_take (i := 12) (oi := { dst := some 100, op := Op.indexAddr 41 (Operand.tmp 10) (Operand.tmp 99), type := 0, pos := "law.go:166", after := #[{ on := 11, ground := Ground.data }, { on := 7, ground := Ground.guard }], guard := some (7, true) }) (v := ?vz12b12) rfl (by kernel_rfl) (by kernel_rfl) (by kernel_rfl) (fun _ _ _ h => h) (Or.inl ⟨by rfl, ?yz12b12⟩) (by assumption) ?tz12b12
                  case yz12b12 => (intro wz hSw; clear hSw; go_simp; try with_reducible rfl)
                  simp only [Act.put, List.setIfInBounds_toArray, List.set_cons_zero, List.set_cons_succ]
                  refine wpAnyH_take (i := 13) (oi := { dst := some 101, op := Op.load 23 (Operand.tmp 100), type := 23, pos := "law.go:166", after := #[{ on := 12, ground := Ground.data }, { on := 7, ground := Ground.guard }], guard := some (7, true) }) (v := factV M2) rfl (by kernel_rfl) (by kernel_rfl) (by kernel_rfl) (fun _ _ _ h => h) (Or.inl ⟨by rfl, fun wz hSw => sem_load_mid _ rfl (bl) 38 rfl (c3 M0 M1 M2) M2 (hSw.2.2.2.2.1) rfl⟩) (by assumption) ?tz12b13
                  simp only [Act.put, List.setIfInBounds_toArray, List.set_cons_zero, List.set_cons_succ]
                  refine wpAnyH_ready (rs := [14]) (by kernel_rfl) (by simp) ?_
                  refine AllReadyH.cons (o := { dst := some 102, op := Op.call { callee := Callee.value (Operand.func 20), args := #[Operand.tmp 98, Operand.tmp 101], argTypes := #[23, 23] }, type := 4, pos := "law.go:166", after := #[{ on := 10, ground := Ground.data }, { on := 13, ground := Ground.data }, { on := 7, ground := Ground.chain }, { on := 7, ground := Ground.guard }], guard := some (7, true) }) rfl (fun K hK => ?_) AllReadyH.nil
                  have HH := Lib.hid hHeld
                  go_simp
                  refine (HP12.out _ HH.out.2.2.2.2.2.2.1).mono ?_; rintro e wz ⟨rfl, gz⟩
                  have hz := HH.out.below gz
                  clear gz HH
                  refine hK.out _ _ (hz) (fun hHeld' => ?_)
                  clear hK K hHeld
                  have hHeld := hHeld'; clear hHeld'
                  try simp only [Act.put, List.setIfInBounds_toArray, List.set_cons_zero, List.set_cons_succ]
                  refine wpAnyH_take (i := 15) (oi := { dst := some 103, op := Op.unOp UnOp.not 4 (Operand.tmp 102), type := 4, pos := "law.go:166", after := #[{ on := 14, ground := Ground.data }, { on := 7, ground := Ground.guard }], guard := some (7, true) }) (v := ?vz12b15) rfl (by kernel_rfl) (by kernel_rfl) (by kernel_rfl) (fun _ _ _ h => h) (Or.inl ⟨by rfl, ?yz12b15⟩) (by assumption) ?tz12b15
                  case yz12b15 => (intro wz hSw; clear hSw; go_simp; try with_reducible rfl)
                  simp only [Act.put, List.setIfInBounds_toArray, List.set_cons_zero, List.set_cons_succ]
                  refine wpAnyH_take (i := 16) (oi := { dst := some 104, op := Op.pick (Operand.tmp 95) (Operand.tmp 103) (Operand.const (Value.bool false)), type := 4, pos := "law.go:166", after := #[{ on := 7, ground := Ground.data }, { on := 15, ground := Ground.data }], guard := none }) (v := ?vz12b16) rfl (by kernel_rfl) (by kernel_rfl) (by kernel_rfl) (fun _ _ _ h => h) (Or.inl ⟨by rfl, ?yz12b16⟩) (by assumption) ?tz12b16
                  case yz12b16 => (intro wz hSw; clear hSw; go_simp; try with_reducible rfl)
                  simp only [Act.put, List.setIfInBounds_toArray, List.set_cons_zero, List.set_cons_succ]
                  refine wpAnyH_done (by kernel_rfl) ?_ _
                  have H2 := Lib.hid hHeld
                  clear hHeld
                  go_wp2_with fail
                  go_roundw
                  case rel => exact ⟨H2, .inr (.inr (.inr rfl))⟩
                  case measure => decide
              · go_wp2_with fail
                go_ret
                exact ⟨rfl, H.out.2.2.2.2.2.2.2.2⟩
          · have HC := Lib.hid H.out
            clear H
            go_wp2_with fail
            go_loopw [14] (fun i wr => Hid (ChS W bl G (.cells #[.int .i64 v0, .int .i64 v1, .int .i64 v2] 40) (.cells #[.int .i64 d0, .int .i64 d1, .int .i64 d2] 40) (.cells #[.int .i64 x0, .int .i64 x1, .int .i64 x2] 40) 41 (c3 M0 M1 M2) wr) ∧ (i = .int .i64 0 ∨ i = .int .i64 1 ∨ i = .int .i64 2 ∨ i = .int .i64 3)) (fun i _ => 3 - (intOf i).toNat)
            case atStart => exact ⟨HC, .inl rfl⟩
            case round =>
              obtain ⟨H, hrel⟩ := hrel
              rcases hrel with rfl | rfl | rfl | rfl
              · rcases ht.1 with he | ⟨he, hq⟩
                · have hEq := fun V => run_factNe M0 M2 V
                  rw [show (!decide (M0 = M2)) = false by rw [he]; simp] at hEq
                  have hGu := run_factGuard
                  clear he
                  go_wp2_with fail
                  refine wp_region_held_drew (S := (fun v => ChS W bl G (.cells #[.int .i64 v0, .int .i64 v1, .int .i64 v2] 40) (.cells #[.int .i64 d0, .int .i64 d1, .int .i64 d2] 40) (.cells #[.int .i64 x0, .int .i64 x1, .int .i64 x2] 40) 41 (c3 M0 M1 M2) v)) (by kernel_rfl) (H.out.drew) (fun hHeld => ?_)
                  generalize wr.drew = wd at *
                  refine wpAnyH_take (i := 0) (oi := { dst := some 88, op := Op.move (Operand.tmp 14), type := 3, pos := "law.go:166", after := #[], guard := none }) (v := ?vz20a0) rfl (by kernel_rfl) (by kernel_rfl) (by kernel_rfl) (fun _ _ _ h => h) (Or.inl ⟨by rfl, ?yz20a0⟩) (by assumption) ?tz20a0
                  case yz20a0 => (intro wz hSw; clear hSw; go_simp; try with_reducible rfl)
                  simp only [Act.put, List.setIfInBounds_toArray, List.set_cons_zero, List.set_cons_succ]
                  refine wpAnyH_take (i := 1) (oi := { dst := some 89, op := Op.indexAddr 41 (Operand.tmp 10) (Operand.tmp 88), type := 0, pos := "law.go:166", after := #[{ on := 0, ground := Ground.data }], guard := none }) (v := ?vz20a1) rfl (by kernel_rfl) (by kernel_rfl) (by kernel_rfl) (fun _ _ _ h => h) (Or.inl ⟨by rfl, ?yz20a1⟩) (by assumption) ?tz20a1
                  case yz20a1 => (intro wz hSw; clear hSw; go_simp; try with_reducible rfl)
                  simp only [Act.put, List.setIfInBounds_toArray, List.set_cons_zero, List.set_cons_succ]
                  refine wpAnyH_take (i := 2) (oi := { dst := some 90, op := Op.load 23 (Operand.tmp 89), type := 23, pos := "law.go:166", after := #[{ on := 1, ground := Ground.data }], guard := none }) (v := factV M0) rfl (by kernel_rfl) (by kernel_rfl) (by kernel_rfl) (fun _ _ _ h => h) (Or.inl ⟨by rfl, fun wz hSw => sem_load_mid _ rfl (bl) 0 rfl (c3 M0 M1 M2) M0 (hSw.2.2.2.2.1) rfl⟩) (by assumption) ?tz20a2
                  simp only [Act.put, List.setIfInBounds_toArray, List.set_cons_zero, List.set_cons_succ]
                  refine wpAnyH_take (i := 3) (oi := { dst := some 91, op := Op.move (Operand.tmp 12), type := 3, pos := "law.go:166", after := #[], guard := none }) (v := ?vz20a3) rfl (by kernel_rfl) (by kernel_rfl) (by kernel_rfl) (fun _ _ _ h => h) (Or.inl ⟨by rfl, ?yz20a3⟩) (by assumption) ?tz20a3
                  case yz20a3 => (intro wz hSw; clear hSw; go_simp; try with_reducible rfl)
                  simp only [Act.put, List.setIfInBounds_toArray, List.set_cons_zero, List.set_cons_succ]
                  refine wpAnyH_take (i := 4) (oi := { dst := some 92, op := Op.indexAddr 41 (Operand.tmp 10) (Operand.tmp 91), type := 0, pos := "law.go:166", after := #[{ on := 3, ground := Ground.data }], guard := none }) (v := ?vz20a4) rfl (by kernel_rfl) (by kernel_rfl) (by kernel_rfl) (fun _ _ _ h => h) (Or.inl ⟨by rfl, ?yz20a4⟩) (by assumption) ?tz20a4
                  case yz20a4 => (intro wz hSw; clear hSw; go_simp; try with_reducible rfl)
                  simp only [Act.put, List.setIfInBounds_toArray, List.set_cons_zero, List.set_cons_succ]
                  refine wpAnyH_take (i := 5) (oi := { dst := some 93, op := Op.load 23 (Operand.tmp 92), type := 23, pos := "law.go:166", after := #[{ on := 4, ground := Ground.data }], guard := none }) (v := factV M2) rfl (by kernel_rfl) (by kernel_rfl) (by kernel_rfl) (fun _ _ _ h => h) (Or.inl ⟨by rfl, fun wz hSw => sem_load_mid _ rfl (bl) 38 rfl (c3 M0 M1 M2) M2 (hSw.2.2.2.2.1) rfl⟩) (by assumption) ?tz20a5
                  simp only [Act.put, List.setIfInBounds_toArray, List.set_cons_zero, List.set_cons_succ]
                  refine wpAnyH_take (i := 6) (oi := { dst := some 94, op := Op.binOp BinOp.neq 23 (Operand.tmp 90) (Operand.tmp 93) 23, type := 4, pos := "law.go:166", after := #[{ on := 2, ground := Ground.data }, { on := 5, ground := Ground.data }], guard := none }) (v := ?vz20a6) rfl (by kernel_rfl) (by kernel_rfl) (by kernel_rfl) (fun _ _ _ h => h) (Or.inl ⟨by rfl, ?yz20a6⟩) (by assumption) ?tz20a6
                  case yz20a6 => (intro wz hSw; clear hSw; go_simp; try with_reducible rfl)
                  simp only [Act.put, List.setIfInBounds_toArray, List.set_cons_zero, List.set_cons_succ]
                  refine wpAnyH_take (i := 7) (oi := { dst := some 95, op := Op.move (Operand.tmp 94), type := 4, pos := "law.go:166", after := #[{ on := 6, ground := Ground.data }], guard := none }) (v := ?vz20a7) rfl (by kernel_rfl) (by kernel_rfl) (by kernel_rfl) (fun _ _ _ h => h) (Or.inl ⟨by rfl, ?yz20a7⟩) (by assumption) ?tz20a7
                  case yz20a7 => (intro wz hSw; clear hSw; go_simp; try with_reducible rfl)
                  simp only [Act.put, List.setIfInBounds_toArray, List.set_cons_zero, List.set_cons_succ]
                  refine wpAnyH_take (i := 8) (oi := { dst := some 96, op := Op.move (Operand.tmp 12), type := 3, pos := "law.go:166", after := #[{ on := 7, ground := Ground.guard }], guard := some (7, true) }) (v := undef) rfl (by kernel_rfl) (by kernel_rfl) (by kernel_rfl) (fun _ _ _ h => h) (Or.inr ⟨by rfl, rfl⟩) (by assumption) ?_
                  simp only [Act.put, List.setIfInBounds_toArray, List.set_cons_zero, List.set_cons_succ]
                  refine wpAnyH_take (i := 9) (oi := { dst := some 97, op := Op.indexAddr 41 (Operand.tmp 10) (Operand.tmp 96), type := 0, pos := "law.go:166", after := #[{ on := 8, ground := Ground.data }, { on := 7, ground := Ground.guard }], guard := some (7, true) }) (v := undef) rfl (by kernel_rfl) (by kernel_rfl) (by kernel_rfl) (fun _ _ _ h => h) (Or.inr ⟨by rfl, rfl⟩) (by assumption) ?_
                  simp only [Act.put, List.setIfInBounds_toArray, List.set_cons_zero, List.set_cons_succ]
                  refine wpAnyH_take (i := 10) (oi := { dst := some 98, op := Op.load 23 (Operand.tmp 97), type := 23, pos := "law.go:166", after := #[{ on := 9, ground := Ground.data }, { on := 7, ground := Ground.guard }], guard := some (7, true) }) (v := undef) rfl (by kernel_rfl) (by kernel_rfl) (by kernel_rfl) (fun _ _ _ h => h) (Or.inr ⟨by rfl, rfl⟩) (by assumption) ?_
                  simp only [Act.put, List.setIfInBounds_toArray, List.set_cons_zero, List.set_cons_succ]
                  refine wpAnyH_take (i := 11) (oi := { dst := some 99, op := Op.move (Operand.tmp 14), type := 3, pos := "law.go:166", after := #[{ on := 7, ground := Ground.guard }], guard := some (7, true) }) (v := undef) rfl (by kernel_rfl) (by kernel_rfl) (by kernel_rfl) (fun _ _ _ h => h) (Or.inr ⟨by rfl, rfl⟩) (by assumption) ?_
                  simp only [Act.put, List.setIfInBounds_toArray, List.set_cons_zero, List.set_cons_succ]
                  refine wpAnyH_take (i := 12) (oi := { dst := some 100, op := Op.indexAddr 41 (Operand.tmp 10) (Operand.tmp 99), type := 0, pos := "law.go:166", after := #[{ on := 11, ground := Ground.data }, { on := 7, ground := Ground.guard }], guard := some (7, true) }) (v := undef) rfl (by kernel_rfl) (by kernel_rfl) (by kernel_rfl) (fun _ _ _ h => h) (Or.inr ⟨by rfl, rfl⟩) (by assumption) ?_
                  simp only [Act.put, List.setIfInBounds_toArray, List.set_cons_zero, List.set_cons_succ]
                  refine wpAnyH_take (i := 13) (oi := { dst := some 101, op := Op.load 23 (Operand.tmp 100), type := 23, pos := "law.go:166", after := #[{ on := 12, ground := Ground.data }, { on := 7, ground := Ground.guard }], guard := some (7, true) }) (v := undef) rfl (by kernel_rfl) (by kernel_rfl) (by kernel_rfl) (fun _ _ _ h => h) (Or.inr ⟨by rfl, rfl⟩) (by assumption) ?_
                  simp only [Act.put, List.setIfInBounds_toArray, List.set_cons_zero, List.set_cons_succ]
                  refine wpAnyH_take (i := 14) (oi := { dst := some 102, op := Op.call { callee := Callee.value (Operand.func 20), args := #[Operand.tmp 98, Operand.tmp 101], argTypes := #[23, 23] }, type := 4, pos := "law.go:166", after := #[{ on := 10, ground := Ground.data }, { on := 13, ground := Ground.data }, { on := 7, ground := Ground.chain }, { on := 7, ground := Ground.guard }], guard := some (7, true) }) (v := undef) rfl (by kernel_rfl) (by kernel_rfl) (by kernel_rfl) (fun _ _ _ h => h) (Or.inr ⟨by rfl, rfl⟩) (by assumption) ?_
                  simp only [Act.put, List.setIfInBounds_toArray, List.set_cons_zero, List.set_cons_succ]
                  refine wpAnyH_take (i := 15) (oi := { dst := some 103, op := Op.unOp UnOp.not 4 (Operand.tmp 102), type := 4, pos := "law.go:166", after := #[{ on := 14, ground := Ground.data }, { on := 7, ground := Ground.guard }], guard := some (7, true) }) (v := undef) rfl (by kernel_rfl) (by kernel_rfl) (by kernel_rfl) (fun _ _ _ h => h) (Or.inr ⟨by rfl, rfl⟩) (by assumption) ?_
                  simp only [Act.put, List.setIfInBounds_toArray, List.set_cons_zero, List.set_cons_succ]
                  refine wpAnyH_take (i := 16) (oi := { dst := some 104, op := Op.pick (Operand.tmp 95) (Operand.tmp 103) (Operand.const (Value.bool false)), type := 4, pos := "law.go:166", after := #[{ on := 7, ground := Ground.data }, { on := 15, ground := Ground.data }], guard := none }) (v := ?vz20a16) rfl (by kernel_rfl) (by kernel_rfl) (by kernel_rfl) (fun _ _ _ h => h) (Or.inl ⟨by rfl, ?yz20a16⟩) (by assumption) ?tz20a16
                  case yz20a16 => (intro wz hSw; clear hSw; go_simp; try with_reducible rfl)
                  simp only [Act.put, List.setIfInBounds_toArray, List.set_cons_zero, List.set_cons_succ]
                  refine wpAnyH_done (by kernel_rfl) ?_ _
                  have H2 := Lib.hid hHeld
                  clear hHeld
                  go_wp2_with fail
                  go_roundw
                  case rel => exact ⟨H2, .inr (.inl rfl)⟩
                  case measure => decide
                · have hEq := fun V => run_factNe M0 M2 V
                  rw [show (!decide (M0 = M2)) = true by rw [decide_eq_false (fun e => he e.symm)]; rfl] at hEq
                  rw [hq] at HP20
                  have hGu := run_factGuard
                  clear he hq
                  go_wp2_with fail
                  refine wp_region_held_drew (S := (fun v => ChS W bl G (.cells #[.int .i64 v0, .int .i64 v1, .int .i64 v2] 40) (.cells #[.int .i64 d0, .int .i64 d1, .int .i64 d2] 40) (.cells #[.int .i64 x0, .int .i64 x1, .int .i64 x2] 40) 41 (c3 M0 M1 M2) v)) (by kernel_rfl) (H.out.drew) (fun hHeld => ?_)
                  generalize wr.drew = wd at *
                  refine wpAnyH_take (i := 0) (oi := { dst := some 88, op := Op.move (Operand.tmp 14), type := 3, pos := "law.go:166", after := #[], guard := none }) (v := ?vz20b0) rfl (by kernel_rfl) (by kernel_rfl) (by kernel_rfl) (fun _ _ _ h => h) (Or.inl ⟨by rfl, ?yz20b0⟩) (by assumption) ?tz20b0
                  case yz20b0 => (intro wz hSw; clear hSw; go_simp; try with_reducible rfl)
                  simp only [Act.put, List.setIfInBounds_toArray, List.set_cons_zero, List.set_cons_succ]
                  refine wpAnyH_take (i := 1) (oi := { dst := some 89, op := Op.indexAddr 41 (Operand.tmp 10) (Operand.tmp 88), type := 0, pos := "law.go:166", after := #[{ on := 0, ground := Ground.data }], guard := none }) (v := ?vz20b1) rfl (by kernel_rfl) (by kernel_rfl) (by kernel_rfl) (fun _ _ _ h => h) (Or.inl ⟨by rfl, ?yz20b1⟩) (by assumption) ?tz20b1
                  case yz20b1 => (intro wz hSw; clear hSw; go_simp; try with_reducible rfl)
                  simp only [Act.put, List.setIfInBounds_toArray, List.set_cons_zero, List.set_cons_succ]
                  refine wpAnyH_take (i := 2) (oi := { dst := some 90, op := Op.load 23 (Operand.tmp 89), type := 23, pos := "law.go:166", after := #[{ on := 1, ground := Ground.data }], guard := none }) (v := factV M0) rfl (by kernel_rfl) (by kernel_rfl) (by kernel_rfl) (fun _ _ _ h => h) (Or.inl ⟨by rfl, fun wz hSw => sem_load_mid _ rfl (bl) 0 rfl (c3 M0 M1 M2) M0 (hSw.2.2.2.2.1) rfl⟩) (by assumption) ?tz20b2
                  simp only [Act.put, List.setIfInBounds_toArray, List.set_cons_zero, List.set_cons_succ]
                  refine wpAnyH_take (i := 3) (oi := { dst := some 91, op := Op.move (Operand.tmp 12), type := 3, pos := "law.go:166", after := #[], guard := none }) (v := ?vz20b3) rfl (by kernel_rfl) (by kernel_rfl) (by kernel_rfl) (fun _ _ _ h => h) (Or.inl ⟨by rfl, ?yz20b3⟩) (by assumption) ?tz20b3
                  case yz20b3 => (intro wz hSw; clear hSw; go_simp; try with_reducible rfl)
                  simp only [Act.put, List.setIfInBounds_toArray, List.set_cons_zero, List.set_cons_succ]
                  refine wpAnyH_take (i := 4) (oi := { dst := some 92, op := Op.indexAddr 41 (Operand.tmp 10) (Operand.tmp 91), type := 0, pos := "law.go:166", after := #[{ on := 3, ground := Ground.data }], guard := none }) (v := ?vz20b4) rfl (by kernel_rfl) (by kernel_rfl) (by kernel_rfl) (fun _ _ _ h => h) (Or.inl ⟨by rfl, ?yz20b4⟩) (by assumption) ?tz20b4
                  case yz20b4 => (intro wz hSw; clear hSw; go_simp; try with_reducible rfl)
                  simp only [Act.put, List.setIfInBounds_toArray, List.set_cons_zero, List.set_cons_succ]
                  refine wpAnyH_take (i := 5) (oi := { dst := some 93, op := Op.load 23 (Operand.tmp 92), type := 23, pos := "law.go:166", after := #[{ on := 4, ground := Ground.data }], guard := none }) (v := factV M2) rfl (by kernel_rfl) (by kernel_rfl) (by kernel_rfl) (fun _ _ _ h => h) (Or.inl ⟨by rfl, fun wz hSw => sem_load_mid _ rfl (bl) 38 rfl (c3 M0 M1 M2) M2 (hSw.2.2.2.2.1) rfl⟩) (by assumption) ?tz20b5
                  simp only [Act.put, List.setIfInBounds_toArray, List.set_cons_zero, List.set_cons_succ]
                  refine wpAnyH_take (i := 6) (oi := { dst := some 94, op := Op.binOp BinOp.neq 23 (Operand.tmp 90) (Operand.tmp 93) 23, type := 4, pos := "law.go:166", after := #[{ on := 2, ground := Ground.data }, { on := 5, ground := Ground.data }], guard := none }) (v := ?vz20b6) rfl (by kernel_rfl) (by kernel_rfl) (by kernel_rfl) (fun _ _ _ h => h) (Or.inl ⟨by rfl, ?yz20b6⟩) (by assumption) ?tz20b6
                  case yz20b6 => (intro wz hSw; clear hSw; go_simp; try with_reducible rfl)
                  simp only [Act.put, List.setIfInBounds_toArray, List.set_cons_zero, List.set_cons_succ]
                  refine wpAnyH_take (i := 7) (oi := { dst := some 95, op := Op.move (Operand.tmp 94), type := 4, pos := "law.go:166", after := #[{ on := 6, ground := Ground.data }], guard := none }) (v := ?vz20b7) rfl (by kernel_rfl) (by kernel_rfl) (by kernel_rfl) (fun _ _ _ h => h) (Or.inl ⟨by rfl, ?yz20b7⟩) (by assumption) ?tz20b7
                  case yz20b7 => (intro wz hSw; clear hSw; go_simp; try with_reducible rfl)
                  simp only [Act.put, List.setIfInBounds_toArray, List.set_cons_zero, List.set_cons_succ]
                  refine wpAnyH_take (i := 8) (oi := { dst := some 96, op := Op.move (Operand.tmp 12), type := 3, pos := "law.go:166", after := #[{ on := 7, ground := Ground.guard }], guard := some (7, true) }) (v := ?vz20b8) rfl (by kernel_rfl) (by kernel_rfl) (by kernel_rfl) (fun _ _ _ h => h) (Or.inl ⟨by rfl, ?yz20b8⟩) (by assumption) ?tz20b8
                  case yz20b8 => (intro wz hSw; clear hSw; go_simp; try with_reducible rfl)
                  simp only [Act.put, List.setIfInBounds_toArray, List.set_cons_zero, List.set_cons_succ]
                  refine wpAnyH_take (i := 9) (oi := { dst := some 97, op := Op.indexAddr 41 (Operand.tmp 10) (Operand.tmp 96), type := 0, pos := "law.go:166", after := #[{ on := 8, ground := Ground.data }, { on := 7, ground := Ground.guard }], guard := some (7, true) }) (v := ?vz20b9) rfl (by kernel_rfl) (by kernel_rfl) (by kernel_rfl) (fun _ _ _ h => h) (Or.inl ⟨by rfl, ?yz20b9⟩) (by assumption) ?tz20b9
                  case yz20b9 => (intro wz hSw; clear hSw; go_simp; try with_reducible rfl)
                  simp only [Act.put, List.setIfInBounds_toArray, List.set_cons_zero, List.set_cons_succ]
                  refine wpAnyH_take (i := 10) (oi := { dst := some 98, op := Op.load 23 (Operand.tmp 97), type := 23, pos := "law.go:166", after := #[{ on := 9, ground := Ground.data }, { on := 7, ground := Ground.guard }], guard := some (7, true) }) (v := factV M2) rfl (by kernel_rfl) (by kernel_rfl) (by kernel_rfl) (fun _ _ _ h => h) (Or.inl ⟨by rfl, fun wz hSw => sem_load_mid _ rfl (bl) 38 rfl (c3 M0 M1 M2) M2 (hSw.2.2.2.2.1) rfl⟩) (by assumption) ?tz20b10
                  simp only [Act.put, List.setIfInBounds_toArray, List.set_cons_zero, List.set_cons_succ]
                  refine wpAnyH_take (i := 11) (oi := { dst := some 99, op := Op.move (Operand.tmp 14), type := 3, pos := "law.go:166", after := #[{ on := 7, ground := Ground.guard }], guard := some (7, true) }) (v := ?vz20b11) rfl (by kernel_rfl) (by kernel_rfl) (by kernel_rfl) (fun _ _ _ h => h) (Or.inl ⟨by rfl, ?yz20b11⟩) (by assumption) ?tz20b11
                  case yz20b11 => (intro wz hSw; clear hSw; go_simp; try with_reducible rfl)
                  simp only [Act.put, List.setIfInBounds_toArray, List.set_cons_zero, List.set_cons_succ]
                  refine wpAnyH_take (i := 12) (oi := { dst := some 100, op := Op.indexAddr 41 (Operand.tmp 10) (Operand.tmp 99), type := 0, pos := "law.go:166", after := #[{ on := 11, ground := Ground.data }, { on := 7, ground := Ground.guard }], guard := some (7, true) }) (v := ?vz20b12) rfl (by kernel_rfl) (by kernel_rfl) (by kernel_rfl) (fun _ _ _ h => h) (Or.inl ⟨by rfl, ?yz20b12⟩) (by assumption) ?tz20b12
                  case yz20b12 => (intro wz hSw; clear hSw; go_simp; try with_reducible rfl)
                  simp only [Act.put, List.setIfInBounds_toArray, List.set_cons_zero, List.set_cons_succ]
                  refine wpAnyH_take (i := 13) (oi := { dst := some 101, op := Op.load 23 (Operand.tmp 100), type := 23, pos := "law.go:166", after := #[{ on := 12, ground := Ground.data }, { on := 7, ground := Ground.guard }], guard := some (7, true) }) (v := factV M0) rfl (by kernel_rfl) (by kernel_rfl) (by kernel_rfl) (fun _ _ _ h => h) (Or.inl ⟨by rfl, fun wz hSw => sem_load_mid _ rfl (bl) 0 rfl (c3 M0 M1 M2) M0 (hSw.2.2.2.2.1) rfl⟩) (by assumption) ?tz20b13
                  simp only [Act.put, List.setIfInBounds_toArray, List.set_cons_zero, List.set_cons_succ]
                  refine wpAnyH_ready (rs := [14]) (by kernel_rfl) (by simp) ?_
                  refine AllReadyH.cons (o := { dst := some 102, op := Op.call { callee := Callee.value (Operand.func 20), args := #[Operand.tmp 98, Operand.tmp 101], argTypes := #[23, 23] }, type := 4, pos := "law.go:166", after := #[{ on := 10, ground := Ground.data }, { on := 13, ground := Ground.data }, { on := 7, ground := Ground.chain }, { on := 7, ground := Ground.guard }], guard := some (7, true) }) rfl (fun K hK => ?_) AllReadyH.nil
                  have HH := Lib.hid hHeld
                  go_simp
                  refine (HP20.out _ HH.out.2.2.2.2.2.2.1).mono ?_; rintro e wz ⟨rfl, gz⟩
                  have hz := HH.out.below gz
                  clear gz HH
                  refine hK.out _ _ (hz) (fun hHeld' => ?_)
                  clear hK K hHeld
                  have hHeld := hHeld'; clear hHeld'
                  try simp only [Act.put, List.setIfInBounds_toArray, List.set_cons_zero, List.set_cons_succ]
                  refine wpAnyH_take (i := 15) (oi := { dst := some 103, op := Op.unOp UnOp.not 4 (Operand.tmp 102), type := 4, pos := "law.go:166", after := #[{ on := 14, ground := Ground.data }, { on := 7, ground := Ground.guard }], guard := some (7, true) }) (v := ?vz20b15) rfl (by kernel_rfl) (by kernel_rfl) (by kernel_rfl) (fun _ _ _ h => h) (Or.inl ⟨by rfl, ?yz20b15⟩) (by assumption) ?tz20b15
                  case yz20b15 => (intro wz hSw; clear hSw; go_simp; try with_reducible rfl)
                  simp only [Act.put, List.setIfInBounds_toArray, List.set_cons_zero, List.set_cons_succ]
                  refine wpAnyH_take (i := 16) (oi := { dst := some 104, op := Op.pick (Operand.tmp 95) (Operand.tmp 103) (Operand.const (Value.bool false)), type := 4, pos := "law.go:166", after := #[{ on := 7, ground := Ground.data }, { on := 15, ground := Ground.data }], guard := none }) (v := ?vz20b16) rfl (by kernel_rfl) (by kernel_rfl) (by kernel_rfl) (fun _ _ _ h => h) (Or.inl ⟨by rfl, ?yz20b16⟩) (by assumption) ?tz20b16
                  case yz20b16 => (intro wz hSw; clear hSw; go_simp; try with_reducible rfl)
                  simp only [Act.put, List.setIfInBounds_toArray, List.set_cons_zero, List.set_cons_succ]
                  refine wpAnyH_done (by kernel_rfl) ?_ _
                  have H2 := Lib.hid hHeld
                  clear hHeld
                  go_wp2_with fail
                  go_roundw
                  case rel => exact ⟨H2, .inr (.inl rfl)⟩
                  case measure => decide
              · rcases ht.2.1 with he | ⟨he, hq⟩
                · have hEq := fun V => run_factNe M1 M2 V
                  rw [show (!decide (M1 = M2)) = false by rw [he]; simp] at hEq
                  have hGu := run_factGuard
                  clear he
                  go_wp2_with fail
                  refine wp_region_held_drew (S := (fun v => ChS W bl G (.cells #[.int .i64 v0, .int .i64 v1, .int .i64 v2] 40) (.cells #[.int .i64 d0, .int .i64 d1, .int .i64 d2] 40) (.cells #[.int .i64 x0, .int .i64 x1, .int .i64 x2] 40) 41 (c3 M0 M1 M2) v)) (by kernel_rfl) (H.out.drew) (fun hHeld => ?_)
                  generalize wr.drew = wd at *
                  refine wpAnyH_take (i := 0) (oi := { dst := some 88, op := Op.move (Operand.tmp 14), type := 3, pos := "law.go:166", after := #[], guard := none }) (v := ?vz21a0) rfl (by kernel_rfl) (by kernel_rfl) (by kernel_rfl) (fun _ _ _ h => h) (Or.inl ⟨by rfl, ?yz21a0⟩) (by assumption) ?tz21a0
                  case yz21a0 => (intro wz hSw; clear hSw; go_simp; try with_reducible rfl)
                  simp only [Act.put, List.setIfInBounds_toArray, List.set_cons_zero, List.set_cons_succ]
                  refine wpAnyH_take (i := 1) (oi := { dst := some 89, op := Op.indexAddr 41 (Operand.tmp 10) (Operand.tmp 88), type := 0, pos := "law.go:166", after := #[{ on := 0, ground := Ground.data }], guard := none }) (v := ?vz21a1) rfl (by kernel_rfl) (by kernel_rfl) (by kernel_rfl) (fun _ _ _ h => h) (Or.inl ⟨by rfl, ?yz21a1⟩) (by assumption) ?tz21a1
                  case yz21a1 => (intro wz hSw; clear hSw; go_simp; try with_reducible rfl)
                  simp only [Act.put, List.setIfInBounds_toArray, List.set_cons_zero, List.set_cons_succ]
                  refine wpAnyH_take (i := 2) (oi := { dst := some 90, op := Op.load 23 (Operand.tmp 89), type := 23, pos := "law.go:166", after := #[{ on := 1, ground := Ground.data }], guard := none }) (v := factV M1) rfl (by kernel_rfl) (by kernel_rfl) (by kernel_rfl) (fun _ _ _ h => h) (Or.inl ⟨by rfl, fun wz hSw => sem_load_mid _ rfl (bl) 19 rfl (c3 M0 M1 M2) M1 (hSw.2.2.2.2.1) rfl⟩) (by assumption) ?tz21a2
                  simp only [Act.put, List.setIfInBounds_toArray, List.set_cons_zero, List.set_cons_succ]
                  refine wpAnyH_take (i := 3) (oi := { dst := some 91, op := Op.move (Operand.tmp 12), type := 3, pos := "law.go:166", after := #[], guard := none }) (v := ?vz21a3) rfl (by kernel_rfl) (by kernel_rfl) (by kernel_rfl) (fun _ _ _ h => h) (Or.inl ⟨by rfl, ?yz21a3⟩) (by assumption) ?tz21a3
                  case yz21a3 => (intro wz hSw; clear hSw; go_simp; try with_reducible rfl)
                  simp only [Act.put, List.setIfInBounds_toArray, List.set_cons_zero, List.set_cons_succ]
                  refine wpAnyH_take (i := 4) (oi := { dst := some 92, op := Op.indexAddr 41 (Operand.tmp 10) (Operand.tmp 91), type := 0, pos := "law.go:166", after := #[{ on := 3, ground := Ground.data }], guard := none }) (v := ?vz21a4) rfl (by kernel_rfl) (by kernel_rfl) (by kernel_rfl) (fun _ _ _ h => h) (Or.inl ⟨by rfl, ?yz21a4⟩) (by assumption) ?tz21a4
                  case yz21a4 => (intro wz hSw; clear hSw; go_simp; try with_reducible rfl)
                  simp only [Act.put, List.setIfInBounds_toArray, List.set_cons_zero, List.set_cons_succ]
                  refine wpAnyH_take (i := 5) (oi := { dst := some 93, op := Op.load 23 (Operand.tmp 92), type := 23, pos := "law.go:166", after := #[{ on := 4, ground := Ground.data }], guard := none }) (v := factV M2) rfl (by kernel_rfl) (by kernel_rfl) (by kernel_rfl) (fun _ _ _ h => h) (Or.inl ⟨by rfl, fun wz hSw => sem_load_mid _ rfl (bl) 38 rfl (c3 M0 M1 M2) M2 (hSw.2.2.2.2.1) rfl⟩) (by assumption) ?tz21a5
                  simp only [Act.put, List.setIfInBounds_toArray, List.set_cons_zero, List.set_cons_succ]
                  refine wpAnyH_take (i := 6) (oi := { dst := some 94, op := Op.binOp BinOp.neq 23 (Operand.tmp 90) (Operand.tmp 93) 23, type := 4, pos := "law.go:166", after := #[{ on := 2, ground := Ground.data }, { on := 5, ground := Ground.data }], guard := none }) (v := ?vz21a6) rfl (by kernel_rfl) (by kernel_rfl) (by kernel_rfl) (fun _ _ _ h => h) (Or.inl ⟨by rfl, ?yz21a6⟩) (by assumption) ?tz21a6
                  case yz21a6 => (intro wz hSw; clear hSw; go_simp; try with_reducible rfl)
                  simp only [Act.put, List.setIfInBounds_toArray, List.set_cons_zero, List.set_cons_succ]
                  refine wpAnyH_take (i := 7) (oi := { dst := some 95, op := Op.move (Operand.tmp 94), type := 4, pos := "law.go:166", after := #[{ on := 6, ground := Ground.data }], guard := none }) (v := ?vz21a7) rfl (by kernel_rfl) (by kernel_rfl) (by kernel_rfl) (fun _ _ _ h => h) (Or.inl ⟨by rfl, ?yz21a7⟩) (by assumption) ?tz21a7
                  case yz21a7 => (intro wz hSw; clear hSw; go_simp; try with_reducible rfl)
                  simp only [Act.put, List.setIfInBounds_toArray, List.set_cons_zero, List.set_cons_succ]
                  refine wpAnyH_take (i := 8) (oi := { dst := some 96, op := Op.move (Operand.tmp 12), type := 3, pos := "law.go:166", after := #[{ on := 7, ground := Ground.guard }], guard := some (7, true) }) (v := undef) rfl (by kernel_rfl) (by kernel_rfl) (by kernel_rfl) (fun _ _ _ h => h) (Or.inr ⟨by rfl, rfl⟩) (by assumption) ?_
                  simp only [Act.put, List.setIfInBounds_toArray, List.set_cons_zero, List.set_cons_succ]
                  refine wpAnyH_take (i := 9) (oi := { dst := some 97, op := Op.indexAddr 41 (Operand.tmp 10) (Operand.tmp 96), type := 0, pos := "law.go:166", after := #[{ on := 8, ground := Ground.data }, { on := 7, ground := Ground.guard }], guard := some (7, true) }) (v := undef) rfl (by kernel_rfl) (by kernel_rfl) (by kernel_rfl) (fun _ _ _ h => h) (Or.inr ⟨by rfl, rfl⟩) (by assumption) ?_
                  simp only [Act.put, List.setIfInBounds_toArray, List.set_cons_zero, List.set_cons_succ]
                  refine wpAnyH_take (i := 10) (oi := { dst := some 98, op := Op.load 23 (Operand.tmp 97), type := 23, pos := "law.go:166", after := #[{ on := 9, ground := Ground.data }, { on := 7, ground := Ground.guard }], guard := some (7, true) }) (v := undef) rfl (by kernel_rfl) (by kernel_rfl) (by kernel_rfl) (fun _ _ _ h => h) (Or.inr ⟨by rfl, rfl⟩) (by assumption) ?_
                  simp only [Act.put, List.setIfInBounds_toArray, List.set_cons_zero, List.set_cons_succ]
                  refine wpAnyH_take (i := 11) (oi := { dst := some 99, op := Op.move (Operand.tmp 14), type := 3, pos := "law.go:166", after := #[{ on := 7, ground := Ground.guard }], guard := some (7, true) }) (v := undef) rfl (by kernel_rfl) (by kernel_rfl) (by kernel_rfl) (fun _ _ _ h => h) (Or.inr ⟨by rfl, rfl⟩) (by assumption) ?_
                  simp only [Act.put, List.setIfInBounds_toArray, List.set_cons_zero, List.set_cons_succ]
                  refine wpAnyH_take (i := 12) (oi := { dst := some 100, op := Op.indexAddr 41 (Operand.tmp 10) (Operand.tmp 99), type := 0, pos := "law.go:166", after := #[{ on := 11, ground := Ground.data }, { on := 7, ground := Ground.guard }], guard := some (7, true) }) (v := undef) rfl (by kernel_rfl) (by kernel_rfl) (by kernel_rfl) (fun _ _ _ h => h) (Or.inr ⟨by rfl, rfl⟩) (by assumption) ?_
                  simp only [Act.put, List.setIfInBounds_toArray, List.set_cons_zero, List.set_cons_succ]
                  refine wpAnyH_take (i := 13) (oi := { dst := some 101, op := Op.load 23 (Operand.tmp 100), type := 23, pos := "law.go:166", after := #[{ on := 12, ground := Ground.data }, { on := 7, ground := Ground.guard }], guard := some (7, true) }) (v := undef) rfl (by kernel_rfl) (by kernel_rfl) (by kernel_rfl) (fun _ _ _ h => h) (Or.inr ⟨by rfl, rfl⟩) (by assumption) ?_
                  simp only [Act.put, List.setIfInBounds_toArray, List.set_cons_zero, List.set_cons_succ]
                  refine wpAnyH_take (i := 14) (oi := { dst := some 102, op := Op.call { callee := Callee.value (Operand.func 20), args := #[Operand.tmp 98, Operand.tmp 101], argTypes := #[23, 23] }, type := 4, pos := "law.go:166", after := #[{ on := 10, ground := Ground.data }, { on := 13, ground := Ground.data }, { on := 7, ground := Ground.chain }, { on := 7, ground := Ground.guard }], guard := some (7, true) }) (v := undef) rfl (by kernel_rfl) (by kernel_rfl) (by kernel_rfl) (fun _ _ _ h => h) (Or.inr ⟨by rfl, rfl⟩) (by assumption) ?_
                  simp only [Act.put, List.setIfInBounds_toArray, List.set_cons_zero, List.set_cons_succ]
                  refine wpAnyH_take (i := 15) (oi := { dst := some 103, op := Op.unOp UnOp.not 4 (Operand.tmp 102), type := 4, pos := "law.go:166", after := #[{ on := 14, ground := Ground.data }, { on := 7, ground := Ground.guard }], guard := some (7, true) }) (v := undef) rfl (by kernel_rfl) (by kernel_rfl) (by kernel_rfl) (fun _ _ _ h => h) (Or.inr ⟨by rfl, rfl⟩) (by assumption) ?_
                  simp only [Act.put, List.setIfInBounds_toArray, List.set_cons_zero, List.set_cons_succ]
                  refine wpAnyH_take (i := 16) (oi := { dst := some 104, op := Op.pick (Operand.tmp 95) (Operand.tmp 103) (Operand.const (Value.bool false)), type := 4, pos := "law.go:166", after := #[{ on := 7, ground := Ground.data }, { on := 15, ground := Ground.data }], guard := none }) (v := ?vz21a16) rfl (by kernel_rfl) (by kernel_rfl) (by kernel_rfl) (fun _ _ _ h => h) (Or.inl ⟨by rfl, ?yz21a16⟩) (by assumption) ?tz21a16
                  case yz21a16 => (intro wz hSw; clear hSw; go_simp; try with_reducible rfl)
                  simp only [Act.put, List.setIfInBounds_toArray, List.set_cons_zero, List.set_cons_succ]
                  refine wpAnyH_done (by kernel_rfl) ?_ _
                  have H2 := Lib.hid hHeld
                  clear hHeld
                  go_wp2_with fail
                  go_roundw
                  case rel => exact ⟨H2, .inr (.inr (.inl rfl))⟩
                  case measure => decide
                · have hEq := fun V => run_factNe M1 M2 V
                  rw [show (!decide (M1 = M2)) = true by rw [decide_eq_false (fun e => he e.symm)]; rfl] at hEq
                  rw [hq] at HP21
                  have hGu := run_factGuard
                  clear he hq
                  go_wp2_with fail
                  refine wp_region_held_drew (S := (fun v => ChS W bl G (.cells #[.int .i64 v0, .int .i64 v1, .int .i64 v2] 40) (.cells #[.int .i64 d0, .int .i64 d1, .int .i64 d2] 40) (.cells #[.int .i64 x0, .int .i64 x1, .int .i64 x2] 40) 41 (c3 M0 M1 M2) v)) (by kernel_rfl) (H.out.drew) (fun hHeld => ?_)
                  generalize wr.drew = wd at *
                  refine wpAnyH_take (i := 0) (oi := { dst := some 88, op := Op.move (Operand.tmp 14), type := 3, pos := "law.go:166", after := #[], guard := none }) (v := ?vz21b0) rfl (by kernel_rfl) (by kernel_rfl) (by kernel_rfl) (fun _ _ _ h => h) (Or.inl ⟨by rfl, ?yz21b0⟩) (by assumption) ?tz21b0
                  case yz21b0 => (intro wz hSw; clear hSw; go_simp; try with_reducible rfl)
                  simp only [Act.put, List.setIfInBounds_toArray, List.set_cons_zero, List.set_cons_succ]
                  refine wpAnyH_take (i := 1) (oi := { dst := some 89, op := Op.indexAddr 41 (Operand.tmp 10) (Operand.tmp 88), type := 0, pos := "law.go:166", after := #[{ on := 0, ground := Ground.data }], guard := none }) (v := ?vz21b1) rfl (by kernel_rfl) (by kernel_rfl) (by kernel_rfl) (fun _ _ _ h => h) (Or.inl ⟨by rfl, ?yz21b1⟩) (by assumption) ?tz21b1
                  case yz21b1 => (intro wz hSw; clear hSw; go_simp; try with_reducible rfl)
                  simp only [Act.put, List.setIfInBounds_toArray, List.set_cons_zero, List.set_cons_succ]
                  refine wpAnyH_take (i := 2) (oi := { dst := some 90, op := Op.load 23 (Operand.tmp 89), type := 23, pos := "law.go:166", after := #[{ on := 1, ground := Ground.data }], guard := none }) (v := factV M1) rfl (by kernel_rfl) (by kernel_rfl) (by kernel_rfl) (fun _ _ _ h => h) (Or.inl ⟨by rfl, fun wz hSw => sem_load_mid _ rfl (bl) 19 rfl (c3 M0 M1 M2) M1 (hSw.2.2.2.2.1) rfl⟩) (by assumption) ?tz21b2
                  simp only [Act.put, List.setIfInBounds_toArray, List.set_cons_zero, List.set_cons_succ]
                  refine wpAnyH_take (i := 3) (oi := { dst := some 91, op := Op.move (Operand.tmp 12), type := 3, pos := "law.go:166", after := #[], guard := none }) (v := ?vz21b3) rfl (by kernel_rfl) (by kernel_rfl) (by kernel_rfl) (fun _ _ _ h => h) (Or.inl ⟨by rfl, ?yz21b3⟩) (by assumption) ?tz21b3
                  case yz21b3 => (intro wz hSw; clear hSw; go_simp; try with_reducible rfl)
                  simp only [Act.put, List.setIfInBounds_toArray, List.set_cons_zero, List.set_cons_succ]
                  refine wpAnyH_take (i := 4) (oi := { dst := some 92, op := Op.indexAddr 41 (Operand.tmp 10) (Operand.tmp 91), type := 0, pos := "law.go:166", after := #[{ on := 3, ground := Ground.data }], guard := none }) (v := ?vz21b4) rfl (by kernel_rfl) (by kernel_rfl) (by kernel_rfl) (fun _ _ _ h => h) (Or.inl ⟨by rfl, ?yz21b4⟩) (by assumption) ?tz21b4
                  case yz21b4 => (intro wz hSw; clear hSw; go_simp; try with_reducible rfl)
                  simp only [Act.put, List.setIfInBounds_toArray, List.set_cons_zero, List.set_cons_succ]
                  refine wpAnyH_take (i := 5) (oi := { dst := some 93, op := Op.load 23 (Operand.tmp 92), type := 23, pos := "law.go:166", after := #[{ on := 4, ground := Ground.data }], guard := none }) (v := factV M2) rfl (by kernel_rfl) (by kernel_rfl) (by kernel_rfl) (fun _ _ _ h => h) (Or.inl ⟨by rfl, fun wz hSw => sem_load_mid _ rfl (bl) 38 rfl (c3 M0 M1 M2) M2 (hSw.2.2.2.2.1) rfl⟩) (by assumption) ?tz21b5
                  simp only [Act.put, List.setIfInBounds_toArray, List.set_cons_zero, List.set_cons_succ]
                  refine wpAnyH_take (i := 6) (oi := { dst := some 94, op := Op.binOp BinOp.neq 23 (Operand.tmp 90) (Operand.tmp 93) 23, type := 4, pos := "law.go:166", after := #[{ on := 2, ground := Ground.data }, { on := 5, ground := Ground.data }], guard := none }) (v := ?vz21b6) rfl (by kernel_rfl) (by kernel_rfl) (by kernel_rfl) (fun _ _ _ h => h) (Or.inl ⟨by rfl, ?yz21b6⟩) (by assumption) ?tz21b6
                  case yz21b6 => (intro wz hSw; clear hSw; go_simp; try with_reducible rfl)
                  simp only [Act.put, List.setIfInBounds_toArray, List.set_cons_zero, List.set_cons_succ]
                  refine wpAnyH_take (i := 7) (oi := { dst := some 95, op := Op.move (Operand.tmp 94), type := 4, pos := "law.go:166", after := #[{ on := 6, ground := Ground.data }], guard := none }) (v := ?vz21b7) rfl (by kernel_rfl) (by kernel_rfl) (by kernel_rfl) (fun _ _ _ h => h) (Or.inl ⟨by rfl, ?yz21b7⟩) (by assumption) ?tz21b7
                  case yz21b7 => (intro wz hSw; clear hSw; go_simp; try with_reducible rfl)
                  simp only [Act.put, List.setIfInBounds_toArray, List.set_cons_zero, List.set_cons_succ]
                  refine wpAnyH_take (i := 8) (oi := { dst := some 96, op := Op.move (Operand.tmp 12), type := 3, pos := "law.go:166", after := #[{ on := 7, ground := Ground.guard }], guard := some (7, true) }) (v := ?vz21b8) rfl (by kernel_rfl) (by kernel_rfl) (by kernel_rfl) (fun _ _ _ h => h) (Or.inl ⟨by rfl, ?yz21b8⟩) (by assumption) ?tz21b8
                  case yz21b8 => (intro wz hSw; clear hSw; go_simp; try with_reducible rfl)
                  simp only [Act.put, List.setIfInBounds_toArray, List.set_cons_zero, List.set_cons_succ]
                  refine wpAnyH_take (i := 9) (oi := { dst := some 97, op := Op.indexAddr 41 (Operand.tmp 10) (Operand.tmp 96), type := 0, pos := "law.go:166", after := #[{ on := 8, ground := Ground.data }, { on := 7, ground := Ground.guard }], guard := some (7, true) }) (v := ?vz21b9) rfl (by kernel_rfl) (by kernel_rfl) (by kernel_rfl) (fun _ _ _ h => h) (Or.inl ⟨by rfl, ?yz21b9⟩) (by assumption) ?tz21b9
                  case yz21b9 => (intro wz hSw; clear hSw; go_simp; try with_reducible rfl)
                  simp only [Act.put, List.setIfInBounds_toArray, List.set_cons_zero, List.set_cons_succ]
                  refine wpAnyH_take (i := 10) (oi := { dst := some 98, op := Op.load 23 (Operand.tmp 97), type := 23, pos := "law.go:166", after := #[{ on := 9, ground := Ground.data }, { on := 7, ground := Ground.guard }], guard := some (7, true) }) (v := factV M2) rfl (by kernel_rfl) (by kernel_rfl) (by kernel_rfl) (fun _ _ _ h => h) (Or.inl ⟨by rfl, fun wz hSw => sem_load_mid _ rfl (bl) 38 rfl (c3 M0 M1 M2) M2 (hSw.2.2.2.2.1) rfl⟩) (by assumption) ?tz21b10
                  simp only [Act.put, List.setIfInBounds_toArray, List.set_cons_zero, List.set_cons_succ]
                  refine wpAnyH_take (i := 11) (oi := { dst := some 99, op := Op.move (Operand.tmp 14), type := 3, pos := "law.go:166", after := #[{ on := 7, ground := Ground.guard }], guard := some (7, true) }) (v := ?vz21b11) rfl (by kernel_rfl) (by kernel_rfl) (by kernel_rfl) (fun _ _ _ h => h) (Or.inl ⟨by rfl, ?yz21b11⟩) (by assumption) ?tz21b11
                  case yz21b11 => (intro wz hSw; clear hSw; go_simp; try with_reducible rfl)
                  simp only [Act.put, List.setIfInBounds_toArray, List.set_cons_zero, List.set_cons_succ]
                  refine wpAnyH_take (i := 12) (oi := { dst := some 100, op := Op.indexAddr 41 (Operand.tmp 10) (Operand.tmp 99), type := 0, pos := "law.go:166", after := #[{ on := 11, ground := Ground.data }, { on := 7, ground := Ground.guard }], guard := some (7, true) }) (v := ?vz21b12) rfl (by kernel_rfl) (by kernel_rfl) (by kernel_rfl) (fun _ _ _ h => h) (Or.inl ⟨by rfl, ?yz21b12⟩) (by assumption) ?tz21b12
                  case yz21b12 => (intro wz hSw; clear hSw; go_simp; try with_reducible rfl)
                  simp only [Act.put, List.setIfInBounds_toArray, List.set_cons_zero, List.set_cons_succ]
                  refine wpAnyH_take (i := 13) (oi := { dst := some 101, op := Op.load 23 (Operand.tmp 100), type := 23, pos := "law.go:166", after := #[{ on := 12, ground := Ground.data }, { on := 7, ground := Ground.guard }], guard := some (7, true) }) (v := factV M1) rfl (by kernel_rfl) (by kernel_rfl) (by kernel_rfl) (fun _ _ _ h => h) (Or.inl ⟨by rfl, fun wz hSw => sem_load_mid _ rfl (bl) 19 rfl (c3 M0 M1 M2) M1 (hSw.2.2.2.2.1) rfl⟩) (by assumption) ?tz21b13
                  simp only [Act.put, List.setIfInBounds_toArray, List.set_cons_zero, List.set_cons_succ]
                  refine wpAnyH_ready (rs := [14]) (by kernel_rfl) (by simp) ?_
                  refine AllReadyH.cons (o := { dst := some 102, op := Op.call { callee := Callee.value (Operand.func 20), args := #[Operand.tmp 98, Operand.tmp 101], argTypes := #[23, 23] }, type := 4, pos := "law.go:166", after := #[{ on := 10, ground := Ground.data }, { on := 13, ground := Ground.data }, { on := 7, ground := Ground.chain }, { on := 7, ground := Ground.guard }], guard := some (7, true) }) rfl (fun K hK => ?_) AllReadyH.nil
                  have HH := Lib.hid hHeld
                  go_simp
                  refine (HP21.out _ HH.out.2.2.2.2.2.2.1).mono ?_; rintro e wz ⟨rfl, gz⟩
                  have hz := HH.out.below gz
                  clear gz HH
                  refine hK.out _ _ (hz) (fun hHeld' => ?_)
                  clear hK K hHeld
                  have hHeld := hHeld'; clear hHeld'
                  try simp only [Act.put, List.setIfInBounds_toArray, List.set_cons_zero, List.set_cons_succ]
                  refine wpAnyH_take (i := 15) (oi := { dst := some 103, op := Op.unOp UnOp.not 4 (Operand.tmp 102), type := 4, pos := "law.go:166", after := #[{ on := 14, ground := Ground.data }, { on := 7, ground := Ground.guard }], guard := some (7, true) }) (v := ?vz21b15) rfl (by kernel_rfl) (by kernel_rfl) (by kernel_rfl) (fun _ _ _ h => h) (Or.inl ⟨by rfl, ?yz21b15⟩) (by assumption) ?tz21b15
                  case yz21b15 => (intro wz hSw; clear hSw; go_simp; try with_reducible rfl)
                  simp only [Act.put, List.setIfInBounds_toArray, List.set_cons_zero, List.set_cons_succ]
                  refine wpAnyH_take (i := 16) (oi := { dst := some 104, op := Op.pick (Operand.tmp 95) (Operand.tmp 103) (Operand.const (Value.bool false)), type := 4, pos := "law.go:166", after := #[{ on := 7, ground := Ground.data }, { on := 15, ground := Ground.data }], guard := none }) (v := ?vz21b16) rfl (by kernel_rfl) (by kernel_rfl) (by kernel_rfl) (fun _ _ _ h => h) (Or.inl ⟨by rfl, ?yz21b16⟩) (by assumption) ?tz21b16
                  case yz21b16 => (intro wz hSw; clear hSw; go_simp; try with_reducible rfl)
                  simp only [Act.put, List.setIfInBounds_toArray, List.set_cons_zero, List.set_cons_succ]
                  refine wpAnyH_done (by kernel_rfl) ?_ _
                  have H2 := Lib.hid hHeld
                  clear hHeld
                  go_wp2_with fail
                  go_roundw
                  case rel => exact ⟨H2, .inr (.inr (.inl rfl))⟩
                  case measure => decide
              · have hEq := fun V => run_factNe M2 M2 V
                rw [show (!decide (M2 = M2)) = false by simp] at hEq
                have hGu := run_factGuard
                go_wp2_with fail
                refine wp_region_held_drew (S := (fun v => ChS W bl G (.cells #[.int .i64 v0, .int .i64 v1, .int .i64 v2] 40) (.cells #[.int .i64 d0, .int .i64 d1, .int .i64 d2] 40) (.cells #[.int .i64 x0, .int .i64 x1, .int .i64 x2] 40) 41 (c3 M0 M1 M2) v)) (by kernel_rfl) (H.out.drew) (fun hHeld => ?_)
                generalize wr.drew = wd at *
                refine wpAnyH_take (i := 0) (oi := { dst := some 88, op := Op.move (Operand.tmp 14), type := 3, pos := "law.go:166", after := #[], guard := none }) (v := ?vz220) rfl (by kernel_rfl) (by kernel_rfl) (by kernel_rfl) (fun _ _ _ h => h) (Or.inl ⟨by rfl, ?yz220⟩) (by assumption) ?tz220
                case yz220 => (intro wz hSw; clear hSw; go_simp; try with_reducible rfl)
                simp only [Act.put, List.setIfInBounds_toArray, List.set_cons_zero, List.set_cons_succ]
                refine wpAnyH_take (i := 1) (oi := { dst := some 89, op := Op.indexAddr 41 (Operand.tmp 10) (Operand.tmp 88), type := 0, pos := "law.go:166", after := #[{ on := 0, ground := Ground.data }], guard := none }) (v := ?vz221) rfl (by kernel_rfl) (by kernel_rfl) (by kernel_rfl) (fun _ _ _ h => h) (Or.inl ⟨by rfl, ?yz221⟩) (by assumption) ?tz221
                case yz221 => (intro wz hSw; clear hSw; go_simp; try with_reducible rfl)
                simp only [Act.put, List.setIfInBounds_toArray, List.set_cons_zero, List.set_cons_succ]
                refine wpAnyH_take (i := 2) (oi := { dst := some 90, op := Op.load 23 (Operand.tmp 89), type := 23, pos := "law.go:166", after := #[{ on := 1, ground := Ground.data }], guard := none }) (v := factV M2) rfl (by kernel_rfl) (by kernel_rfl) (by kernel_rfl) (fun _ _ _ h => h) (Or.inl ⟨by rfl, fun wz hSw => sem_load_mid _ rfl (bl) 38 rfl (c3 M0 M1 M2) M2 (hSw.2.2.2.2.1) rfl⟩) (by assumption) ?tz222
                simp only [Act.put, List.setIfInBounds_toArray, List.set_cons_zero, List.set_cons_succ]
                refine wpAnyH_take (i := 3) (oi := { dst := some 91, op := Op.move (Operand.tmp 12), type := 3, pos := "law.go:166", after := #[], guard := none }) (v := ?vz223) rfl (by kernel_rfl) (by kernel_rfl) (by kernel_rfl) (fun _ _ _ h => h) (Or.inl ⟨by rfl, ?yz223⟩) (by assumption) ?tz223
                case yz223 => (intro wz hSw; clear hSw; go_simp; try with_reducible rfl)
                simp only [Act.put, List.setIfInBounds_toArray, List.set_cons_zero, List.set_cons_succ]
                refine wpAnyH_take (i := 4) (oi := { dst := some 92, op := Op.indexAddr 41 (Operand.tmp 10) (Operand.tmp 91), type := 0, pos := "law.go:166", after := #[{ on := 3, ground := Ground.data }], guard := none }) (v := ?vz224) rfl (by kernel_rfl) (by kernel_rfl) (by kernel_rfl) (fun _ _ _ h => h) (Or.inl ⟨by rfl, ?yz224⟩) (by assumption) ?tz224
                case yz224 => (intro wz hSw; clear hSw; go_simp; try with_reducible rfl)
                simp only [Act.put, List.setIfInBounds_toArray, List.set_cons_zero, List.set_cons_succ]
                refine wpAnyH_take (i := 5) (oi := { dst := some 93, op := Op.load 23 (Operand.tmp 92), type := 23, pos := "law.go:166", after := #[{ on := 4, ground := Ground.data }], guard := none }) (v := factV M2) rfl (by kernel_rfl) (by kernel_rfl) (by kernel_rfl) (fun _ _ _ h => h) (Or.inl ⟨by rfl, fun wz hSw => sem_load_mid _ rfl (bl) 38 rfl (c3 M0 M1 M2) M2 (hSw.2.2.2.2.1) rfl⟩) (by assumption) ?tz225
                simp only [Act.put, List.setIfInBounds_toArray, List.set_cons_zero, List.set_cons_succ]
                refine wpAnyH_take (i := 6) (oi := { dst := some 94, op := Op.binOp BinOp.neq 23 (Operand.tmp 90) (Operand.tmp 93) 23, type := 4, pos := "law.go:166", after := #[{ on := 2, ground := Ground.data }, { on := 5, ground := Ground.data }], guard := none }) (v := ?vz226) rfl (by kernel_rfl) (by kernel_rfl) (by kernel_rfl) (fun _ _ _ h => h) (Or.inl ⟨by rfl, ?yz226⟩) (by assumption) ?tz226
                case yz226 => (intro wz hSw; clear hSw; go_simp; try with_reducible rfl)
                simp only [Act.put, List.setIfInBounds_toArray, List.set_cons_zero, List.set_cons_succ]
                refine wpAnyH_take (i := 7) (oi := { dst := some 95, op := Op.move (Operand.tmp 94), type := 4, pos := "law.go:166", after := #[{ on := 6, ground := Ground.data }], guard := none }) (v := ?vz227) rfl (by kernel_rfl) (by kernel_rfl) (by kernel_rfl) (fun _ _ _ h => h) (Or.inl ⟨by rfl, ?yz227⟩) (by assumption) ?tz227
                case yz227 => (intro wz hSw; clear hSw; go_simp; try with_reducible rfl)
                simp only [Act.put, List.setIfInBounds_toArray, List.set_cons_zero, List.set_cons_succ]
                refine wpAnyH_take (i := 8) (oi := { dst := some 96, op := Op.move (Operand.tmp 12), type := 3, pos := "law.go:166", after := #[{ on := 7, ground := Ground.guard }], guard := some (7, true) }) (v := undef) rfl (by kernel_rfl) (by kernel_rfl) (by kernel_rfl) (fun _ _ _ h => h) (Or.inr ⟨by rfl, rfl⟩) (by assumption) ?_
                simp only [Act.put, List.setIfInBounds_toArray, List.set_cons_zero, List.set_cons_succ]
                refine wpAnyH_take (i := 9) (oi := { dst := some 97, op := Op.indexAddr 41 (Operand.tmp 10) (Operand.tmp 96), type := 0, pos := "law.go:166", after := #[{ on := 8, ground := Ground.data }, { on := 7, ground := Ground.guard }], guard := some (7, true) }) (v := undef) rfl (by kernel_rfl) (by kernel_rfl) (by kernel_rfl) (fun _ _ _ h => h) (Or.inr ⟨by rfl, rfl⟩) (by assumption) ?_
                simp only [Act.put, List.setIfInBounds_toArray, List.set_cons_zero, List.set_cons_succ]
                refine wpAnyH_take (i := 10) (oi := { dst := some 98, op := Op.load 23 (Operand.tmp 97), type := 23, pos := "law.go:166", after := #[{ on := 9, ground := Ground.data }, { on := 7, ground := Ground.guard }], guard := some (7, true) }) (v := undef) rfl (by kernel_rfl) (by kernel_rfl) (by kernel_rfl) (fun _ _ _ h => h) (Or.inr ⟨by rfl, rfl⟩) (by assumption) ?_
                simp only [Act.put, List.setIfInBounds_toArray, List.set_cons_zero, List.set_cons_succ]
                refine wpAnyH_take (i := 11) (oi := { dst := some 99, op := Op.move (Operand.tmp 14), type := 3, pos := "law.go:166", after := #[{ on := 7, ground := Ground.guard }], guard := some (7, true) }) (v := undef) rfl (by kernel_rfl) (by kernel_rfl) (by kernel_rfl) (fun _ _ _ h => h) (Or.inr ⟨by rfl, rfl⟩) (by assumption) ?_
                simp only [Act.put, List.setIfInBounds_toArray, List.set_cons_zero, List.set_cons_succ]
                refine wpAnyH_take (i := 12) (oi := { dst := some 100, op := Op.indexAddr 41 (Operand.tmp 10) (Operand.tmp 99), type := 0, pos := "law.go:166", after := #[{ on := 11, ground := Ground.data }, { on := 7, ground := Ground.guard }], guard := some (7, true) }) (v := undef) rfl (by kernel_rfl) (by kernel_rfl) (by kernel_rfl) (fun _ _ _ h => h) (Or.inr ⟨by rfl, rfl⟩) (by assumption) ?_
                simp only [Act.put, List.setIfInBounds_toArray, List.set_cons_zero, List.set_cons_succ]
                refine wpAnyH_take (i := 13) (oi := { dst := some 101, op := Op.load 23 (Operand.tmp 100), type := 23, pos := "law.go:166", after := #[{ on := 12, ground := Ground.data }, { on := 7, ground := Ground.guard }], guard := some (7, true) }) (v := undef) rfl (by kernel_rfl) (by kernel_rfl) (by kernel_rfl) (fun _ _ _ h => h) (Or.inr ⟨by rfl, rfl⟩) (by assumption) ?_
                simp only [Act.put, List.setIfInBounds_toArray, List.set_cons_zero, List.set_cons_succ]
                refine wpAnyH_take (i := 14) (oi := { dst := some 102, op := Op.call { callee := Callee.value (Operand.func 20), args := #[Operand.tmp 98, Operand.tmp 101], argTypes := #[23, 23] }, type := 4, pos := "law.go:166", after := #[{ on := 10, ground := Ground.data }, { on := 13, ground := Ground.data }, { on := 7, ground := Ground.chain }, { on := 7, ground := Ground.guard }], guard := some (7, true) }) (v := undef) rfl (by kernel_rfl) (by kernel_rfl) (by kernel_rfl) (fun _ _ _ h => h) (Or.inr ⟨by rfl, rfl⟩) (by assumption) ?_
                simp only [Act.put, List.setIfInBounds_toArray, List.set_cons_zero, List.set_cons_succ]
                refine wpAnyH_take (i := 15) (oi := { dst := some 103, op := Op.unOp UnOp.not 4 (Operand.tmp 102), type := 4, pos := "law.go:166", after := #[{ on := 14, ground := Ground.data }, { on := 7, ground := Ground.guard }], guard := some (7, true) }) (v := undef) rfl (by kernel_rfl) (by kernel_rfl) (by kernel_rfl) (fun _ _ _ h => h) (Or.inr ⟨by rfl, rfl⟩) (by assumption) ?_
                simp only [Act.put, List.setIfInBounds_toArray, List.set_cons_zero, List.set_cons_succ]
                refine wpAnyH_take (i := 16) (oi := { dst := some 104, op := Op.pick (Operand.tmp 95) (Operand.tmp 103) (Operand.const (Value.bool false)), type := 4, pos := "law.go:166", after := #[{ on := 7, ground := Ground.data }, { on := 15, ground := Ground.data }], guard := none }) (v := ?vz2216) rfl (by kernel_rfl) (by kernel_rfl) (by kernel_rfl) (fun _ _ _ h => h) (Or.inl ⟨by rfl, ?yz2216⟩) (by assumption) ?tz2216
                case yz2216 => (intro wz hSw; clear hSw; go_simp; try with_reducible rfl)
                simp only [Act.put, List.setIfInBounds_toArray, List.set_cons_zero, List.set_cons_succ]
                refine wpAnyH_done (by kernel_rfl) ?_ _
                have H2 := Lib.hid hHeld
                clear hHeld
                go_wp2_with fail
                go_roundw
                case rel => exact ⟨H2, .inr (.inr (.inr rfl))⟩
                case measure => decide
              · go_wp2_with fail
                go_ret
                exact ⟨rfl, H.out.2.2.2.2.2.2.2.2⟩
end Go.Proofs.YtnmjcjkjdbkpnaaDoor
