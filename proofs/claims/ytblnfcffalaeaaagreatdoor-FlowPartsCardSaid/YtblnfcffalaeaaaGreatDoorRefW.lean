/-
  The reference's WindowLine and StepLine (written by tools/l04_refline.py). Conditions: a window, a step of a valid flow; a number from 0 to 1000.
-/
import Derived.Test.YtblnfcffalaeaaaGreatDoorRefS
import Derived.Deep.RegionHeld3
namespace Go.Proofs.YtblnfcffalaeaaaGreatDoor
open Go.RowKit Go.Shelf

set_option maxRecDepth 100000 in
set_option maxHeartbeats 4000000 in
theorem refWindowLine_any (v : Fl.Win) (w : World) (hv : Fl.vWin 40 v = true) :
    Calls Tryz.prog 26 #[winV v] w fun e w' => e = .returned (.string (bs (Lib.join (Fl.winWords v) [32]))) ∧ Below w.heap.size w w' := by
  have hv' := Fl.vWin_iff.1 hv
  obtain ⟨src, dst, limit⟩ := v
  simp only at hv'
  have I1 := Lib.hid (fun w => refDigits_any src w (by omega) (by omega))
  have I2 := Lib.hid (fun w => refDigits_any dst w (by omega) (by omega))
  have I3 := Lib.hid (fun w => refDigits_any limit w (by omega) (by omega))
  have n1 := Fl.itoa_len10 (n := src) (by omega) (by omega)
  have n2 := Fl.itoa_len10 (n := dst) (by omega) (by omega)
  have n3 := Fl.itoa_len10 (n := limit) (by omega) (by omega)
  have HB := Lib.hid (heap_alloc_new w (.cells #[.int .i64 src, .int .i64 dst, .int .i64 limit] 58))
  have L0 := Lib.hid (below_new w (.cells #[.int .i64 src, .int .i64 dst, .int .i64 limit] 58)).drew
  have hF : (((([119, 105, 110, 100, 111, 119, 32] ++ Lib.itoa src) ++ [32]) ++ Lib.itoa dst) ++ [32]) ++ Lib.itoa limit = Lib.join (Fl.winWords ⟨src, dst, limit⟩) [32] := by simp [Fl.winWords, Fl.wWindow, Lib.join_cons, Lib.joinTail]
  generalize Lib.join (Fl.winWords ⟨src, dst, limit⟩) [32] = FF at *
  generalize Lib.itoa src = d1 at *; generalize Lib.itoa dst = d2 at *; generalize Lib.itoa limit = d3 at *
  have a1 := add_bs ([119, 105, 110, 100, 111, 119, 32]) (d1) (by simp; omega)
  have a2 := add_bs ([119, 105, 110, 100, 111, 119, 32] ++ d1) ([32]) (by simp; omega)
  have a3 := add_bs (([119, 105, 110, 100, 111, 119, 32] ++ d1) ++ [32]) (d2) (by simp; omega)
  have a4 := add_bs ((([119, 105, 110, 100, 111, 119, 32] ++ d1) ++ [32]) ++ d2) ([32]) (by simp; omega)
  have a5 := add_bs (((([119, 105, 110, 100, 111, 119, 32] ++ d1) ++ [32]) ++ d2) ++ [32]) (d3) (by simp; omega)
  clear n1 n2 n3
  generalize [119, 105, 110, 100, 111, 119, 32] ++ d1 = u1 at *
  generalize u1 ++ [32] = u2 at *
  generalize u2 ++ d2 = u3 at *
  generalize u3 ++ [32] = u4 at *
  generalize u4 ++ d3 = u5 at *
  have HF := Lib.hid hF; clear hF
  unfold winV
  simp only
  clear hv hv'
  go_enter Tryz.func26, Tryz.ntmps26
  go_wp2_with fail
  generalize w.alloc (.cells #[.int .i64 src, .int .i64 dst, .int .i64 limit] 58) = w0 at *
  refine wp_region_held_drew (S := (fun v => v.heap[w.heap.size]? = some (.cells #[.int .i64 src, .int .i64 dst, .int .i64 limit] 58))) (by kernel_rfl) (HB.out) (fun hHeld => ?_)
  refine wpAnyH_take (i := 0) (oi := { dst := some 3, op := Op.fieldAddr 58 (Operand.tmp 1) 0, type := 0, pos := "ref.go:128", after := #[], guard := none }) (v := ?vw_0) rfl (by kernel_rfl) (by kernel_rfl) (by kernel_rfl) (fun _ _ _ h => h) (Or.inl ⟨by rfl, ?yw_0⟩) (by assumption) ?tw_0
  case yw_0 => (intro w hSw; try dsimp only at hSw); go_simp; try with_reducible rfl
  simp only [Act.put, List.setIfInBounds_toArray, List.set_cons_zero, List.set_cons_succ]
  refine wpAnyH_take (i := 1) (oi := { dst := some 4, op := Op.load 3 (Operand.tmp 3), type := 3, pos := "ref.go:128", after := #[{ on := 0, ground := Ground.data }], guard := none }) (v := ?vw_1) rfl (by kernel_rfl) (by kernel_rfl) (by kernel_rfl) (fun _ _ _ h => h) (Or.inl ⟨by rfl, ?yw_1⟩) (by assumption) ?tw_1
  case yw_1 => (intro w hSw; have h0 := box_cell hSw 0 (.int .i64 src) rfl); go_simp; try with_reducible rfl
  simp only [Act.put, List.setIfInBounds_toArray, List.set_cons_zero, List.set_cons_succ]
  refine wpAnyH_take (i := 5) (oi := { dst := some 8, op := Op.fieldAddr 58 (Operand.tmp 1) 1, type := 0, pos := "ref.go:128", after := #[], guard := none }) (v := ?vw_5) rfl (by kernel_rfl) (by kernel_rfl) (by kernel_rfl) (fun _ _ _ h => h) (Or.inl ⟨by rfl, ?yw_5⟩) (by assumption) ?tw_5
  case yw_5 => (intro w hSw; try dsimp only at hSw); go_simp; try with_reducible rfl
  simp only [Act.put, List.setIfInBounds_toArray, List.set_cons_zero, List.set_cons_succ]
  refine wpAnyH_take (i := 6) (oi := { dst := some 9, op := Op.load 3 (Operand.tmp 8), type := 3, pos := "ref.go:128", after := #[{ on := 5, ground := Ground.data }], guard := none }) (v := ?vw_6) rfl (by kernel_rfl) (by kernel_rfl) (by kernel_rfl) (fun _ _ _ h => h) (Or.inl ⟨by rfl, ?yw_6⟩) (by assumption) ?tw_6
  case yw_6 => (intro w hSw; have h0 := box_cell hSw 1 (.int .i64 dst) rfl); go_simp; try with_reducible rfl
  simp only [Act.put, List.setIfInBounds_toArray, List.set_cons_zero, List.set_cons_succ]
  refine wpAnyH_take (i := 10) (oi := { dst := some 13, op := Op.fieldAddr 58 (Operand.tmp 1) 2, type := 0, pos := "ref.go:128", after := #[], guard := none }) (v := ?vw_10) rfl (by kernel_rfl) (by kernel_rfl) (by kernel_rfl) (fun _ _ _ h => h) (Or.inl ⟨by rfl, ?yw_10⟩) (by assumption) ?tw_10
  case yw_10 => (intro w hSw; try dsimp only at hSw); go_simp; try with_reducible rfl
  simp only [Act.put, List.setIfInBounds_toArray, List.set_cons_zero, List.set_cons_succ]
  refine wpAnyH_take (i := 11) (oi := { dst := some 14, op := Op.load 3 (Operand.tmp 13), type := 3, pos := "ref.go:128", after := #[{ on := 10, ground := Ground.data }], guard := none }) (v := ?vw_11) rfl (by kernel_rfl) (by kernel_rfl) (by kernel_rfl) (fun _ _ _ h => h) (Or.inl ⟨by rfl, ?yw_11⟩) (by assumption) ?tw_11
  case yw_11 => (intro w hSw; have h0 := box_cell hSw 2 (.int .i64 limit) rfl); go_simp; try with_reducible rfl
  simp only [Act.put, List.setIfInBounds_toArray, List.set_cons_zero, List.set_cons_succ]
  refine wpAnyH_ready (rs := [2]) (by kernel_rfl) (by simp) ?_
  refine AllReadyH.cons (o := { dst := some 5, op := Op.call { callee := Callee.value (Operand.func 33), args := #[Operand.tmp 4], argTypes := #[3] }, type := 9, pos := "ref.go:128", after := #[{ on := 1, ground := Ground.data }], guard := none }) rfl (fun K hK => ?_) AllReadyH.nil
  go_simp
  refine (I1.out _).mono ?_; rintro e w1 ⟨rfl, g1⟩
  have L1 := Lib.hid (below_step L0.out g1)
  have hS1 := (g1.block w.heap.size (lt_of_block hHeld)).trans hHeld
  clear g1
  refine hK.out _ _ (hS1) (fun hHeld' => ?_)
  clear hK K hHeld
  have hHeld := hHeld'; clear hHeld'
  try simp only [Act.put, List.setIfInBounds_toArray, List.set_cons_zero, List.set_cons_succ]
  refine wpAnyH_take (i := 3) (oi := { dst := some 6, op := Op.binOp BinOp.add 9 (Operand.const (Value.string { data := #[119, 105, 110, 100, 111, 119, 32] })) (Operand.tmp 5) 9, type := 9, pos := "ref.go:128", after := #[{ on := 2, ground := Ground.data }], guard := none }) (v := ?vw_3) rfl (by kernel_rfl) (by kernel_rfl) (by kernel_rfl) (fun _ _ _ h => h) (Or.inl ⟨by rfl, ?yw_3⟩) (by assumption) ?tw_3
  case yw_3 => (intro w hSw; try dsimp only at hSw); go_simp; try with_reducible rfl
  simp only [Act.put, List.setIfInBounds_toArray, List.set_cons_zero, List.set_cons_succ]
  refine wpAnyH_take (i := 4) (oi := { dst := some 7, op := Op.binOp BinOp.add 9 (Operand.tmp 6) (Operand.const (Value.string { data := #[32] })) 9, type := 9, pos := "ref.go:128", after := #[{ on := 3, ground := Ground.data }], guard := none }) (v := ?vw_4) rfl (by kernel_rfl) (by kernel_rfl) (by kernel_rfl) (fun _ _ _ h => h) (Or.inl ⟨by rfl, ?yw_4⟩) (by assumption) ?tw_4
  case yw_4 => (intro w hSw; try dsimp only at hSw); go_simp; try with_reducible rfl
  simp only [Act.put, List.setIfInBounds_toArray, List.set_cons_zero, List.set_cons_succ]
  refine wpAnyH_ready (rs := [7]) (by kernel_rfl) (by simp) ?_
  refine AllReadyH.cons (o := { dst := some 10, op := Op.call { callee := Callee.value (Operand.func 33), args := #[Operand.tmp 9], argTypes := #[3] }, type := 9, pos := "ref.go:128", after := #[{ on := 6, ground := Ground.data }, { on := 2, ground := Ground.chain }], guard := none }) rfl (fun K hK => ?_) AllReadyH.nil
  go_simp
  refine (I2.out _).mono ?_; rintro e w2 ⟨rfl, g2⟩
  have L2 := Lib.hid (below_step L1.out g2)
  have hS2 := (g2.block w.heap.size (lt_of_block hHeld)).trans hHeld
  clear g2
  refine hK.out _ _ (hS2) (fun hHeld' => ?_)
  clear hK K hHeld
  have hHeld := hHeld'; clear hHeld'
  try simp only [Act.put, List.setIfInBounds_toArray, List.set_cons_zero, List.set_cons_succ]
  refine wpAnyH_take (i := 8) (oi := { dst := some 11, op := Op.binOp BinOp.add 9 (Operand.tmp 7) (Operand.tmp 10) 9, type := 9, pos := "ref.go:128", after := #[{ on := 4, ground := Ground.data }, { on := 7, ground := Ground.data }], guard := none }) (v := ?vw_8) rfl (by kernel_rfl) (by kernel_rfl) (by kernel_rfl) (fun _ _ _ h => h) (Or.inl ⟨by rfl, ?yw_8⟩) (by assumption) ?tw_8
  case yw_8 => (intro w hSw; try dsimp only at hSw); go_simp; try with_reducible rfl
  simp only [Act.put, List.setIfInBounds_toArray, List.set_cons_zero, List.set_cons_succ]
  refine wpAnyH_take (i := 9) (oi := { dst := some 12, op := Op.binOp BinOp.add 9 (Operand.tmp 11) (Operand.const (Value.string { data := #[32] })) 9, type := 9, pos := "ref.go:128", after := #[{ on := 8, ground := Ground.data }], guard := none }) (v := ?vw_9) rfl (by kernel_rfl) (by kernel_rfl) (by kernel_rfl) (fun _ _ _ h => h) (Or.inl ⟨by rfl, ?yw_9⟩) (by assumption) ?tw_9
  case yw_9 => (intro w hSw; try dsimp only at hSw); go_simp; try with_reducible rfl
  simp only [Act.put, List.setIfInBounds_toArray, List.set_cons_zero, List.set_cons_succ]
  refine wpAnyH_ready (rs := [12]) (by kernel_rfl) (by simp) ?_
  refine AllReadyH.cons (o := { dst := some 15, op := Op.call { callee := Callee.value (Operand.func 33), args := #[Operand.tmp 14], argTypes := #[3] }, type := 9, pos := "ref.go:128", after := #[{ on := 11, ground := Ground.data }, { on := 7, ground := Ground.chain }], guard := none }) rfl (fun K hK => ?_) AllReadyH.nil
  go_simp
  refine (I3.out _).mono ?_; rintro e w3 ⟨rfl, g3⟩
  have L3 := Lib.hid (below_step L2.out g3)
  have hS3 := (g3.block w.heap.size (lt_of_block hHeld)).trans hHeld
  clear g3
  refine hK.out _ _ (hS3) (fun hHeld' => ?_)
  clear hK K hHeld
  have hHeld := hHeld'; clear hHeld'
  try simp only [Act.put, List.setIfInBounds_toArray, List.set_cons_zero, List.set_cons_succ]
  refine wpAnyH_take (i := 13) (oi := { dst := some 16, op := Op.binOp BinOp.add 9 (Operand.tmp 12) (Operand.tmp 15) 9, type := 9, pos := "ref.go:128", after := #[{ on := 9, ground := Ground.data }, { on := 12, ground := Ground.data }], guard := none }) (v := ?vw_13) rfl (by kernel_rfl) (by kernel_rfl) (by kernel_rfl) (fun _ _ _ h => h) (Or.inl ⟨by rfl, ?yw_13⟩) (by assumption) ?tw_13
  case yw_13 => (intro w hSw; try dsimp only at hSw); go_simp; try with_reducible rfl
  simp only [Act.put, List.setIfInBounds_toArray, List.set_cons_zero, List.set_cons_succ]
  refine wpAnyH_take (i := 14) (oi := { dst := some 2, op := Op.assign (Operand.tmp 16), type := 9, pos := "ref.go:128", after := #[{ on := 13, ground := Ground.data }, { on := 12, ground := Ground.chain }, { on := 0, ground := Ground.phase }, { on := 1, ground := Ground.phase }, { on := 2, ground := Ground.phase }, { on := 3, ground := Ground.phase }, { on := 4, ground := Ground.phase }, { on := 5, ground := Ground.phase }, { on := 6, ground := Ground.phase }, { on := 7, ground := Ground.phase }, { on := 8, ground := Ground.phase }, { on := 9, ground := Ground.phase }, { on := 10, ground := Ground.phase }, { on := 11, ground := Ground.phase }, { on := 12, ground := Ground.phase }, { on := 13, ground := Ground.phase }], guard := none }) (v := ?vw_14) rfl (by kernel_rfl) (by kernel_rfl) (by kernel_rfl) (fun _ _ _ h => h) (Or.inl ⟨by rfl, ?yw_14⟩) (by assumption) ?tw_14
  case yw_14 => (intro w hSw; try dsimp only at hSw); go_simp; try with_reducible rfl
  simp only [Act.put, List.setIfInBounds_toArray, List.set_cons_zero, List.set_cons_succ]
  refine wpAnyH_done (by kernel_rfl) ?_ _
  clear hHeld
  go_wp2_with fail
  go_ret
  exact ⟨by rw [← HF.out]; rfl, L3.out⟩

set_option maxRecDepth 100000 in
set_option maxHeartbeats 8000000 in
theorem refStepLine_any (n : Int) (p : StepP) (w : World) (hp : p.ok w) (hs : Fl.StepOk 40 p.s) (hn : 0 ≤ n ∧ n ≤ 1000) :
    Calls Tryz.prog 25 #[.int .i64 n, p.v] w fun e w' => e = .returned (.string (bs (Lib.join (Fl.stepWords n p.s) [32]))) ∧ Below w.heap.size w w' := by
  have htl := Fl.asc_nonneg (by omega) hs.asct
  have hxl := Fl.asc_nonneg (by omega) hs.ascn
  obtain ⟨s, ta, tc, na, nc⟩ := p
  obtain ⟨tk, nk⟩ := hp
  simp only at htl hxl hs tk nk
  obtain ⟨r1, r2⟩ := hs.recipe; obtain ⟨e1, e2⟩ := hs.least; have e3 := hs.most
  have htl' : ∀ x ∈ s.tools, 0 ≤ x ∧ x ≤ 1000000 := fun x hx => ⟨(htl x hx).1, by have := (htl x hx).2; omega⟩
  have hxl' : ∀ x ∈ s.next, 0 ≤ x ∧ x ≤ 1000000 := fun x hx => ⟨(hxl x hx).1, by have := (hxl x hx).2; omega⟩
  have I1 := Lib.hid (fun w => refDigits_any n w (by omega) (by omega))
  have I2 := Lib.hid (fun w => refDigits_any s.recipe w (by omega) (by omega))
  have I3 := Lib.hid (fun w hA => refList_any s.tools ta tc w hA htl' (by have := hs.tools; omega))
  have I4 := Lib.hid (fun w => refDigits_any s.least w (by omega) (by omega))
  have I5 := Lib.hid (fun w => refDigits_any s.most w (by omega) (by omega))
  have I6 := Lib.hid (fun w hA => refList_any s.next na nc w hA hxl' (by have := hs.next; omega))
  have hbk := hs.back
  have n1 := Fl.itoa_len10 (n := n) (by omega) (by omega)
  have n2 := Fl.itoa_len10 (n := s.recipe) (by omega) (by omega)
  have n3 := Fl.nums_len htl' hs.tools.2
  have n4 := Fl.itoa_len10 (n := s.least) (by omega) (by omega)
  have n5 := Fl.itoa_len10 (n := s.most) (by omega) (by omega)
  have n6 := Fl.nums_len hxl' (by have := hs.next; omega)
  have I7 := Lib.hid (fun w (hb : ¬ s.back = -1) => refDigits_any s.back w (by omega) (by omega))
  have I8 := Lib.hid (fun w (hb : ¬ s.back = -1) => refDigits_any s.limit w (by omega) (by omega))
  have HN : Hid (¬ s.back = -1 → (Lib.itoa s.back).length ≤ 7 ∧ (Lib.itoa s.limit).length ≤ 7) := Lib.hid fun hb => ⟨Fl.itoa_len10 (by omega) (by omega), Fl.itoa_len10 (by omega) (by omega)⟩
  have HB := Lib.hid (heap_alloc_new w (.cells #[.int .i64 s.recipe, .slice ta s.tools.length tc, .int .i64 s.least, .int .i64 s.most, .slice na s.next.length nc, .int .i64 s.back, .int .i64 s.limit] 55))
  have L0 := Lib.hid (below_new w (.cells #[.int .i64 s.recipe, .slice ta s.tools.length tc, .int .i64 s.least, .int .i64 s.most, .slice na s.next.length nc, .int .i64 s.back, .int .i64 s.limit] 55)).drew
  have TK := Lib.hid tk; have NK := Lib.hid nk
  have HBK := Lib.hid hbk
  have hF : Lib.join (Fl.stepWords n s) [32] = if s.back = -1 then (((((((((([115, 116, 101, 112, 32] ++ Lib.itoa n) ++ [32, 114, 101, 99, 105, 112, 101, 32]) ++ Lib.itoa s.recipe) ++ [32, 116, 111, 111, 108, 115, 32]) ++ Fl.nums s.tools) ++ [32, 116, 105, 109, 101, 32]) ++ Lib.itoa s.least) ++ [46, 46]) ++ Lib.itoa s.most) ++ [32, 110, 101, 120, 116, 32]) ++ Fl.nums s.next else (((((((((((((([115, 116, 101, 112, 32] ++ Lib.itoa n) ++ [32, 114, 101, 99, 105, 112, 101, 32]) ++ Lib.itoa s.recipe) ++ [32, 116, 111, 111, 108, 115, 32]) ++ Fl.nums s.tools) ++ [32, 116, 105, 109, 101, 32]) ++ Lib.itoa s.least) ++ [46, 46]) ++ Lib.itoa s.most) ++ [32, 110, 101, 120, 116, 32]) ++ Fl.nums s.next) ++ [32, 98, 97, 99, 107, 32]) ++ Lib.itoa s.back) ++ [32, 108, 105, 109, 105, 116, 32]) ++ Lib.itoa s.limit := by
    unfold Fl.stepWords; split <;> simp [Fl.wStep, Fl.wRecipe, Fl.wTools, Fl.wTime, Fl.wNext, Fl.wBack, Fl.wLimit, Fl.span, Lib.join_cons, Lib.joinTail]
  generalize Lib.join (Fl.stepWords n s) [32] = FF at *
  generalize Lib.itoa n = d1 at *
  generalize Lib.itoa s.recipe = d2 at *
  generalize Fl.nums s.tools = d3 at *
  generalize Lib.itoa s.least = d4 at *
  generalize Lib.itoa s.most = d5 at *
  generalize Fl.nums s.next = d6 at *
  have a1 := add_bs ([115, 116, 101, 112, 32]) (d1) (by simp; omega)
  have a2 := add_bs ([115, 116, 101, 112, 32] ++ d1) ([32, 114, 101, 99, 105, 112, 101, 32]) (by simp; omega)
  have a3 := add_bs (([115, 116, 101, 112, 32] ++ d1) ++ [32, 114, 101, 99, 105, 112, 101, 32]) (d2) (by simp; omega)
  have a4 := add_bs ((([115, 116, 101, 112, 32] ++ d1) ++ [32, 114, 101, 99, 105, 112, 101, 32]) ++ d2) ([32, 116, 111, 111, 108, 115, 32]) (by simp; omega)
  have a5 := add_bs (((([115, 116, 101, 112, 32] ++ d1) ++ [32, 114, 101, 99, 105, 112, 101, 32]) ++ d2) ++ [32, 116, 111, 111, 108, 115, 32]) (d3) (by simp; omega)
  have a6 := add_bs ((((([115, 116, 101, 112, 32] ++ d1) ++ [32, 114, 101, 99, 105, 112, 101, 32]) ++ d2) ++ [32, 116, 111, 111, 108, 115, 32]) ++ d3) ([32, 116, 105, 109, 101, 32]) (by simp; omega)
  have a7 := add_bs (((((([115, 116, 101, 112, 32] ++ d1) ++ [32, 114, 101, 99, 105, 112, 101, 32]) ++ d2) ++ [32, 116, 111, 111, 108, 115, 32]) ++ d3) ++ [32, 116, 105, 109, 101, 32]) (d4) (by simp; omega)
  have a8 := add_bs ((((((([115, 116, 101, 112, 32] ++ d1) ++ [32, 114, 101, 99, 105, 112, 101, 32]) ++ d2) ++ [32, 116, 111, 111, 108, 115, 32]) ++ d3) ++ [32, 116, 105, 109, 101, 32]) ++ d4) ([46, 46]) (by simp; omega)
  have a9 := add_bs (((((((([115, 116, 101, 112, 32] ++ d1) ++ [32, 114, 101, 99, 105, 112, 101, 32]) ++ d2) ++ [32, 116, 111, 111, 108, 115, 32]) ++ d3) ++ [32, 116, 105, 109, 101, 32]) ++ d4) ++ [46, 46]) (d5) (by simp; omega)
  have a10 := add_bs ((((((((([115, 116, 101, 112, 32] ++ d1) ++ [32, 114, 101, 99, 105, 112, 101, 32]) ++ d2) ++ [32, 116, 111, 111, 108, 115, 32]) ++ d3) ++ [32, 116, 105, 109, 101, 32]) ++ d4) ++ [46, 46]) ++ d5) ([32, 110, 101, 120, 116, 32]) (by simp; omega)
  have a11 := add_bs (((((((((([115, 116, 101, 112, 32] ++ d1) ++ [32, 114, 101, 99, 105, 112, 101, 32]) ++ d2) ++ [32, 116, 111, 111, 108, 115, 32]) ++ d3) ++ [32, 116, 105, 109, 101, 32]) ++ d4) ++ [46, 46]) ++ d5) ++ [32, 110, 101, 120, 116, 32]) (d6) (by simp; omega)
  have hl11 : ((((((((((([115, 116, 101, 112, 32] ++ d1) ++ [32, 114, 101, 99, 105, 112, 101, 32]) ++ d2) ++ [32, 116, 111, 111, 108, 115, 32]) ++ d3) ++ [32, 116, 105, 109, 101, 32]) ++ d4) ++ [46, 46]) ++ d5) ++ [32, 110, 101, 120, 116, 32]) ++ d6).length ≤ 1000 := by simp; omega
  clear n1 n2 n3 n4 n5 n6
  generalize [115, 116, 101, 112, 32] ++ d1 = u1 at *
  generalize u1 ++ [32, 114, 101, 99, 105, 112, 101, 32] = u2 at *
  generalize u2 ++ d2 = u3 at *
  generalize u3 ++ [32, 116, 111, 111, 108, 115, 32] = u4 at *
  generalize u4 ++ d3 = u5 at *
  generalize u5 ++ [32, 116, 105, 109, 101, 32] = u6 at *
  generalize u6 ++ d4 = u7 at *
  generalize u7 ++ [46, 46] = u8 at *
  generalize u8 ++ d5 = u9 at *
  generalize u9 ++ [32, 110, 101, 120, 116, 32] = u10 at *
  generalize u10 ++ d6 = u11 at *
  have HF := Lib.hid hF; clear hF
  unfold StepP.v
  simp only
  clear tk nk hs htl hxl htl' hxl' hn r1 r2 e1 e2 e3 hbk
  go_enter Tryz.func25, Tryz.ntmps25
  go_wp2_with fail
  generalize w.alloc (.cells #[.int .i64 s.recipe, .slice ta s.tools.length tc, .int .i64 s.least, .int .i64 s.most, .slice na s.next.length nc, .int .i64 s.back, .int .i64 s.limit] 55) = w0 at *
  refine wp_region_held_drew (S := (fun v => v.heap[w.heap.size]? = some (.cells #[.int .i64 s.recipe, .slice ta s.tools.length tc, .int .i64 s.least, .int .i64 s.most, .slice na s.next.length nc, .int .i64 s.back, .int .i64 s.limit] 55))) (by kernel_rfl) (HB.out) (fun hHeld => ?_)
  refine wpAnyH_take (i := 0) (oi := { dst := some 6, op := Op.move (Operand.tmp 0), type := 3, pos := "ref.go:119", after := #[], guard := none }) (v := ?vs_0) rfl (by kernel_rfl) (by kernel_rfl) (by kernel_rfl) (fun _ _ _ h => h) (Or.inl ⟨by rfl, ?ys_0⟩) (by assumption) ?ts_0
  case ys_0 => (intro w hSw; try dsimp only at hSw); go_simp; try with_reducible rfl
  simp only [Act.put, List.setIfInBounds_toArray, List.set_cons_zero, List.set_cons_succ]
  refine wpAnyH_take (i := 4) (oi := { dst := some 10, op := Op.fieldAddr 55 (Operand.tmp 3) 0, type := 0, pos := "ref.go:119", after := #[], guard := none }) (v := ?vs_4) rfl (by kernel_rfl) (by kernel_rfl) (by kernel_rfl) (fun _ _ _ h => h) (Or.inl ⟨by rfl, ?ys_4⟩) (by assumption) ?ts_4
  case ys_4 => (intro w hSw; try dsimp only at hSw); go_simp; try with_reducible rfl
  simp only [Act.put, List.setIfInBounds_toArray, List.set_cons_zero, List.set_cons_succ]
  refine wpAnyH_take (i := 5) (oi := { dst := some 11, op := Op.load 3 (Operand.tmp 10), type := 3, pos := "ref.go:119", after := #[{ on := 4, ground := Ground.data }], guard := none }) (v := ?vs_5) rfl (by kernel_rfl) (by kernel_rfl) (by kernel_rfl) (fun _ _ _ h => h) (Or.inl ⟨by rfl, ?ys_5⟩) (by assumption) ?ts_5
  case ys_5 => (intro w hSw; have h0 := box_cell hSw 0 (.int .i64 s.recipe) rfl); go_simp; try with_reducible rfl
  simp only [Act.put, List.setIfInBounds_toArray, List.set_cons_zero, List.set_cons_succ]
  refine wpAnyH_take (i := 9) (oi := { dst := some 15, op := Op.fieldAddr 55 (Operand.tmp 3) 1, type := 0, pos := "ref.go:119", after := #[], guard := none }) (v := ?vs_9) rfl (by kernel_rfl) (by kernel_rfl) (by kernel_rfl) (fun _ _ _ h => h) (Or.inl ⟨by rfl, ?ys_9⟩) (by assumption) ?ts_9
  case ys_9 => (intro w hSw; try dsimp only at hSw); go_simp; try with_reducible rfl
  simp only [Act.put, List.setIfInBounds_toArray, List.set_cons_zero, List.set_cons_succ]
  refine wpAnyH_take (i := 10) (oi := { dst := some 16, op := Op.load 50 (Operand.tmp 15), type := 50, pos := "ref.go:119", after := #[{ on := 9, ground := Ground.data }], guard := none }) (v := ?vs_10) rfl (by kernel_rfl) (by kernel_rfl) (by kernel_rfl) (fun _ _ _ h => h) (Or.inl ⟨by rfl, ?ys_10⟩) (by assumption) ?ts_10
  case ys_10 => (intro w hSw; have h0 := box_cell hSw 1 (.slice ta s.tools.length tc) rfl); go_simp; try with_reducible rfl
  simp only [Act.put, List.setIfInBounds_toArray, List.set_cons_zero, List.set_cons_succ]
  refine wpAnyH_take (i := 14) (oi := { dst := some 20, op := Op.fieldAddr 55 (Operand.tmp 3) 2, type := 0, pos := "ref.go:119", after := #[], guard := none }) (v := ?vs_14) rfl (by kernel_rfl) (by kernel_rfl) (by kernel_rfl) (fun _ _ _ h => h) (Or.inl ⟨by rfl, ?ys_14⟩) (by assumption) ?ts_14
  case ys_14 => (intro w hSw; try dsimp only at hSw); go_simp; try with_reducible rfl
  simp only [Act.put, List.setIfInBounds_toArray, List.set_cons_zero, List.set_cons_succ]
  refine wpAnyH_take (i := 15) (oi := { dst := some 21, op := Op.load 3 (Operand.tmp 20), type := 3, pos := "ref.go:119", after := #[{ on := 14, ground := Ground.data }], guard := none }) (v := ?vs_15) rfl (by kernel_rfl) (by kernel_rfl) (by kernel_rfl) (fun _ _ _ h => h) (Or.inl ⟨by rfl, ?ys_15⟩) (by assumption) ?ts_15
  case ys_15 => (intro w hSw; have h0 := box_cell hSw 2 (.int .i64 s.least) rfl); go_simp; try with_reducible rfl
  simp only [Act.put, List.setIfInBounds_toArray, List.set_cons_zero, List.set_cons_succ]
  refine wpAnyH_take (i := 19) (oi := { dst := some 25, op := Op.fieldAddr 55 (Operand.tmp 3) 3, type := 0, pos := "ref.go:119", after := #[], guard := none }) (v := ?vs_19) rfl (by kernel_rfl) (by kernel_rfl) (by kernel_rfl) (fun _ _ _ h => h) (Or.inl ⟨by rfl, ?ys_19⟩) (by assumption) ?ts_19
  case ys_19 => (intro w hSw; try dsimp only at hSw); go_simp; try with_reducible rfl
  simp only [Act.put, List.setIfInBounds_toArray, List.set_cons_zero, List.set_cons_succ]
  refine wpAnyH_take (i := 20) (oi := { dst := some 26, op := Op.load 3 (Operand.tmp 25), type := 3, pos := "ref.go:119", after := #[{ on := 19, ground := Ground.data }], guard := none }) (v := ?vs_20) rfl (by kernel_rfl) (by kernel_rfl) (by kernel_rfl) (fun _ _ _ h => h) (Or.inl ⟨by rfl, ?ys_20⟩) (by assumption) ?ts_20
  case ys_20 => (intro w hSw; have h0 := box_cell hSw 3 (.int .i64 s.most) rfl); go_simp; try with_reducible rfl
  simp only [Act.put, List.setIfInBounds_toArray, List.set_cons_zero, List.set_cons_succ]
  refine wpAnyH_take (i := 24) (oi := { dst := some 30, op := Op.fieldAddr 55 (Operand.tmp 3) 4, type := 0, pos := "ref.go:119", after := #[], guard := none }) (v := ?vs_24) rfl (by kernel_rfl) (by kernel_rfl) (by kernel_rfl) (fun _ _ _ h => h) (Or.inl ⟨by rfl, ?ys_24⟩) (by assumption) ?ts_24
  case ys_24 => (intro w hSw; try dsimp only at hSw); go_simp; try with_reducible rfl
  simp only [Act.put, List.setIfInBounds_toArray, List.set_cons_zero, List.set_cons_succ]
  refine wpAnyH_take (i := 25) (oi := { dst := some 31, op := Op.load 50 (Operand.tmp 30), type := 50, pos := "ref.go:119", after := #[{ on := 24, ground := Ground.data }], guard := none }) (v := ?vs_25) rfl (by kernel_rfl) (by kernel_rfl) (by kernel_rfl) (fun _ _ _ h => h) (Or.inl ⟨by rfl, ?ys_25⟩) (by assumption) ?ts_25
  case ys_25 => (intro w hSw; have h0 := box_cell hSw 4 (.slice na s.next.length nc) rfl); go_simp; try with_reducible rfl
  simp only [Act.put, List.setIfInBounds_toArray, List.set_cons_zero, List.set_cons_succ]
  refine wpAnyH_ready (rs := [1]) (by kernel_rfl) (by simp) ?_
  refine AllReadyH.cons (o := { dst := some 7, op := Op.call { callee := Callee.value (Operand.func 33), args := #[Operand.tmp 6], argTypes := #[3] }, type := 9, pos := "ref.go:119", after := #[{ on := 0, ground := Ground.data }], guard := none }) rfl (fun K hK => ?_) AllReadyH.nil
  go_simp
  refine (I1.out _).mono ?_; rintro e w1 ⟨rfl, g1⟩
  have L1 := Lib.hid (below_step L0.out g1)
  have hS1 := (g1.block w.heap.size (lt_of_block hHeld)).trans hHeld
  clear g1
  refine hK.out _ _ (hS1) (fun hHeld' => ?_)
  clear hK K hHeld
  have hHeld := hHeld'; clear hHeld'
  try simp only [Act.put, List.setIfInBounds_toArray, List.set_cons_zero, List.set_cons_succ]
  refine wpAnyH_take (i := 2) (oi := { dst := some 8, op := Op.binOp BinOp.add 9 (Operand.const (Value.string { data := #[115, 116, 101, 112, 32] })) (Operand.tmp 7) 9, type := 9, pos := "ref.go:119", after := #[{ on := 1, ground := Ground.data }], guard := none }) (v := ?vs_2) rfl (by kernel_rfl) (by kernel_rfl) (by kernel_rfl) (fun _ _ _ h => h) (Or.inl ⟨by rfl, ?ys_2⟩) (by assumption) ?ts_2
  case ys_2 => (intro w hSw; try dsimp only at hSw); go_simp; try with_reducible rfl
  simp only [Act.put, List.setIfInBounds_toArray, List.set_cons_zero, List.set_cons_succ]
  refine wpAnyH_take (i := 3) (oi := { dst := some 9, op := Op.binOp BinOp.add 9 (Operand.tmp 8) (Operand.const (Value.string { data := #[32, 114, 101, 99, 105, 112, 101, 32] })) 9, type := 9, pos := "ref.go:119", after := #[{ on := 2, ground := Ground.data }], guard := none }) (v := ?vs_3) rfl (by kernel_rfl) (by kernel_rfl) (by kernel_rfl) (fun _ _ _ h => h) (Or.inl ⟨by rfl, ?ys_3⟩) (by assumption) ?ts_3
  case ys_3 => (intro w hSw; try dsimp only at hSw); go_simp; try with_reducible rfl
  simp only [Act.put, List.setIfInBounds_toArray, List.set_cons_zero, List.set_cons_succ]
  refine wpAnyH_ready (rs := [6]) (by kernel_rfl) (by simp) ?_
  refine AllReadyH.cons (o := { dst := some 12, op := Op.call { callee := Callee.value (Operand.func 33), args := #[Operand.tmp 11], argTypes := #[3] }, type := 9, pos := "ref.go:119", after := #[{ on := 5, ground := Ground.data }, { on := 1, ground := Ground.chain }], guard := none }) rfl (fun K hK => ?_) AllReadyH.nil
  go_simp
  refine (I2.out _).mono ?_; rintro e w2 ⟨rfl, g2⟩
  have L2 := Lib.hid (below_step L1.out g2)
  have hS2 := (g2.block w.heap.size (lt_of_block hHeld)).trans hHeld
  clear g2
  refine hK.out _ _ (hS2) (fun hHeld' => ?_)
  clear hK K hHeld
  have hHeld := hHeld'; clear hHeld'
  try simp only [Act.put, List.setIfInBounds_toArray, List.set_cons_zero, List.set_cons_succ]
  refine wpAnyH_take (i := 7) (oi := { dst := some 13, op := Op.binOp BinOp.add 9 (Operand.tmp 9) (Operand.tmp 12) 9, type := 9, pos := "ref.go:119", after := #[{ on := 3, ground := Ground.data }, { on := 6, ground := Ground.data }], guard := none }) (v := ?vs_7) rfl (by kernel_rfl) (by kernel_rfl) (by kernel_rfl) (fun _ _ _ h => h) (Or.inl ⟨by rfl, ?ys_7⟩) (by assumption) ?ts_7
  case ys_7 => (intro w hSw; try dsimp only at hSw); go_simp; try with_reducible rfl
  simp only [Act.put, List.setIfInBounds_toArray, List.set_cons_zero, List.set_cons_succ]
  refine wpAnyH_take (i := 8) (oi := { dst := some 14, op := Op.binOp BinOp.add 9 (Operand.tmp 13) (Operand.const (Value.string { data := #[32, 116, 111, 111, 108, 115, 32] })) 9, type := 9, pos := "ref.go:119", after := #[{ on := 7, ground := Ground.data }], guard := none }) (v := ?vs_8) rfl (by kernel_rfl) (by kernel_rfl) (by kernel_rfl) (fun _ _ _ h => h) (Or.inl ⟨by rfl, ?ys_8⟩) (by assumption) ?ts_8
  case ys_8 => (intro w hSw; try dsimp only at hSw); go_simp; try with_reducible rfl
  simp only [Act.put, List.setIfInBounds_toArray, List.set_cons_zero, List.set_cons_succ]
  refine wpAnyH_ready (rs := [11]) (by kernel_rfl) (by simp) ?_
  refine AllReadyH.cons (o := { dst := some 17, op := Op.call { callee := Callee.value (Operand.func 48), args := #[Operand.tmp 16], argTypes := #[50] }, type := 9, pos := "ref.go:119", after := #[{ on := 10, ground := Ground.data }, { on := 6, ground := Ground.chain }], guard := none }) rfl (fun K hK => ?_) AllReadyH.nil
  go_simp
  refine (I3.out _ (TK.out.below L2.out)).mono ?_; rintro e w3 ⟨rfl, g3⟩
  have L3 := Lib.hid (below_step L2.out g3)
  have hS3 := (g3.block w.heap.size (lt_of_block hHeld)).trans hHeld
  clear g3
  refine hK.out _ _ (hS3) (fun hHeld' => ?_)
  clear hK K hHeld
  have hHeld := hHeld'; clear hHeld'
  try simp only [Act.put, List.setIfInBounds_toArray, List.set_cons_zero, List.set_cons_succ]
  refine wpAnyH_take (i := 12) (oi := { dst := some 18, op := Op.binOp BinOp.add 9 (Operand.tmp 14) (Operand.tmp 17) 9, type := 9, pos := "ref.go:119", after := #[{ on := 8, ground := Ground.data }, { on := 11, ground := Ground.data }], guard := none }) (v := ?vs_12) rfl (by kernel_rfl) (by kernel_rfl) (by kernel_rfl) (fun _ _ _ h => h) (Or.inl ⟨by rfl, ?ys_12⟩) (by assumption) ?ts_12
  case ys_12 => (intro w hSw; try dsimp only at hSw); go_simp; try with_reducible rfl
  simp only [Act.put, List.setIfInBounds_toArray, List.set_cons_zero, List.set_cons_succ]
  refine wpAnyH_take (i := 13) (oi := { dst := some 19, op := Op.binOp BinOp.add 9 (Operand.tmp 18) (Operand.const (Value.string { data := #[32, 116, 105, 109, 101, 32] })) 9, type := 9, pos := "ref.go:119", after := #[{ on := 12, ground := Ground.data }], guard := none }) (v := ?vs_13) rfl (by kernel_rfl) (by kernel_rfl) (by kernel_rfl) (fun _ _ _ h => h) (Or.inl ⟨by rfl, ?ys_13⟩) (by assumption) ?ts_13
  case ys_13 => (intro w hSw; try dsimp only at hSw); go_simp; try with_reducible rfl
  simp only [Act.put, List.setIfInBounds_toArray, List.set_cons_zero, List.set_cons_succ]
  refine wpAnyH_ready (rs := [16]) (by kernel_rfl) (by simp) ?_
  refine AllReadyH.cons (o := { dst := some 22, op := Op.call { callee := Callee.value (Operand.func 33), args := #[Operand.tmp 21], argTypes := #[3] }, type := 9, pos := "ref.go:119", after := #[{ on := 15, ground := Ground.data }, { on := 11, ground := Ground.chain }], guard := none }) rfl (fun K hK => ?_) AllReadyH.nil
  go_simp
  refine (I4.out _).mono ?_; rintro e w4 ⟨rfl, g4⟩
  have L4 := Lib.hid (below_step L3.out g4)
  have hS4 := (g4.block w.heap.size (lt_of_block hHeld)).trans hHeld
  clear g4
  refine hK.out _ _ (hS4) (fun hHeld' => ?_)
  clear hK K hHeld
  have hHeld := hHeld'; clear hHeld'
  try simp only [Act.put, List.setIfInBounds_toArray, List.set_cons_zero, List.set_cons_succ]
  refine wpAnyH_take (i := 17) (oi := { dst := some 23, op := Op.binOp BinOp.add 9 (Operand.tmp 19) (Operand.tmp 22) 9, type := 9, pos := "ref.go:119", after := #[{ on := 13, ground := Ground.data }, { on := 16, ground := Ground.data }], guard := none }) (v := ?vs_17) rfl (by kernel_rfl) (by kernel_rfl) (by kernel_rfl) (fun _ _ _ h => h) (Or.inl ⟨by rfl, ?ys_17⟩) (by assumption) ?ts_17
  case ys_17 => (intro w hSw; try dsimp only at hSw); go_simp; try with_reducible rfl
  simp only [Act.put, List.setIfInBounds_toArray, List.set_cons_zero, List.set_cons_succ]
  refine wpAnyH_take (i := 18) (oi := { dst := some 24, op := Op.binOp BinOp.add 9 (Operand.tmp 23) (Operand.const (Value.string { data := #[46, 46] })) 9, type := 9, pos := "ref.go:119", after := #[{ on := 17, ground := Ground.data }], guard := none }) (v := ?vs_18) rfl (by kernel_rfl) (by kernel_rfl) (by kernel_rfl) (fun _ _ _ h => h) (Or.inl ⟨by rfl, ?ys_18⟩) (by assumption) ?ts_18
  case ys_18 => (intro w hSw; try dsimp only at hSw); go_simp; try with_reducible rfl
  simp only [Act.put, List.setIfInBounds_toArray, List.set_cons_zero, List.set_cons_succ]
  refine wpAnyH_ready (rs := [21]) (by kernel_rfl) (by simp) ?_
  refine AllReadyH.cons (o := { dst := some 27, op := Op.call { callee := Callee.value (Operand.func 33), args := #[Operand.tmp 26], argTypes := #[3] }, type := 9, pos := "ref.go:119", after := #[{ on := 20, ground := Ground.data }, { on := 16, ground := Ground.chain }], guard := none }) rfl (fun K hK => ?_) AllReadyH.nil
  go_simp
  refine (I5.out _).mono ?_; rintro e w5 ⟨rfl, g5⟩
  have L5 := Lib.hid (below_step L4.out g5)
  have hS5 := (g5.block w.heap.size (lt_of_block hHeld)).trans hHeld
  clear g5
  refine hK.out _ _ (hS5) (fun hHeld' => ?_)
  clear hK K hHeld
  have hHeld := hHeld'; clear hHeld'
  try simp only [Act.put, List.setIfInBounds_toArray, List.set_cons_zero, List.set_cons_succ]
  refine wpAnyH_take (i := 22) (oi := { dst := some 28, op := Op.binOp BinOp.add 9 (Operand.tmp 24) (Operand.tmp 27) 9, type := 9, pos := "ref.go:119", after := #[{ on := 18, ground := Ground.data }, { on := 21, ground := Ground.data }], guard := none }) (v := ?vs_22) rfl (by kernel_rfl) (by kernel_rfl) (by kernel_rfl) (fun _ _ _ h => h) (Or.inl ⟨by rfl, ?ys_22⟩) (by assumption) ?ts_22
  case ys_22 => (intro w hSw; try dsimp only at hSw); go_simp; try with_reducible rfl
  simp only [Act.put, List.setIfInBounds_toArray, List.set_cons_zero, List.set_cons_succ]
  refine wpAnyH_take (i := 23) (oi := { dst := some 29, op := Op.binOp BinOp.add 9 (Operand.tmp 28) (Operand.const (Value.string { data := #[32, 110, 101, 120, 116, 32] })) 9, type := 9, pos := "ref.go:119", after := #[{ on := 22, ground := Ground.data }], guard := none }) (v := ?vs_23) rfl (by kernel_rfl) (by kernel_rfl) (by kernel_rfl) (fun _ _ _ h => h) (Or.inl ⟨by rfl, ?ys_23⟩) (by assumption) ?ts_23
  case ys_23 => (intro w hSw; try dsimp only at hSw); go_simp; try with_reducible rfl
  simp only [Act.put, List.setIfInBounds_toArray, List.set_cons_zero, List.set_cons_succ]
  refine wpAnyH_ready (rs := [26]) (by kernel_rfl) (by simp) ?_
  refine AllReadyH.cons (o := { dst := some 32, op := Op.call { callee := Callee.value (Operand.func 48), args := #[Operand.tmp 31], argTypes := #[50] }, type := 9, pos := "ref.go:119", after := #[{ on := 25, ground := Ground.data }, { on := 21, ground := Ground.chain }], guard := none }) rfl (fun K hK => ?_) AllReadyH.nil
  go_simp
  refine (I6.out _ (NK.out.below L5.out)).mono ?_; rintro e w6 ⟨rfl, g6⟩
  have L6 := Lib.hid (below_step L5.out g6)
  have hS6 := (g6.block w.heap.size (lt_of_block hHeld)).trans hHeld
  clear g6
  refine hK.out _ _ (hS6) (fun hHeld' => ?_)
  clear hK K hHeld
  have hHeld := hHeld'; clear hHeld'
  try simp only [Act.put, List.setIfInBounds_toArray, List.set_cons_zero, List.set_cons_succ]
  refine wpAnyH_take (i := 27) (oi := { dst := some 33, op := Op.binOp BinOp.add 9 (Operand.tmp 29) (Operand.tmp 32) 9, type := 9, pos := "ref.go:119", after := #[{ on := 23, ground := Ground.data }, { on := 26, ground := Ground.data }], guard := none }) (v := ?vs_27) rfl (by kernel_rfl) (by kernel_rfl) (by kernel_rfl) (fun _ _ _ h => h) (Or.inl ⟨by rfl, ?ys_27⟩) (by assumption) ?ts_27
  case ys_27 => (intro w hSw; try dsimp only at hSw); go_simp; try with_reducible rfl
  simp only [Act.put, List.setIfInBounds_toArray, List.set_cons_zero, List.set_cons_succ]
  refine wpAnyH_take (i := 28) (oi := { dst := some 5, op := Op.assign (Operand.tmp 33), type := 9, pos := "ref.go:119", after := #[{ on := 27, ground := Ground.data }, { on := 26, ground := Ground.chain }, { on := 0, ground := Ground.phase }, { on := 1, ground := Ground.phase }, { on := 2, ground := Ground.phase }, { on := 3, ground := Ground.phase }, { on := 4, ground := Ground.phase }, { on := 5, ground := Ground.phase }, { on := 6, ground := Ground.phase }, { on := 7, ground := Ground.phase }, { on := 8, ground := Ground.phase }, { on := 9, ground := Ground.phase }, { on := 10, ground := Ground.phase }, { on := 11, ground := Ground.phase }, { on := 12, ground := Ground.phase }, { on := 13, ground := Ground.phase }, { on := 14, ground := Ground.phase }, { on := 15, ground := Ground.phase }, { on := 16, ground := Ground.phase }, { on := 17, ground := Ground.phase }, { on := 18, ground := Ground.phase }, { on := 19, ground := Ground.phase }, { on := 20, ground := Ground.phase }, { on := 21, ground := Ground.phase }, { on := 22, ground := Ground.phase }, { on := 23, ground := Ground.phase }, { on := 24, ground := Ground.phase }, { on := 25, ground := Ground.phase }, { on := 26, ground := Ground.phase }, { on := 27, ground := Ground.phase }], guard := none }) (v := ?vs_28) rfl (by kernel_rfl) (by kernel_rfl) (by kernel_rfl) (fun _ _ _ h => h) (Or.inl ⟨by rfl, ?ys_28⟩) (by assumption) ?ts_28
  case ys_28 => (intro w hSw; try dsimp only at hSw); go_simp; try with_reducible rfl
  simp only [Act.put, List.setIfInBounds_toArray, List.set_cons_zero, List.set_cons_succ]
  refine wpAnyH_done (by kernel_rfl) ?_ _
  have HH := Lib.hid hHeld; clear hHeld
  have c5 := box_cell HH.out 5 (.int .i64 s.back) rfl
  have c6 := box_cell HH.out 6 (.int .i64 s.limit) rfl
  by_cases hb : s.back = -1
  · have h5 : ¬ 0 ≤ s.back := by omega
    have HR := Lib.hid (HF.out.trans (if_pos hb))
    clear hb I7 I8 HN HF
    go_wp2_with fail
    go_ret
    exact ⟨by rw [HR.out]; rfl, L6.out⟩
  · have h5 : 0 ≤ s.back := by rcases HBK.out with h | h <;> omega
    obtain ⟨m7, m8⟩ := HN.out hb
    have HR := Lib.hid (HF.out.trans (if_neg hb))
    have J7 := Lib.hid (fun w => I7.out w hb); have J8 := Lib.hid (fun w => I8.out w hb)
    clear hb I7 I8 HN HF HBK
    generalize Lib.itoa s.back = d7 at *; generalize Lib.itoa s.limit = d8 at *
    have a21 := add_bs (u11) ([32, 98, 97, 99, 107, 32]) (by simp; omega)
    have a22 := add_bs (u11 ++ [32, 98, 97, 99, 107, 32]) (d7) (by simp; omega)
    have a23 := add_bs ((u11 ++ [32, 98, 97, 99, 107, 32]) ++ d7) ([32, 108, 105, 109, 105, 116, 32]) (by simp; omega)
    have a24 := add_bs (((u11 ++ [32, 98, 97, 99, 107, 32]) ++ d7) ++ [32, 108, 105, 109, 105, 116, 32]) (d8) (by simp; omega)
    clear m7 m8 hl11
    generalize u11 ++ [32, 98, 97, 99, 107, 32] = u21 at *
    generalize u21 ++ d7 = u22 at *
    generalize u22 ++ [32, 108, 105, 109, 105, 116, 32] = u23 at *
    generalize u23 ++ d8 = u24 at *
    go_upto_region 3 with (fail)
    have L7 := Lib.hid L6.out.drew
    clear c5 c6
    refine wp_region_held_drew (S := (fun v => v.heap[w.heap.size]? = some (.cells #[.int .i64 s.recipe, .slice ta s.tools.length tc, .int .i64 s.least, .int .i64 s.most, .slice na s.next.length nc, .int .i64 s.back, .int .i64 s.limit] 55))) (by kernel_rfl) (HH.out) (fun hHeld => ?_)
    refine wpAnyH_take (i := 0) (oi := { dst := some 37, op := Op.move (Operand.tmp 5), type := 9, pos := "ref.go:121", after := #[], guard := none }) (v := ?vb_0) rfl (by kernel_rfl) (by kernel_rfl) (by kernel_rfl) (fun _ _ _ h => h) (Or.inl ⟨by rfl, ?yb_0⟩) (by assumption) ?tb_0
    case yb_0 => (intro w hSw; try dsimp only at hSw); go_simp; try with_reducible rfl
    simp only [Act.put, List.setIfInBounds_toArray, List.set_cons_zero, List.set_cons_succ]
    refine wpAnyH_take (i := 1) (oi := { dst := some 38, op := Op.binOp BinOp.add 9 (Operand.tmp 37) (Operand.const (Value.string { data := #[32, 98, 97, 99, 107, 32] })) 9, type := 9, pos := "ref.go:121", after := #[{ on := 0, ground := Ground.data }], guard := none }) (v := ?vb_1) rfl (by kernel_rfl) (by kernel_rfl) (by kernel_rfl) (fun _ _ _ h => h) (Or.inl ⟨by rfl, ?yb_1⟩) (by assumption) ?tb_1
    case yb_1 => (intro w hSw; try dsimp only at hSw); go_simp; try with_reducible rfl
    simp only [Act.put, List.setIfInBounds_toArray, List.set_cons_zero, List.set_cons_succ]
    refine wpAnyH_take (i := 2) (oi := { dst := some 39, op := Op.fieldAddr 55 (Operand.tmp 3) 5, type := 0, pos := "ref.go:121", after := #[], guard := none }) (v := ?vb_2) rfl (by kernel_rfl) (by kernel_rfl) (by kernel_rfl) (fun _ _ _ h => h) (Or.inl ⟨by rfl, ?yb_2⟩) (by assumption) ?tb_2
    case yb_2 => (intro w hSw; try dsimp only at hSw); go_simp; try with_reducible rfl
    simp only [Act.put, List.setIfInBounds_toArray, List.set_cons_zero, List.set_cons_succ]
    refine wpAnyH_take (i := 3) (oi := { dst := some 40, op := Op.load 3 (Operand.tmp 39), type := 3, pos := "ref.go:121", after := #[{ on := 2, ground := Ground.data }], guard := none }) (v := ?vb_3) rfl (by kernel_rfl) (by kernel_rfl) (by kernel_rfl) (fun _ _ _ h => h) (Or.inl ⟨by rfl, ?yb_3⟩) (by assumption) ?tb_3
    case yb_3 => (intro w hSw; have h0 := box_cell hSw 5 (.int .i64 s.back) rfl); go_simp; try with_reducible rfl
    simp only [Act.put, List.setIfInBounds_toArray, List.set_cons_zero, List.set_cons_succ]
    refine wpAnyH_take (i := 7) (oi := { dst := some 44, op := Op.fieldAddr 55 (Operand.tmp 3) 6, type := 0, pos := "ref.go:121", after := #[], guard := none }) (v := ?vb_7) rfl (by kernel_rfl) (by kernel_rfl) (by kernel_rfl) (fun _ _ _ h => h) (Or.inl ⟨by rfl, ?yb_7⟩) (by assumption) ?tb_7
    case yb_7 => (intro w hSw; try dsimp only at hSw); go_simp; try with_reducible rfl
    simp only [Act.put, List.setIfInBounds_toArray, List.set_cons_zero, List.set_cons_succ]
    refine wpAnyH_take (i := 8) (oi := { dst := some 45, op := Op.load 3 (Operand.tmp 44), type := 3, pos := "ref.go:121", after := #[{ on := 7, ground := Ground.data }], guard := none }) (v := ?vb_8) rfl (by kernel_rfl) (by kernel_rfl) (by kernel_rfl) (fun _ _ _ h => h) (Or.inl ⟨by rfl, ?yb_8⟩) (by assumption) ?tb_8
    case yb_8 => (intro w hSw; have h0 := box_cell hSw 6 (.int .i64 s.limit) rfl); go_simp; try with_reducible rfl
    simp only [Act.put, List.setIfInBounds_toArray, List.set_cons_zero, List.set_cons_succ]
    refine wpAnyH_ready (rs := [4]) (by kernel_rfl) (by simp) ?_
    refine AllReadyH.cons (o := { dst := some 41, op := Op.call { callee := Callee.value (Operand.func 33), args := #[Operand.tmp 40], argTypes := #[3] }, type := 9, pos := "ref.go:121", after := #[{ on := 3, ground := Ground.data }], guard := none }) rfl (fun K hK => ?_) AllReadyH.nil
    go_simp
    refine (J7.out _).mono ?_; rintro e w8 ⟨rfl, g8⟩
    have L8 := Lib.hid (below_step L7.out g8)
    have hS8 := (g8.block w.heap.size (lt_of_block hHeld)).trans hHeld
    clear g8
    refine hK.out _ _ (hS8) (fun hHeld' => ?_)
    clear hK K hHeld
    have hHeld := hHeld'; clear hHeld'
    try simp only [Act.put, List.setIfInBounds_toArray, List.set_cons_zero, List.set_cons_succ]
    refine wpAnyH_take (i := 5) (oi := { dst := some 42, op := Op.binOp BinOp.add 9 (Operand.tmp 38) (Operand.tmp 41) 9, type := 9, pos := "ref.go:121", after := #[{ on := 1, ground := Ground.data }, { on := 4, ground := Ground.data }], guard := none }) (v := ?vb_5) rfl (by kernel_rfl) (by kernel_rfl) (by kernel_rfl) (fun _ _ _ h => h) (Or.inl ⟨by rfl, ?yb_5⟩) (by assumption) ?tb_5
    case yb_5 => (intro w hSw; try dsimp only at hSw); go_simp; try with_reducible rfl
    simp only [Act.put, List.setIfInBounds_toArray, List.set_cons_zero, List.set_cons_succ]
    refine wpAnyH_take (i := 6) (oi := { dst := some 43, op := Op.binOp BinOp.add 9 (Operand.tmp 42) (Operand.const (Value.string { data := #[32, 108, 105, 109, 105, 116, 32] })) 9, type := 9, pos := "ref.go:121", after := #[{ on := 5, ground := Ground.data }], guard := none }) (v := ?vb_6) rfl (by kernel_rfl) (by kernel_rfl) (by kernel_rfl) (fun _ _ _ h => h) (Or.inl ⟨by rfl, ?yb_6⟩) (by assumption) ?tb_6
    case yb_6 => (intro w hSw; try dsimp only at hSw); go_simp; try with_reducible rfl
    simp only [Act.put, List.setIfInBounds_toArray, List.set_cons_zero, List.set_cons_succ]
    refine wpAnyH_ready (rs := [9]) (by kernel_rfl) (by simp) ?_
    refine AllReadyH.cons (o := { dst := some 46, op := Op.call { callee := Callee.value (Operand.func 33), args := #[Operand.tmp 45], argTypes := #[3] }, type := 9, pos := "ref.go:121", after := #[{ on := 8, ground := Ground.data }, { on := 4, ground := Ground.chain }], guard := none }) rfl (fun K hK => ?_) AllReadyH.nil
    go_simp
    refine (J8.out _).mono ?_; rintro e w9 ⟨rfl, g9⟩
    have L9 := Lib.hid (below_step L8.out g9)
    have hS9 := (g9.block w.heap.size (lt_of_block hHeld)).trans hHeld
    clear g9
    refine hK.out _ _ (hS9) (fun hHeld' => ?_)
    clear hK K hHeld
    have hHeld := hHeld'; clear hHeld'
    try simp only [Act.put, List.setIfInBounds_toArray, List.set_cons_zero, List.set_cons_succ]
    refine wpAnyH_take (i := 10) (oi := { dst := some 47, op := Op.binOp BinOp.add 9 (Operand.tmp 43) (Operand.tmp 46) 9, type := 9, pos := "ref.go:121", after := #[{ on := 6, ground := Ground.data }, { on := 9, ground := Ground.data }], guard := none }) (v := ?vb_10) rfl (by kernel_rfl) (by kernel_rfl) (by kernel_rfl) (fun _ _ _ h => h) (Or.inl ⟨by rfl, ?yb_10⟩) (by assumption) ?tb_10
    case yb_10 => (intro w hSw; try dsimp only at hSw); go_simp; try with_reducible rfl
    simp only [Act.put, List.setIfInBounds_toArray, List.set_cons_zero, List.set_cons_succ]
    refine wpAnyH_take (i := 11) (oi := { dst := some 5, op := Op.assign (Operand.tmp 47), type := 9, pos := "ref.go:121", after := #[{ on := 10, ground := Ground.data }, { on := 9, ground := Ground.chain }, { on := 0, ground := Ground.phase }, { on := 1, ground := Ground.phase }, { on := 2, ground := Ground.phase }, { on := 3, ground := Ground.phase }, { on := 4, ground := Ground.phase }, { on := 5, ground := Ground.phase }, { on := 6, ground := Ground.phase }, { on := 7, ground := Ground.phase }, { on := 8, ground := Ground.phase }, { on := 9, ground := Ground.phase }, { on := 10, ground := Ground.phase }], guard := none }) (v := ?vb_11) rfl (by kernel_rfl) (by kernel_rfl) (by kernel_rfl) (fun _ _ _ h => h) (Or.inl ⟨by rfl, ?yb_11⟩) (by assumption) ?tb_11
    case yb_11 => (intro w hSw; try dsimp only at hSw); go_simp; try with_reducible rfl
    simp only [Act.put, List.setIfInBounds_toArray, List.set_cons_zero, List.set_cons_succ]
    refine wpAnyH_done (by kernel_rfl) ?_ _
    clear hHeld
    go_wp2_with fail
    go_ret
    exact ⟨by rw [HR.out]; rfl, L9.out⟩
end Go.Proofs.YtblnfcffalaeaaaGreatDoor
