/-
  Contracts of text and Print (written by tools/l04_text.py).
-/
import Derived.Test.YtcaclijkkbhfhaaGreatDoorText
namespace Go.Proofs.YtcaclijkkbhfhaaGreatDoor
open Go.RowKit Go.Shelf

theorem ok_moveLen {x y : Int} (h : Fl.vMoves x y = true) : (Fl.line (Fl.moveWords x y)).length ≤ 1000 := by
  have hv := Fl.vMoves_iff.1 h
  refine Fl.line_len (fun z hz => ?_) (by simp [Fl.moveWords])
  simp only [Fl.moveWords, List.mem_cons, List.not_mem_nil, or_false] at hz
  rcases hz with rfl | rfl
  · decide
  · exact Nat.le_trans (Fl.span_len (by omega) (by omega)) (by decide)
set_option maxRecDepth 100000 in
set_option maxHeartbeats 2000000 in
theorem text_any (q : FlowP) (w : World) (t : Addr) (ht : Tab t w) (hq : q.ok w) (hv : Fl.valid q.f = true) :
    Calls Tryz.prog 32 #[q.v] w fun e w' => e = .returned (.string (bs (Fl.text q.f))) ∧ Below w.heap.size w w' := by
  have ho := Fl.valid_iff.1 hv
  have hp40 : q.P.length ≤ 40 := by have := ho.len; simpa [FlowP.f] using this
  have hw20 : q.W.length ≤ 20 := ho.wlen
  have hsO : ∀ p ∈ q.P, Fl.StepOk 40 p.s := fun p hp => (ho.steps p.s (by simp only [FlowP.f]; exact List.mem_map.2 ⟨p, hp, rfl⟩)).mono (by simp only [FlowP.f, stepsOf_length]; omega)
  have hwO : ∀ v ∈ q.W, Fl.vWin 40 v = true := fun v hv' => Fl.vWin_mono (by simp only [FlowP.f, stepsOf_length]; omega) (Fl.vWinsFrom_all ho.wins v hv')
  have hT : Fl.text q.f = Fl.line (Fl.moveWords q.least q.most) ++ (Fl.stepShow (stepsOf q.P)).flatten ++ (q.W.map fun v => Fl.line (Fl.winWords v)).flatten := by
    unfold Fl.text; rw [Fl.stepLines_show]; rfl
  have C1 := Lib.hid (fun w ht => moveLine_any q.least q.most (.slice q.sa q.P.length q.sc) (.slice q.wa q.W.length q.wc) w t ht ho.moves)
  have C2 := Lib.hid (fun w ht hA => joinedStep_any q.P q.sa q.sc w t ht hA (by omega) hsO)
  have C3 := Lib.hid (fun w ht hA => joinedWin_any q.W q.wa q.wc w t ht hA (by omega) hwO)
  have l1 : (Fl.line (Fl.moveWords q.least q.most)).length ≤ 1000 := ok_moveLen ho.moves
  have l2 : (Fl.stepShow (stepsOf q.P)).flatten.length ≤ 40000 := by
    have hln : (Fl.stepShow (stepsOf q.P)).length ≤ 40 := by rw [Fl.stepShow_length]; simpa using hp40
    suffices hh : ∀ l ∈ Fl.stepShow (stepsOf q.P), l.length ≤ 1000 by
      have := Fl.flatten_len hh; omega
    intro l hl
    obtain ⟨i, hi, rfl⟩ := List.getElem_of_mem hl
    rw [Fl.stepShow_length] at hi
    rw [Fl.stepShow_get _ _ hi]
    have hi' : i < q.P.length := by simpa using hi
    exact Fl.stepLine_len ⟨by omega, by omega⟩ (c := 40) (by decide) (by simp; exact hsO _ (List.getElem_mem hi'))
  have l3 : (q.W.map fun v => Fl.line (Fl.winWords v)).flatten.length ≤ 20000 := by
    suffices hh : ∀ l ∈ (q.W.map fun v => Fl.line (Fl.winWords v)), l.length ≤ 1000 by
      have := Fl.flatten_len hh; rw [List.length_map] at this; omega
    intro l hl
    obtain ⟨v, hv', rfl⟩ := List.mem_map.1 hl
    exact Fl.winLine_len (c := 40) (by decide) (hwO v hv')
  rw [hT]
  generalize Fl.line (Fl.moveWords q.least q.most) = s1 at *
  generalize (Fl.stepShow (stepsOf q.P)).flatten = s2 at *
  generalize (q.W.map fun v => Fl.line (Fl.winWords v)).flatten = s3 at *
  have e1 := add_bs s1 s2 (by omega)
  have e2 := add_bs (s1 ++ s2) s3 (by simp; omega)
  generalize s1 ++ s2 = s4 at *
  have QK := Lib.hid hq
  have HB := Lib.hid (heap_alloc_new w (.cells #[.int .i64 q.least, .int .i64 q.most, .slice q.sa q.P.length q.sc, .slice q.wa q.W.length q.wc] 25))
  have LW := Lib.hid (below_new w (.cells #[.int .i64 q.least, .int .i64 q.most, .slice q.sa q.P.length q.sc, .slice q.wa q.W.length q.wc] 25))
  have TW := Lib.hid (ht.below LW.out)
  clear hT ho hv hp40 hw20 hsO hwO l1 l2 l3 ht hq
  unfold FlowP.v
  go_enter Tryz.func32, Tryz.ntmps32
  go_wp2_with fail
  generalize w.alloc (.cells #[.int .i64 q.least, .int .i64 q.most, .slice q.sa q.P.length q.sc, .slice q.wa q.W.length q.wc] 25) = w0 at *
  have L0 := Lib.hid (LW.out.drew); have T0 := Lib.hid (TW.out.below (Below.refl w0.heap.size w0).drew)
  clear LW TW
  refine wp_region_held_drew (S := (fun v => v.heap[w.heap.size]? = some (.cells #[.int .i64 q.least, .int .i64 q.most, .slice q.sa q.P.length q.sc, .slice q.wa q.W.length q.wc] 25))) (by kernel_rfl) (HB.out) (fun hHeld => ?_)
  refine wpAnyH_take (i := 0) (oi := { dst := some 3, op := Op.load 25 (Operand.tmp 1), type := 25, pos := "print.go:12", after := #[], guard := none }) (v := ?vt_0) rfl (by kernel_rfl) (by kernel_rfl) (by kernel_rfl) (fun _ _ _ h => h) (Or.inl ⟨by rfl, ?yt_0⟩) (by assumption) ?tt_0
  case yt_0 => (intro w hSw; have h0 := box_cell hSw 0 (.int .i64 q.least) rfl; have h1 := box_cell hSw 1 (.int .i64 q.most) rfl; have h2 := box_cell hSw 2 (.slice q.sa q.P.length q.sc) rfl; have h3 := box_cell hSw 3 (.slice q.wa q.W.length q.wc) rfl); go_simp; try with_reducible rfl
  simp only [Act.put, List.setIfInBounds_toArray, List.set_cons_zero, List.set_cons_succ]
  refine wpAnyH_take (i := 2) (oi := { dst := some 5, op := Op.fieldAddr 25 (Operand.tmp 1) 2, type := 0, pos := "print.go:12", after := #[], guard := none }) (v := ?vt_2) rfl (by kernel_rfl) (by kernel_rfl) (by kernel_rfl) (fun _ _ _ h => h) (Or.inl ⟨by rfl, ?yt_2⟩) (by assumption) ?tt_2
  case yt_2 => (intro w hSw; have h0 := box_cell hSw 0 (.int .i64 q.least) rfl; have h1 := box_cell hSw 1 (.int .i64 q.most) rfl; have h2 := box_cell hSw 2 (.slice q.sa q.P.length q.sc) rfl; have h3 := box_cell hSw 3 (.slice q.wa q.W.length q.wc) rfl); go_simp; try with_reducible rfl
  simp only [Act.put, List.setIfInBounds_toArray, List.set_cons_zero, List.set_cons_succ]
  refine wpAnyH_take (i := 3) (oi := { dst := some 6, op := Op.load 22 (Operand.tmp 5), type := 22, pos := "print.go:12", after := #[{ on := 2, ground := Ground.data }], guard := none }) (v := ?vt_3) rfl (by kernel_rfl) (by kernel_rfl) (by kernel_rfl) (fun _ _ _ h => h) (Or.inl ⟨by rfl, ?yt_3⟩) (by assumption) ?tt_3
  case yt_3 => (intro w hSw; have h0 := box_cell hSw 0 (.int .i64 q.least) rfl; have h1 := box_cell hSw 1 (.int .i64 q.most) rfl; have h2 := box_cell hSw 2 (.slice q.sa q.P.length q.sc) rfl; have h3 := box_cell hSw 3 (.slice q.wa q.W.length q.wc) rfl); go_simp; try with_reducible rfl
  simp only [Act.put, List.setIfInBounds_toArray, List.set_cons_zero, List.set_cons_succ]
  refine wpAnyH_take (i := 6) (oi := { dst := some 9, op := Op.fieldAddr 25 (Operand.tmp 1) 3, type := 0, pos := "print.go:12", after := #[], guard := none }) (v := ?vt_6) rfl (by kernel_rfl) (by kernel_rfl) (by kernel_rfl) (fun _ _ _ h => h) (Or.inl ⟨by rfl, ?yt_6⟩) (by assumption) ?tt_6
  case yt_6 => (intro w hSw; have h0 := box_cell hSw 0 (.int .i64 q.least) rfl; have h1 := box_cell hSw 1 (.int .i64 q.most) rfl; have h2 := box_cell hSw 2 (.slice q.sa q.P.length q.sc) rfl; have h3 := box_cell hSw 3 (.slice q.wa q.W.length q.wc) rfl); go_simp; try with_reducible rfl
  simp only [Act.put, List.setIfInBounds_toArray, List.set_cons_zero, List.set_cons_succ]
  refine wpAnyH_take (i := 7) (oi := { dst := some 10, op := Op.load 23 (Operand.tmp 9), type := 23, pos := "print.go:12", after := #[{ on := 6, ground := Ground.data }], guard := none }) (v := ?vt_7) rfl (by kernel_rfl) (by kernel_rfl) (by kernel_rfl) (fun _ _ _ h => h) (Or.inl ⟨by rfl, ?yt_7⟩) (by assumption) ?tt_7
  case yt_7 => (intro w hSw; have h0 := box_cell hSw 0 (.int .i64 q.least) rfl; have h1 := box_cell hSw 1 (.int .i64 q.most) rfl; have h2 := box_cell hSw 2 (.slice q.sa q.P.length q.sc) rfl; have h3 := box_cell hSw 3 (.slice q.wa q.W.length q.wc) rfl); go_simp; try with_reducible rfl
  simp only [Act.put, List.setIfInBounds_toArray, List.set_cons_zero, List.set_cons_succ]
  refine wpAnyH_ready (rs := [1]) (by kernel_rfl) (by simp) ?_
  refine AllReadyH.cons (o := { dst := some 4, op := Op.call { callee := Callee.value (Operand.func 53), args := #[Operand.tmp 3], argTypes := #[25] }, type := 9, pos := "print.go:12", after := #[{ on := 0, ground := Ground.data }], guard := none }) rfl (fun K hK => ?_) AllReadyH.nil
  go_simp
  refine (C1.out _ (T0.out)).mono ?_; rintro e w1 ⟨rfl, g1⟩
  have L1 := Lib.hid (below_step L0.out g1); have T1 := Lib.hid (T0.out.below g1)
  have hS1 := (g1.block w.heap.size (lt_of_block hHeld)).trans hHeld
  clear g1
  refine hK.out _ _ (hS1) (fun hHeld' => ?_)
  clear hK K hHeld
  have hHeld := hHeld'; clear hHeld'
  try simp only [Act.put, List.setIfInBounds_toArray, List.set_cons_zero, List.set_cons_succ]
  refine wpAnyH_ready (rs := [4]) (by kernel_rfl) (by simp) ?_
  refine AllReadyH.cons (o := { dst := some 7, op := Op.call { callee := Callee.value (Operand.func 54), args := #[Operand.tmp 6, Operand.const (Value.string { data := #[] }), Operand.func 55], argTypes := #[22, 9, 53] }, type := 9, pos := "print.go:12", after := #[{ on := 3, ground := Ground.data }, { on := 1, ground := Ground.chain }], guard := none }) rfl (fun K hK => ?_) AllReadyH.nil
  go_simp
  refine (C2.out _ (T1.out) (QK.out.below L1.out).1).mono ?_; rintro e w2 ⟨rfl, g2⟩
  have L2 := Lib.hid (below_step L1.out g2); have T2 := Lib.hid (T1.out.below g2)
  have hS2 := (g2.block w.heap.size (lt_of_block hHeld)).trans hHeld
  clear g2
  refine hK.out _ _ (hS2) (fun hHeld' => ?_)
  clear hK K hHeld
  have hHeld := hHeld'; clear hHeld'
  try simp only [Act.put, List.setIfInBounds_toArray, List.set_cons_zero, List.set_cons_succ]
  refine wpAnyH_take (i := 5) (oi := { dst := some 8, op := Op.binOp BinOp.add 9 (Operand.tmp 4) (Operand.tmp 7) 9, type := 9, pos := "print.go:12", after := #[{ on := 1, ground := Ground.data }, { on := 4, ground := Ground.data }], guard := none }) (v := ?vt_5) rfl (by kernel_rfl) (by kernel_rfl) (by kernel_rfl) (fun _ _ _ h => h) (Or.inl ⟨by rfl, ?yt_5⟩) (by assumption) ?tt_5
  case yt_5 => (intro w hSw; have h0 := box_cell hSw 0 (.int .i64 q.least) rfl; have h1 := box_cell hSw 1 (.int .i64 q.most) rfl; have h2 := box_cell hSw 2 (.slice q.sa q.P.length q.sc) rfl; have h3 := box_cell hSw 3 (.slice q.wa q.W.length q.wc) rfl); go_simp; try with_reducible rfl
  simp only [Act.put, List.setIfInBounds_toArray, List.set_cons_zero, List.set_cons_succ]
  refine wpAnyH_ready (rs := [8]) (by kernel_rfl) (by simp) ?_
  refine AllReadyH.cons (o := { dst := some 11, op := Op.call { callee := Callee.value (Operand.func 56), args := #[Operand.tmp 10, Operand.const (Value.string { data := #[] }), Operand.func 57], argTypes := #[23, 9, 89] }, type := 9, pos := "print.go:12", after := #[{ on := 7, ground := Ground.data }, { on := 4, ground := Ground.chain }], guard := none }) rfl (fun K hK => ?_) AllReadyH.nil
  go_simp
  refine (C3.out _ (T2.out) (QK.out.below L2.out).2).mono ?_; rintro e w3 ⟨rfl, g3⟩
  have L3 := Lib.hid (below_step L2.out g3); have T3 := Lib.hid (T2.out.below g3)
  have hS3 := (g3.block w.heap.size (lt_of_block hHeld)).trans hHeld
  clear g3
  refine hK.out _ _ (hS3) (fun hHeld' => ?_)
  clear hK K hHeld
  have hHeld := hHeld'; clear hHeld'
  try simp only [Act.put, List.setIfInBounds_toArray, List.set_cons_zero, List.set_cons_succ]
  refine wpAnyH_take (i := 9) (oi := { dst := some 12, op := Op.binOp BinOp.add 9 (Operand.tmp 8) (Operand.tmp 11) 9, type := 9, pos := "print.go:12", after := #[{ on := 5, ground := Ground.data }, { on := 8, ground := Ground.data }], guard := none }) (v := ?vt_9) rfl (by kernel_rfl) (by kernel_rfl) (by kernel_rfl) (fun _ _ _ h => h) (Or.inl ⟨by rfl, ?yt_9⟩) (by assumption) ?tt_9
  case yt_9 => (intro w hSw; have h0 := box_cell hSw 0 (.int .i64 q.least) rfl; have h1 := box_cell hSw 1 (.int .i64 q.most) rfl; have h2 := box_cell hSw 2 (.slice q.sa q.P.length q.sc) rfl; have h3 := box_cell hSw 3 (.slice q.wa q.W.length q.wc) rfl); go_simp; try with_reducible rfl
  simp only [Act.put, List.setIfInBounds_toArray, List.set_cons_zero, List.set_cons_succ]
  refine wpAnyH_take (i := 10) (oi := { dst := some 2, op := Op.assign (Operand.tmp 12), type := 9, pos := "print.go:12", after := #[{ on := 9, ground := Ground.data }, { on := 8, ground := Ground.chain }, { on := 0, ground := Ground.phase }, { on := 1, ground := Ground.phase }, { on := 2, ground := Ground.phase }, { on := 3, ground := Ground.phase }, { on := 4, ground := Ground.phase }, { on := 5, ground := Ground.phase }, { on := 6, ground := Ground.phase }, { on := 7, ground := Ground.phase }, { on := 8, ground := Ground.phase }, { on := 9, ground := Ground.phase }], guard := none }) (v := ?vt_10) rfl (by kernel_rfl) (by kernel_rfl) (by kernel_rfl) (fun _ _ _ h => h) (Or.inl ⟨by rfl, ?yt_10⟩) (by assumption) ?tt_10
  case yt_10 => (intro w hSw; have h0 := box_cell hSw 0 (.int .i64 q.least) rfl; have h1 := box_cell hSw 1 (.int .i64 q.most) rfl; have h2 := box_cell hSw 2 (.slice q.sa q.P.length q.sc) rfl; have h3 := box_cell hSw 3 (.slice q.wa q.W.length q.wc) rfl); go_simp; try with_reducible rfl
  simp only [Act.put, List.setIfInBounds_toArray, List.set_cons_zero, List.set_cons_succ]
  refine wpAnyH_done (by kernel_rfl) ?_ _
  clear hHeld e1 e2
  go_wp2_with fail
  go_ret
  exact ⟨rfl, L3.out⟩
/-- What Print answers. -/
def printS (f : Fl.Flow) : List UInt8 := if Fl.valid f = true then Fl.text f else []
def printE (f : Fl.Flow) : Int := if Fl.valid f = true then 0 else 40
set_option maxRecDepth 100000 in
theorem Print_any (q : FlowP) (w : World) (t : Addr) (ht : Tab t w) (hq : q.ok w) :
    Calls Tryz.prog 16 #[q.v] w fun e w' => e = .returned (.tuple #[.string (bs (printS q.f)), .int .i64 (printE q.f)]) ∧ Below w.heap.size w w' := by
  have hn := below_new w (.cells #[.int .i64 q.least, .int .i64 q.most, .slice q.sa q.P.length q.sc, .slice q.wa q.W.length q.wc] 25)
  have F0 := Lib.hid (FlowBox.new w q)
  have L0 := Lib.hid hn
  have hV := Valid_any q _ (hq.below hn)
  have QK := Lib.hid hq; have HT := Lib.hid ht
  rcases hv : Fl.valid q.f with _ | _
  · have e1 : printS q.f = [] := by unfold printS; rw [if_neg (by rw [hv]; decide)]
    have e2 : printE q.f = 40 := by unfold printE; rw [if_neg (by rw [hv]; decide)]
    rw [e1, e2]
    rw [hv] at hV
    have HV := Lib.hid hV
    clear hV hv e1 e2 hn ht hq
    unfold FlowP.v at *
    go_enter Tryz.func16, Tryz.ntmps16
    go_wp2_with fail
    refine HV.out.mono ?_; rintro e w1 ⟨rfl, g1⟩
    have L1 := Lib.hid (below_step L0.out g1); clear g1
    go_wp2_with fail
    go_ret2
    exact ⟨rfl, L1.out⟩
  · have e1 : printS q.f = Fl.text q.f := by unfold printS; rw [if_pos hv]
    have e2 : printE q.f = 0 := by unfold printE; rw [if_pos hv]
    rw [e1, e2]
    have HX := Lib.hid (fun w ht hq => text_any q w t ht hq hv)
    rw [hv] at hV
    have HV := Lib.hid hV
    clear hV hv e1 e2 hn ht hq
    unfold FlowP.v at *
    go_enter Tryz.func16, Tryz.ntmps16
    go_wp2_with fail
    refine HV.out.mono ?_; rintro e w1 ⟨rfl, g1⟩
    have L1 := Lib.hid (below_step L0.out g1)
    obtain ⟨-, c0, c1, c2, c3⟩ := F0.out.below g1
    clear g1
    go_wp2_with fail
    clear c0 c1 c2 c3
    refine (HX.out _ (HT.out.below L1.out) (QK.out.below L1.out)).mono ?_; rintro e w2 ⟨rfl, g2⟩
    have L2 := Lib.hid (below_step L1.out g2); clear g2
    go_wp2_with fail
    go_ret2
    exact ⟨rfl, L2.out⟩
end Go.Proofs.YtcaclijkkbhfhaaGreatDoor
