/-
  Contracts of windowLine, stepLine and moveLine (written by tools/l04_lines.py).
-/
import Derived.Test.YtcaclijkkbhfhaaGreatDoorPrn
import Derived.Deep.RegionHeld3
namespace Go.Proofs.YtcaclijkkbhfhaaGreatDoor
open Go.RowKit Go.Shelf

theorem strA_lit (w : World) (ws : List (List UInt8)) (cs : Array Value) (hcs : cs = (ws.map fun x => Value.string (bs x)).toArray) (hn : ws.length ≤ 100) :
    StrA (w.alloc (.cells cs 9)) (some ⟨w.heap.size, 0, none⟩) ws.length (ws.map bs) := by
  refine ⟨by simp, by unfold maxLen; omega, fun i hi => ⟨w.heap.size, 0, rfl, by simp, ?_⟩⟩
  have hi' : i < ws.length := by simpa using hi
  refine box_cell (heap_alloc_new w _) (0 + i) _ ?_
  rw [hcs, List.getElem?_toArray, Nat.zero_add]; simp [hi']

set_option maxRecDepth 100000 in
set_option maxHeartbeats 2000000 in
theorem windowLine_any (i : Int) (v : Fl.Win) (w : World) (t : Addr) (ht : Tab t w) (hv : Fl.vWin 40 v = true) :
    Calls Tryz.prog 57 #[.int .i64 i, winV v] w fun e w' => e = .returned (.string (bs (Fl.line (Fl.winWords v)))) ∧ Below w.heap.size w w' := by
  have hv' := Fl.vWin_iff.1 hv
  have hwl := Fl.winWords_len (c := 40) (by decide) hv
  obtain ⟨src, dst, limit⟩ := v
  simp only at hv'
  have HWL := Lib.hid hwl
  have I1 := Lib.hid (fun w ht => itoa_any src w t ht ⟨by omega, by omega⟩)
  have I2 := Lib.hid (fun w ht => itoa_any dst w t ht ⟨by omega, by omega⟩)
  have I3 := Lib.hid (fun w ht => itoa_any limit w t ht ⟨by omega, by omega⟩)
  have HB := Lib.hid (heap_alloc_new w (.cells #[.int .i64 src, .int .i64 dst, .int .i64 limit] 58))
  have L0 := Lib.hid (below_new w (.cells #[.int .i64 src, .int .i64 dst, .int .i64 limit] 58))
  have T0 := Lib.hid (ht.below L0.out)
  unfold winV
  simp only
  clear ht hv hv' hwl
  go_enter Tryz.func57, Tryz.ntmps57
  go_wp2_with fail
  have HSZ := Lib.hid (show w.heap.size < (w.alloc (.cells #[.int .i64 src, .int .i64 dst, .int .i64 limit] 58)).heap.size by simp)
  generalize w.alloc (.cells #[.int .i64 src, .int .i64 dst, .int .i64 limit] 58) = w0 at *
  have LD := Lib.hid (L0.out.drew); have TD := Lib.hid (T0.out.below (Below.refl w0.heap.size w0).drew)
  clear L0 T0
  have L0 := LD; have T0 := TD; clear LD TD
  refine wp_region_held_drew (S := (fun v => v.heap[w.heap.size]? = some (.cells #[.int .i64 src, .int .i64 dst, .int .i64 limit] 58))) (by kernel_rfl) (HB.out) (fun hHeld => ?_)
  refine wpAnyH_take (i := 0) (oi := { dst := some 5, op := Op.fieldAddr 58 (Operand.tmp 3) 0, type := 0, pos := "print.go:37", after := #[], guard := none }) (v := ?vw_0) rfl (by kernel_rfl) (by kernel_rfl) (by kernel_rfl) (fun _ _ _ h => h) (Or.inl ⟨by rfl, ?yw_0⟩) (by assumption) ?tw_0
  case yw_0 => (intro w hSw; try dsimp only at hSw); go_simp; try with_reducible rfl
  simp only [Act.put, List.setIfInBounds_toArray, List.set_cons_zero, List.set_cons_succ]
  refine wpAnyH_take (i := 1) (oi := { dst := some 6, op := Op.load 3 (Operand.tmp 5), type := 3, pos := "print.go:37", after := #[{ on := 0, ground := Ground.data }], guard := none }) (v := ?vw_1) rfl (by kernel_rfl) (by kernel_rfl) (by kernel_rfl) (fun _ _ _ h => h) (Or.inl ⟨by rfl, ?yw_1⟩) (by assumption) ?tw_1
  case yw_1 => (intro w hSw; have h0 := box_cell hSw 0 (.int .i64 src) rfl); go_simp; try with_reducible rfl
  simp only [Act.put, List.setIfInBounds_toArray, List.set_cons_zero, List.set_cons_succ]
  refine wpAnyH_take (i := 3) (oi := { dst := some 8, op := Op.fieldAddr 58 (Operand.tmp 3) 1, type := 0, pos := "print.go:37", after := #[], guard := none }) (v := ?vw_3) rfl (by kernel_rfl) (by kernel_rfl) (by kernel_rfl) (fun _ _ _ h => h) (Or.inl ⟨by rfl, ?yw_3⟩) (by assumption) ?tw_3
  case yw_3 => (intro w hSw; try dsimp only at hSw); go_simp; try with_reducible rfl
  simp only [Act.put, List.setIfInBounds_toArray, List.set_cons_zero, List.set_cons_succ]
  refine wpAnyH_take (i := 4) (oi := { dst := some 9, op := Op.load 3 (Operand.tmp 8), type := 3, pos := "print.go:37", after := #[{ on := 3, ground := Ground.data }], guard := none }) (v := ?vw_4) rfl (by kernel_rfl) (by kernel_rfl) (by kernel_rfl) (fun _ _ _ h => h) (Or.inl ⟨by rfl, ?yw_4⟩) (by assumption) ?tw_4
  case yw_4 => (intro w hSw; have h0 := box_cell hSw 1 (.int .i64 dst) rfl); go_simp; try with_reducible rfl
  simp only [Act.put, List.setIfInBounds_toArray, List.set_cons_zero, List.set_cons_succ]
  refine wpAnyH_take (i := 6) (oi := { dst := some 11, op := Op.fieldAddr 58 (Operand.tmp 3) 2, type := 0, pos := "print.go:37", after := #[], guard := none }) (v := ?vw_6) rfl (by kernel_rfl) (by kernel_rfl) (by kernel_rfl) (fun _ _ _ h => h) (Or.inl ⟨by rfl, ?yw_6⟩) (by assumption) ?tw_6
  case yw_6 => (intro w hSw; try dsimp only at hSw); go_simp; try with_reducible rfl
  simp only [Act.put, List.setIfInBounds_toArray, List.set_cons_zero, List.set_cons_succ]
  refine wpAnyH_take (i := 7) (oi := { dst := some 12, op := Op.load 3 (Operand.tmp 11), type := 3, pos := "print.go:37", after := #[{ on := 6, ground := Ground.data }], guard := none }) (v := ?vw_7) rfl (by kernel_rfl) (by kernel_rfl) (by kernel_rfl) (fun _ _ _ h => h) (Or.inl ⟨by rfl, ?yw_7⟩) (by assumption) ?tw_7
  case yw_7 => (intro w hSw; have h0 := box_cell hSw 2 (.int .i64 limit) rfl); go_simp; try with_reducible rfl
  simp only [Act.put, List.setIfInBounds_toArray, List.set_cons_zero, List.set_cons_succ]
  refine wpAnyH_ready (rs := [2]) (by kernel_rfl) (by simp) ?_
  refine AllReadyH.cons (o := { dst := some 7, op := Op.call { callee := Callee.value (Operand.func 76), args := #[Operand.tmp 6], argTypes := #[3] }, type := 9, pos := "print.go:37", after := #[{ on := 1, ground := Ground.data }], guard := none }) rfl (fun K hK => ?_) AllReadyH.nil
  go_simp
  refine (I1.out _ (T0.out)).mono ?_; rintro e w1 ⟨rfl, g1⟩
  have L1 := Lib.hid (below_step L0.out g1); have T1 := Lib.hid (T0.out.below g1)
  have hS1 := (g1.block w.heap.size (lt_of_block hHeld)).trans hHeld
  clear g1
  refine hK.out _ _ (hS1) (fun hHeld' => ?_)
  clear hK K hHeld
  have hHeld := hHeld'; clear hHeld'
  try simp only [Act.put, List.setIfInBounds_toArray, List.set_cons_zero, List.set_cons_succ]
  refine wpAnyH_ready (rs := [5]) (by kernel_rfl) (by simp) ?_
  refine AllReadyH.cons (o := { dst := some 10, op := Op.call { callee := Callee.value (Operand.func 76), args := #[Operand.tmp 9], argTypes := #[3] }, type := 9, pos := "print.go:37", after := #[{ on := 4, ground := Ground.data }, { on := 2, ground := Ground.chain }], guard := none }) rfl (fun K hK => ?_) AllReadyH.nil
  go_simp
  refine (I2.out _ (T1.out)).mono ?_; rintro e w2 ⟨rfl, g2⟩
  have L2 := Lib.hid (below_step L1.out g2); have T2 := Lib.hid (T1.out.below g2)
  have hS2 := (g2.block w.heap.size (lt_of_block hHeld)).trans hHeld
  clear g2
  refine hK.out _ _ (hS2) (fun hHeld' => ?_)
  clear hK K hHeld
  have hHeld := hHeld'; clear hHeld'
  try simp only [Act.put, List.setIfInBounds_toArray, List.set_cons_zero, List.set_cons_succ]
  refine wpAnyH_ready (rs := [8]) (by kernel_rfl) (by simp) ?_
  refine AllReadyH.cons (o := { dst := some 13, op := Op.call { callee := Callee.value (Operand.func 76), args := #[Operand.tmp 12], argTypes := #[3] }, type := 9, pos := "print.go:37", after := #[{ on := 7, ground := Ground.data }, { on := 5, ground := Ground.chain }], guard := none }) rfl (fun K hK => ?_) AllReadyH.nil
  go_simp
  refine (I3.out _ (T2.out)).mono ?_; rintro e w3 ⟨rfl, g3⟩
  have L3 := Lib.hid (below_step L2.out g3); have T3 := Lib.hid (T2.out.below g3)
  have hS3 := (g3.block w.heap.size (lt_of_block hHeld)).trans hHeld
  clear g3
  refine hK.out _ _ (hS3) (fun hHeld' => ?_)
  clear hK K hHeld
  have hHeld := hHeld'; clear hHeld'
  try simp only [Act.put, List.setIfInBounds_toArray, List.set_cons_zero, List.set_cons_succ]
  refine wpAnyH_ready (rs := [9]) (by kernel_rfl) (by simp) ?_
  refine AllReadyH.cons (o := { dst := some 14, op := Op.buildSlice 40 4 #[(0, Operand.const (Value.string { data := #[119, 105, 110, 100, 111, 119] })), (1, Operand.tmp 7), (2, Operand.tmp 10), (3, Operand.tmp 13)], type := 40, pos := "print.go:37", after := #[{ on := 2, ground := Ground.data }, { on := 5, ground := Ground.data }, { on := 8, ground := Ground.data }], guard := none }) rfl (fun K hK => ?_) AllReadyH.nil
  go_simp
  have hA := strA_lit w3 (Fl.winWords ⟨src, dst, limit⟩) _ rfl (by simp [Fl.winWords])
  have HA := Lib.hid hA; have hN := below_new w3 (.cells ((Fl.winWords ⟨src, dst, limit⟩).map fun x => Value.string (bs x)).toArray 9)
  have L4 := Lib.hid (below_step L3.out hN)
  have HZ4 := Lib.hid (show w3.heap.size < (w3.alloc (.cells ((Fl.winWords ⟨src, dst, limit⟩).map fun x => Value.string (bs x)).toArray 9)).heap.size by simp)
  have hS4 := (hN.block w.heap.size (lt_of_block hHeld)).trans hHeld
  clear hA hN
  refine hK.out _ _ (hS4) (fun hHeld' => ?_)
  clear hK K hHeld
  have hHeld := hHeld'; clear hHeld'
  try simp only [Act.put, List.setIfInBounds_toArray, List.set_cons_zero, List.set_cons_succ]
  refine wpAnyH_ready (rs := [10]) (by kernel_rfl) (by simp) ?_
  refine AllReadyH.cons (o := { dst := some 15, op := Op.call { callee := Callee.value (Operand.func 72), args := #[Operand.tmp 14], argTypes := #[40] }, type := 9, pos := "print.go:37", after := #[{ on := 9, ground := Ground.data }, { on := 8, ground := Ground.chain }], guard := none }) rfl (fun K hK => ?_) AllReadyH.nil
  go_simp
  refine (lineOf_any (Fl.winWords ⟨src, dst, limit⟩) _ _ _ _ HA.out HZ4.out HWL.out (by simp [Fl.winWords])).mono ?_; rintro e w5 ⟨rfl, g5⟩
  have L5 := Lib.hid (below_step L4.out g5)
  have hS5 := (g5.block w.heap.size (lt_of_block hHeld)).trans hHeld
  clear g5
  refine hK.out _ _ (hS5) (fun hHeld' => ?_)
  clear hK K hHeld
  have hHeld := hHeld'; clear hHeld'
  try simp only [Act.put, List.setIfInBounds_toArray, List.set_cons_zero, List.set_cons_succ]
  refine wpAnyH_take (i := 11) (oi := { dst := some 4, op := Op.assign (Operand.tmp 15), type := 9, pos := "print.go:37", after := #[{ on := 10, ground := Ground.data }, { on := 10, ground := Ground.chain }, { on := 0, ground := Ground.phase }, { on := 1, ground := Ground.phase }, { on := 2, ground := Ground.phase }, { on := 3, ground := Ground.phase }, { on := 4, ground := Ground.phase }, { on := 5, ground := Ground.phase }, { on := 6, ground := Ground.phase }, { on := 7, ground := Ground.phase }, { on := 8, ground := Ground.phase }, { on := 9, ground := Ground.phase }, { on := 10, ground := Ground.phase }], guard := none }) (v := ?vw_11) rfl (by kernel_rfl) (by kernel_rfl) (by kernel_rfl) (fun _ _ _ h => h) (Or.inl ⟨by rfl, ?yw_11⟩) (by assumption) ?tw_11
  case yw_11 => (intro w hSw; try dsimp only at hSw); go_simp; try with_reducible rfl
  simp only [Act.put, List.setIfInBounds_toArray, List.set_cons_zero, List.set_cons_succ]
  refine wpAnyH_done (by kernel_rfl) ?_ _
  clear hHeld
  go_wp2_with fail
  go_ret
  exact ⟨rfl, L5.out⟩

/-- Strings as values. -/
def strRow (ws : List (List UInt8)) : List Value := ws.map fun x => Value.string (bs x)
theorem strRow_one (ws : List (List UInt8)) : ∀ u ∈ strRow ws, u.oneCell' = true := fun u hu => by
  unfold strRow at hu; obtain ⟨s, _, rfl⟩ := List.mem_map.1 hu; simp [Value.oneCell']
theorem own_lit (w : World) (ws : List (List UInt8)) (n : Nat) (hn : ws.length = n) (h : n ≤ 100) : (w.alloc (.cells (strRow ws).toArray 9)).ownsRow w.heap.size 9 1 (.slice (some ⟨w.heap.size, 0, none⟩) n n) n (strRow ws) := by
  have hl : (strRow ws).length = n := by unfold strRow; rw [List.length_map, hn]
  exact ⟨by omega, .inr ⟨w.heap.size, n, (strRow ws).toArray, rfl, Nat.le_refl _, heap_alloc_new w _, Nat.le_refl _, by unfold maxLen; omega, by simp [hl], by simp; rw [← hl, List.take_length]⟩⟩
theorem strA_own {w : World} {B : Nat} {a : Option Addr} {n c : Nat} {ws : List (List UInt8)} (hn : ws.length = n) (h : w.ownsRow B 9 1 (.slice a n c) n (strRow ws)) : StrA w a c (ws.map bs) := by
  obtain ⟨a', c', e, h1, h2, h3⟩ := own_slice h
  injection e with e1 e2 e3; subst e1; subst e3
  refine ⟨by simp; omega, h2, fun i hi => ?_⟩
  have hi' : i < ws.length := by simpa using hi
  obtain ⟨g, rfl, hg, hc⟩ := h3 (by omega)
  exact ⟨g, 0, rfl, hg, hc i _ (by unfold strRow; simp [hi'])⟩
theorem info_str : (Tryz.prog.info? 9).map (fun i => (i.zero, i.size, i.bytes)) = some (some (.string ⟨#[]⟩), 1, 16) := by kernel_rfl
def headWords (n : Int) (s : Fl.Step) : List (List UInt8) := [Fl.wStep, Lib.itoa n, Fl.wRecipe, Lib.itoa s.recipe, Fl.wTools, Fl.nums s.tools, Fl.wTime, Fl.span s.least s.most, Fl.wNext, Fl.nums s.next]
def tailWords (s : Fl.Step) : List (List UInt8) := [Fl.wBack, Lib.itoa s.back, Fl.wLimit, Lib.itoa s.limit]
theorem stepWords_back {n : Int} {s : Fl.Step} (h : s.back = -1) : Fl.stepWords n s = headWords n s := by unfold Fl.stepWords headWords; rw [if_pos h, List.append_nil]
theorem stepWords_more {n : Int} {s : Fl.Step} (h : ¬ s.back = -1) : Fl.stepWords n s = headWords n s ++ tailWords s := by unfold Fl.stepWords headWords tailWords; rw [if_neg h]

set_option maxRecDepth 100000 in
set_option maxHeartbeats 4000000 in
theorem stepLine_any (n : Int) (p : StepP) (w : World) (t : Addr) (ht : Tab t w) (hp : p.ok w) (hs : Fl.StepOk 40 p.s) (hn : 0 ≤ n ∧ n ≤ 1000) :
    Calls Tryz.prog 55 #[.int .i64 n, p.v] w fun e w' => e = .returned (.string (bs (Fl.line (Fl.stepWords n p.s)))) ∧ Below w.heap.size w w' := by
  have hwl := Fl.stepWords_len hn (c := 40) (by decide) hs
  have hnn := Fl.stepWords_length n p.s
  have htl := Fl.asc_nonneg (by omega) hs.asct
  have hxl := Fl.asc_nonneg (by omega) hs.ascn
  obtain ⟨s, ta, tc, na, nc⟩ := p
  obtain ⟨tk, nk⟩ := hp
  simp only at hwl hnn htl hxl hs tk nk
  have HWL := Lib.hid (And.intro hwl hnn)
  have I1 := Lib.hid (fun w ht => itoa_any n w t ht ⟨by omega, by omega⟩)
  have I2 := Lib.hid (fun w ht => itoa_any s.recipe w t ht ⟨by have := hs.recipe; omega, by have := hs.recipe; omega⟩)
  have I3 := Lib.hid (fun w ht hA => numberList_any s.tools ta tc w t ht hA (by have := hs.tools; omega) (fun x hx => ⟨(htl x hx).1, by have := (htl x hx).2; omega⟩))
  have I4 := Lib.hid (fun w ht => span_any s.least s.most w t ht ⟨by have := hs.least; omega, by have := hs.least; have := hs.most; omega⟩ ⟨by have := hs.least; omega, by have := hs.most; omega⟩)
  have I5 := Lib.hid (fun w ht hA => numberList_any s.next na nc w t ht hA (by have := hs.next; omega) (fun x hx => ⟨(hxl x hx).1, by have := (hxl x hx).2; omega⟩))
  have I6 := Lib.hid (fun w ht => itoa_any s.back w t ht ⟨by rcases hs.back with h | h <;> omega, by rcases hs.back with h | h <;> omega⟩)
  have I7 := Lib.hid (fun w ht => itoa_any s.limit w t ht ⟨by rcases hs.back with h | h <;> omega, by rcases hs.back with h | h <;> omega⟩)
  have HB := Lib.hid (heap_alloc_new w (.cells #[.int .i64 s.recipe, .slice ta s.tools.length tc, .int .i64 s.least, .int .i64 s.most, .slice na s.next.length nc, .int .i64 s.back, .int .i64 s.limit] 55))
  have LW := Lib.hid (below_new w (.cells #[.int .i64 s.recipe, .slice ta s.tools.length tc, .int .i64 s.least, .int .i64 s.most, .slice na s.next.length nc, .int .i64 s.back, .int .i64 s.limit] 55))
  have TW := Lib.hid (ht.below LW.out)
  have TK := Lib.hid tk; have NK := Lib.hid nk
  unfold StepP.v
  simp only
  clear ht hs hwl hnn htl hxl tk nk hn
  go_enter Tryz.func55, Tryz.ntmps55
  go_wp2_with fail
  generalize w.alloc (.cells #[.int .i64 s.recipe, .slice ta s.tools.length tc, .int .i64 s.least, .int .i64 s.most, .slice na s.next.length nc, .int .i64 s.back, .int .i64 s.limit] 55) = w0 at *
  have L0 := Lib.hid (LW.out.drew); have T0 := Lib.hid (TW.out.below (Below.refl w0.heap.size w0).drew)
  obtain ⟨i0, hi, hz0, hz1, hz2⟩ := info_parts info_str
  refine wp_region_held_drew (S := (fun v => v.heap[w.heap.size]? = some (.cells #[.int .i64 s.recipe, .slice ta s.tools.length tc, .int .i64 s.least, .int .i64 s.most, .slice na s.next.length nc, .int .i64 s.back, .int .i64 s.limit] 55))) (by kernel_rfl) (HB.out) (fun hHeld => ?_)
  refine wpAnyH_take (i := 0) (oi := { dst := some 6, op := Op.move (Operand.tmp 0), type := 3, pos := "print.go:22", after := #[], guard := none }) (v := ?vs_0) rfl (by kernel_rfl) (by kernel_rfl) (by kernel_rfl) (fun _ _ _ h => h) (Or.inl ⟨by rfl, ?ys_0⟩) (by assumption) ?ts_0
  case ys_0 => (intro w hSw; try dsimp only at hSw); go_simp; try with_reducible rfl
  simp only [Act.put, List.setIfInBounds_toArray, List.set_cons_zero, List.set_cons_succ]
  refine wpAnyH_take (i := 2) (oi := { dst := some 8, op := Op.fieldAddr 55 (Operand.tmp 3) 0, type := 0, pos := "print.go:22", after := #[], guard := none }) (v := ?vs_2) rfl (by kernel_rfl) (by kernel_rfl) (by kernel_rfl) (fun _ _ _ h => h) (Or.inl ⟨by rfl, ?ys_2⟩) (by assumption) ?ts_2
  case ys_2 => (intro w hSw; try dsimp only at hSw); go_simp; try with_reducible rfl
  simp only [Act.put, List.setIfInBounds_toArray, List.set_cons_zero, List.set_cons_succ]
  refine wpAnyH_take (i := 3) (oi := { dst := some 9, op := Op.load 3 (Operand.tmp 8), type := 3, pos := "print.go:22", after := #[{ on := 2, ground := Ground.data }], guard := none }) (v := ?vs_3) rfl (by kernel_rfl) (by kernel_rfl) (by kernel_rfl) (fun _ _ _ h => h) (Or.inl ⟨by rfl, ?ys_3⟩) (by assumption) ?ts_3
  case ys_3 => (intro w hSw; have h0 := box_cell hSw 0 (.int .i64 s.recipe) rfl); go_simp; try with_reducible rfl
  simp only [Act.put, List.setIfInBounds_toArray, List.set_cons_zero, List.set_cons_succ]
  refine wpAnyH_take (i := 5) (oi := { dst := some 11, op := Op.fieldAddr 55 (Operand.tmp 3) 1, type := 0, pos := "print.go:22", after := #[], guard := none }) (v := ?vs_5) rfl (by kernel_rfl) (by kernel_rfl) (by kernel_rfl) (fun _ _ _ h => h) (Or.inl ⟨by rfl, ?ys_5⟩) (by assumption) ?ts_5
  case ys_5 => (intro w hSw; try dsimp only at hSw); go_simp; try with_reducible rfl
  simp only [Act.put, List.setIfInBounds_toArray, List.set_cons_zero, List.set_cons_succ]
  refine wpAnyH_take (i := 6) (oi := { dst := some 12, op := Op.load 50 (Operand.tmp 11), type := 50, pos := "print.go:22", after := #[{ on := 5, ground := Ground.data }], guard := none }) (v := ?vs_6) rfl (by kernel_rfl) (by kernel_rfl) (by kernel_rfl) (fun _ _ _ h => h) (Or.inl ⟨by rfl, ?ys_6⟩) (by assumption) ?ts_6
  case ys_6 => (intro w hSw; have h0 := box_cell hSw 1 (.slice ta s.tools.length tc) rfl); go_simp; try with_reducible rfl
  simp only [Act.put, List.setIfInBounds_toArray, List.set_cons_zero, List.set_cons_succ]
  refine wpAnyH_take (i := 8) (oi := { dst := some 14, op := Op.fieldAddr 55 (Operand.tmp 3) 2, type := 0, pos := "print.go:22", after := #[], guard := none }) (v := ?vs_8) rfl (by kernel_rfl) (by kernel_rfl) (by kernel_rfl) (fun _ _ _ h => h) (Or.inl ⟨by rfl, ?ys_8⟩) (by assumption) ?ts_8
  case ys_8 => (intro w hSw; try dsimp only at hSw); go_simp; try with_reducible rfl
  simp only [Act.put, List.setIfInBounds_toArray, List.set_cons_zero, List.set_cons_succ]
  refine wpAnyH_take (i := 9) (oi := { dst := some 15, op := Op.load 3 (Operand.tmp 14), type := 3, pos := "print.go:22", after := #[{ on := 8, ground := Ground.data }], guard := none }) (v := ?vs_9) rfl (by kernel_rfl) (by kernel_rfl) (by kernel_rfl) (fun _ _ _ h => h) (Or.inl ⟨by rfl, ?ys_9⟩) (by assumption) ?ts_9
  case ys_9 => (intro w hSw; have h0 := box_cell hSw 2 (.int .i64 s.least) rfl); go_simp; try with_reducible rfl
  simp only [Act.put, List.setIfInBounds_toArray, List.set_cons_zero, List.set_cons_succ]
  refine wpAnyH_take (i := 10) (oi := { dst := some 16, op := Op.fieldAddr 55 (Operand.tmp 3) 3, type := 0, pos := "print.go:22", after := #[], guard := none }) (v := ?vs_10) rfl (by kernel_rfl) (by kernel_rfl) (by kernel_rfl) (fun _ _ _ h => h) (Or.inl ⟨by rfl, ?ys_10⟩) (by assumption) ?ts_10
  case ys_10 => (intro w hSw; try dsimp only at hSw); go_simp; try with_reducible rfl
  simp only [Act.put, List.setIfInBounds_toArray, List.set_cons_zero, List.set_cons_succ]
  refine wpAnyH_take (i := 11) (oi := { dst := some 17, op := Op.load 3 (Operand.tmp 16), type := 3, pos := "print.go:22", after := #[{ on := 10, ground := Ground.data }], guard := none }) (v := ?vs_11) rfl (by kernel_rfl) (by kernel_rfl) (by kernel_rfl) (fun _ _ _ h => h) (Or.inl ⟨by rfl, ?ys_11⟩) (by assumption) ?ts_11
  case ys_11 => (intro w hSw; have h0 := box_cell hSw 3 (.int .i64 s.most) rfl); go_simp; try with_reducible rfl
  simp only [Act.put, List.setIfInBounds_toArray, List.set_cons_zero, List.set_cons_succ]
  refine wpAnyH_take (i := 13) (oi := { dst := some 19, op := Op.fieldAddr 55 (Operand.tmp 3) 4, type := 0, pos := "print.go:22", after := #[], guard := none }) (v := ?vs_13) rfl (by kernel_rfl) (by kernel_rfl) (by kernel_rfl) (fun _ _ _ h => h) (Or.inl ⟨by rfl, ?ys_13⟩) (by assumption) ?ts_13
  case ys_13 => (intro w hSw; try dsimp only at hSw); go_simp; try with_reducible rfl
  simp only [Act.put, List.setIfInBounds_toArray, List.set_cons_zero, List.set_cons_succ]
  refine wpAnyH_take (i := 14) (oi := { dst := some 20, op := Op.load 50 (Operand.tmp 19), type := 50, pos := "print.go:22", after := #[{ on := 13, ground := Ground.data }], guard := none }) (v := ?vs_14) rfl (by kernel_rfl) (by kernel_rfl) (by kernel_rfl) (fun _ _ _ h => h) (Or.inl ⟨by rfl, ?ys_14⟩) (by assumption) ?ts_14
  case ys_14 => (intro w hSw; have h0 := box_cell hSw 4 (.slice na s.next.length nc) rfl); go_simp; try with_reducible rfl
  simp only [Act.put, List.setIfInBounds_toArray, List.set_cons_zero, List.set_cons_succ]
  refine wpAnyH_ready (rs := [1]) (by kernel_rfl) (by simp) ?_
  refine AllReadyH.cons (o := { dst := some 7, op := Op.call { callee := Callee.value (Operand.func 76), args := #[Operand.tmp 6], argTypes := #[3] }, type := 9, pos := "print.go:23", after := #[{ on := 0, ground := Ground.data }], guard := none }) rfl (fun K hK => ?_) AllReadyH.nil
  go_simp
  refine (I1.out _ (T0.out)).mono ?_; rintro e w1 ⟨rfl, g1⟩
  have L1 := Lib.hid (below_step L0.out g1); have T1 := Lib.hid (T0.out.below g1)
  have hS1 := (g1.block w.heap.size (lt_of_block hHeld)).trans hHeld
  clear g1
  refine hK.out _ _ (hS1) (fun hHeld' => ?_)
  clear hK K hHeld
  have hHeld := hHeld'; clear hHeld'
  try simp only [Act.put, List.setIfInBounds_toArray, List.set_cons_zero, List.set_cons_succ]
  refine wpAnyH_ready (rs := [4]) (by kernel_rfl) (by simp) ?_
  refine AllReadyH.cons (o := { dst := some 10, op := Op.call { callee := Callee.value (Operand.func 76), args := #[Operand.tmp 9], argTypes := #[3] }, type := 9, pos := "print.go:24", after := #[{ on := 3, ground := Ground.data }, { on := 1, ground := Ground.chain }], guard := none }) rfl (fun K hK => ?_) AllReadyH.nil
  go_simp
  refine (I2.out _ (T1.out)).mono ?_; rintro e w2 ⟨rfl, g2⟩
  have L2 := Lib.hid (below_step L1.out g2); have T2 := Lib.hid (T1.out.below g2)
  have hS2 := (g2.block w.heap.size (lt_of_block hHeld)).trans hHeld
  clear g2
  refine hK.out _ _ (hS2) (fun hHeld' => ?_)
  clear hK K hHeld
  have hHeld := hHeld'; clear hHeld'
  try simp only [Act.put, List.setIfInBounds_toArray, List.set_cons_zero, List.set_cons_succ]
  refine wpAnyH_ready (rs := [7]) (by kernel_rfl) (by simp) ?_
  refine AllReadyH.cons (o := { dst := some 13, op := Op.call { callee := Callee.value (Operand.func 77), args := #[Operand.tmp 12], argTypes := #[50] }, type := 9, pos := "print.go:25", after := #[{ on := 6, ground := Ground.data }, { on := 4, ground := Ground.chain }], guard := none }) rfl (fun K hK => ?_) AllReadyH.nil
  go_simp
  refine (I3.out _ (T2.out) (TK.out.below L2.out)).mono ?_; rintro e w3 ⟨rfl, g3⟩
  have L3 := Lib.hid (below_step L2.out g3); have T3 := Lib.hid (T2.out.below g3)
  have hS3 := (g3.block w.heap.size (lt_of_block hHeld)).trans hHeld
  clear g3
  refine hK.out _ _ (hS3) (fun hHeld' => ?_)
  clear hK K hHeld
  have hHeld := hHeld'; clear hHeld'
  try simp only [Act.put, List.setIfInBounds_toArray, List.set_cons_zero, List.set_cons_succ]
  refine wpAnyH_ready (rs := [12]) (by kernel_rfl) (by simp) ?_
  refine AllReadyH.cons (o := { dst := some 18, op := Op.call { callee := Callee.value (Operand.func 73), args := #[Operand.tmp 15, Operand.tmp 17], argTypes := #[3, 3] }, type := 9, pos := "print.go:26", after := #[{ on := 9, ground := Ground.data }, { on := 11, ground := Ground.data }, { on := 7, ground := Ground.chain }], guard := none }) rfl (fun K hK => ?_) AllReadyH.nil
  go_simp
  refine (I4.out _ (T3.out)).mono ?_; rintro e w4 ⟨rfl, g4⟩
  have L4 := Lib.hid (below_step L3.out g4); have T4 := Lib.hid (T3.out.below g4)
  have hS4 := (g4.block w.heap.size (lt_of_block hHeld)).trans hHeld
  clear g4
  refine hK.out _ _ (hS4) (fun hHeld' => ?_)
  clear hK K hHeld
  have hHeld := hHeld'; clear hHeld'
  try simp only [Act.put, List.setIfInBounds_toArray, List.set_cons_zero, List.set_cons_succ]
  refine wpAnyH_ready (rs := [15]) (by kernel_rfl) (by simp) ?_
  refine AllReadyH.cons (o := { dst := some 21, op := Op.call { callee := Callee.value (Operand.func 77), args := #[Operand.tmp 20], argTypes := #[50] }, type := 9, pos := "print.go:27", after := #[{ on := 14, ground := Ground.data }, { on := 12, ground := Ground.chain }], guard := none }) rfl (fun K hK => ?_) AllReadyH.nil
  go_simp
  refine (I5.out _ (T4.out) (NK.out.below L4.out)).mono ?_; rintro e w5 ⟨rfl, g5⟩
  have L5 := Lib.hid (below_step L4.out g5); have T5 := Lib.hid (T4.out.below g5)
  have hS5 := (g5.block w.heap.size (lt_of_block hHeld)).trans hHeld
  clear g5
  refine hK.out _ _ (hS5) (fun hHeld' => ?_)
  clear hK K hHeld
  have hHeld := hHeld'; clear hHeld'
  try simp only [Act.put, List.setIfInBounds_toArray, List.set_cons_zero, List.set_cons_succ]
  refine wpAnyH_ready (rs := [16]) (by kernel_rfl) (by simp) ?_
  refine AllReadyH.cons (o := { dst := some 22, op := Op.buildSlice 40 10 #[(0, Operand.const (Value.string { data := #[115, 116, 101, 112] })), (1, Operand.tmp 7), (2, Operand.const (Value.string { data := #[114, 101, 99, 105, 112, 101] })), (3, Operand.tmp 10), (4, Operand.const (Value.string { data := #[116, 111, 111, 108, 115] })), (5, Operand.tmp 13), (6, Operand.const (Value.string { data := #[116, 105, 109, 101] })), (7, Operand.tmp 18), (8, Operand.const (Value.string { data := #[110, 101, 120, 116] })), (9, Operand.tmp 21)], type := 40, pos := "print.go:22", after := #[{ on := 1, ground := Ground.data }, { on := 4, ground := Ground.data }, { on := 7, ground := Ground.data }, { on := 12, ground := Ground.data }, { on := 15, ground := Ground.data }], guard := none }) rfl (fun K hK => ?_) AllReadyH.nil
  go_simp
  have hO := own_lit w5 (headWords n s) 10 rfl (by decide)
  have hN := below_new w5 (.cells (strRow (headWords n s)).toArray 9)
  have L6 := Lib.hid (below_step L5.out hN); have T6 := Lib.hid (T5.out.below hN); have O6 := Lib.hid hO
  have hS6 := (hN.block w.heap.size (lt_of_block hHeld)).trans hHeld
  have HZ5 := Lib.hid (L5.out.size)
  have HSB := Lib.hid (show w.heap.size < w5.heap.size from lt_of_block hHeld)
  clear hO hN
  refine hK.out _ _ (hS6) (fun hHeld' => ?_)
  clear hK K hHeld
  have hHeld := hHeld'; clear hHeld'
  try simp only [Act.put, List.setIfInBounds_toArray, List.set_cons_zero, List.set_cons_succ]
  refine wpAnyH_take (i := 17) (oi := { dst := some 5, op := Op.assign (Operand.tmp 22), type := 40, pos := "print.go:22", after := #[{ on := 16, ground := Ground.data }, { on := 15, ground := Ground.chain }, { on := 0, ground := Ground.phase }, { on := 1, ground := Ground.phase }, { on := 2, ground := Ground.phase }, { on := 3, ground := Ground.phase }, { on := 4, ground := Ground.phase }, { on := 5, ground := Ground.phase }, { on := 6, ground := Ground.phase }, { on := 7, ground := Ground.phase }, { on := 8, ground := Ground.phase }, { on := 9, ground := Ground.phase }, { on := 10, ground := Ground.phase }, { on := 11, ground := Ground.phase }, { on := 12, ground := Ground.phase }, { on := 13, ground := Ground.phase }, { on := 14, ground := Ground.phase }, { on := 15, ground := Ground.phase }, { on := 16, ground := Ground.phase }], guard := none }) (v := ?vs_17) rfl (by kernel_rfl) (by kernel_rfl) (by kernel_rfl) (fun _ _ _ h => h) (Or.inl ⟨by rfl, ?ys_17⟩) (by assumption) ?ts_17
  case ys_17 => (intro w hSw; try dsimp only at hSw); go_simp; try with_reducible rfl
  simp only [Act.put, List.setIfInBounds_toArray, List.set_cons_zero, List.set_cons_succ]
  refine wpAnyH_done (by kernel_rfl) ?_ _
  have HH := Lib.hid hHeld; clear hHeld
  have HZ6 := Lib.hid (show w5.heap.size < (w5.alloc (.cells (strRow (headWords n s)).toArray 9)).heap.size by simp)
  obtain ⟨w6, hw6⟩ : ∃ w6, (w5.alloc (.cells #[.string ⟨#[115, 116, 101, 112]⟩, .string (bs (Lib.itoa n)), .string ⟨#[114, 101, 99, 105, 112, 101]⟩, .string (bs (Lib.itoa s.recipe)), .string ⟨#[116, 111, 111, 108, 115]⟩, .string (bs (Fl.nums s.tools)), .string ⟨#[116, 105, 109, 101]⟩, .string (bs (Fl.span s.least s.most)), .string ⟨#[110, 101, 120, 116]⟩, .string (bs (Fl.nums s.next))] 9)) = w6 := ⟨_, rfl⟩
  have L6 : Hid (Below w.heap.size w w6) := Lib.hid (by rw [← hw6]; exact L6.out)
  have T6 : Hid (Tab t w6) := Lib.hid (by rw [← hw6]; exact T6.out)
  have O6 : Hid (w6.ownsRow w5.heap.size 9 1 (.slice (some ⟨w5.heap.size, 0, none⟩) 10 10) 10 (strRow (headWords n s))) := Lib.hid (by rw [← hw6]; exact O6.out)
  have HH : Hid (w6.heap[w.heap.size]? = some (.cells #[.int .i64 s.recipe, .slice ta s.tools.length tc, .int .i64 s.least, .int .i64 s.most, .slice na s.next.length nc, .int .i64 s.back, .int .i64 s.limit] 55)) := Lib.hid (by rw [← hw6]; exact HH.out)
  have HZ6 : Hid (w5.heap.size < w6.heap.size) := Lib.hid (by rw [← hw6]; exact HZ6.out)
  rw [hw6]
  clear hw6
  by_cases hb : s.back = -1
  · have hb1 : (s.back != -1) = false := by simp [hb]
    have EW := Lib.hid (stepWords_back (n := n) hb)
    have x5 := box_cell HH.out 5 (.int .i64 s.back) rfl
    clear hb
    go_wp2_with fail
    clear x5
    refine (lineOf_any (headWords n s) _ _ _ _ (strA_own rfl O6.out) HZ6.out (by rw [← EW.out]; exact HWL.out.1) (by simp [headWords])).mono ?_; rintro e w7 ⟨rfl, g7⟩
    have L7 := Lib.hid (below_step L6.out g7); clear g7
    go_wp2_with fail
    go_ret
    exact ⟨by rw [EW.out]; rfl, L7.out⟩
  · have hb1 : (s.back != -1) = true := by simp [hb]
    have EW := Lib.hid (stepWords_more (n := n) hb)
    have x5 := box_cell HH.out 5 (.int .i64 s.back) rfl
    clear hb
    go_wp2_with fail
    clear x5
    have LD := Lib.hid (L6.out.drew); have TD := Lib.hid (T6.out.below (Below.refl w6.heap.size w6).drew)
    have hZ6 := HZ6.out; have hZ5 := HZ5.out
    refine wp_region_held_drew (S := (fun v => v.heap[w.heap.size]? = some (.cells #[.int .i64 s.recipe, .slice ta s.tools.length tc, .int .i64 s.least, .int .i64 s.most, .slice na s.next.length nc, .int .i64 s.back, .int .i64 s.limit] 55))) (by kernel_rfl) (HH.out) (fun hHeld => ?_)
    refine wpAnyH_take (i := 0) (oi := { dst := some 26, op := Op.move (Operand.tmp 5), type := 40, pos := "print.go:30", after := #[], guard := none }) (v := ?vq_0) rfl (by kernel_rfl) (by kernel_rfl) (by kernel_rfl) (fun _ _ _ h => h) (Or.inl ⟨by rfl, ?yq_0⟩) (by assumption) ?tq_0
    case yq_0 => (intro w hSw; try dsimp only at hSw); go_simp; try with_reducible rfl
    simp only [Act.put, List.setIfInBounds_toArray, List.set_cons_zero, List.set_cons_succ]
    refine wpAnyH_take (i := 1) (oi := { dst := some 27, op := Op.fieldAddr 55 (Operand.tmp 3) 5, type := 0, pos := "print.go:30", after := #[], guard := none }) (v := ?vq_1) rfl (by kernel_rfl) (by kernel_rfl) (by kernel_rfl) (fun _ _ _ h => h) (Or.inl ⟨by rfl, ?yq_1⟩) (by assumption) ?tq_1
    case yq_1 => (intro w hSw; try dsimp only at hSw); go_simp; try with_reducible rfl
    simp only [Act.put, List.setIfInBounds_toArray, List.set_cons_zero, List.set_cons_succ]
    refine wpAnyH_take (i := 2) (oi := { dst := some 28, op := Op.load 3 (Operand.tmp 27), type := 3, pos := "print.go:30", after := #[{ on := 1, ground := Ground.data }], guard := none }) (v := ?vq_2) rfl (by kernel_rfl) (by kernel_rfl) (by kernel_rfl) (fun _ _ _ h => h) (Or.inl ⟨by rfl, ?yq_2⟩) (by assumption) ?tq_2
    case yq_2 => (intro w hSw; have h0 := box_cell hSw 5 (.int .i64 s.back) rfl); go_simp; try with_reducible rfl
    simp only [Act.put, List.setIfInBounds_toArray, List.set_cons_zero, List.set_cons_succ]
    refine wpAnyH_take (i := 4) (oi := { dst := some 30, op := Op.fieldAddr 55 (Operand.tmp 3) 6, type := 0, pos := "print.go:30", after := #[], guard := none }) (v := ?vq_4) rfl (by kernel_rfl) (by kernel_rfl) (by kernel_rfl) (fun _ _ _ h => h) (Or.inl ⟨by rfl, ?yq_4⟩) (by assumption) ?tq_4
    case yq_4 => (intro w hSw; try dsimp only at hSw); go_simp; try with_reducible rfl
    simp only [Act.put, List.setIfInBounds_toArray, List.set_cons_zero, List.set_cons_succ]
    refine wpAnyH_take (i := 5) (oi := { dst := some 31, op := Op.load 3 (Operand.tmp 30), type := 3, pos := "print.go:30", after := #[{ on := 4, ground := Ground.data }], guard := none }) (v := ?vq_5) rfl (by kernel_rfl) (by kernel_rfl) (by kernel_rfl) (fun _ _ _ h => h) (Or.inl ⟨by rfl, ?yq_5⟩) (by assumption) ?tq_5
    case yq_5 => (intro w hSw; have h0 := box_cell hSw 6 (.int .i64 s.limit) rfl); go_simp; try with_reducible rfl
    simp only [Act.put, List.setIfInBounds_toArray, List.set_cons_zero, List.set_cons_succ]
    refine wpAnyH_ready (rs := [3]) (by kernel_rfl) (by simp) ?_
    refine AllReadyH.cons (o := { dst := some 29, op := Op.call { callee := Callee.value (Operand.func 76), args := #[Operand.tmp 28], argTypes := #[3] }, type := 9, pos := "print.go:30", after := #[{ on := 2, ground := Ground.data }], guard := none }) rfl (fun K hK => ?_) AllReadyH.nil
    go_simp
    refine (I6.out _ (TD.out)).mono ?_; rintro e w7 ⟨rfl, g7⟩
    have L7 := Lib.hid (below_step LD.out g7); have T7 := Lib.hid (TD.out.below g7); have B7 := Lib.hid (below_step (Below.drew (Below.refl w6.heap.size w6)) g7)
    have hS7 := (g7.block w.heap.size (lt_of_block hHeld)).trans hHeld
    clear g7
    refine hK.out _ _ (hS7) (fun hHeld' => ?_)
    clear hK K hHeld
    have hHeld := hHeld'; clear hHeld'
    try simp only [Act.put, List.setIfInBounds_toArray, List.set_cons_zero, List.set_cons_succ]
    refine wpAnyH_ready (rs := [6]) (by kernel_rfl) (by simp) ?_
    refine AllReadyH.cons (o := { dst := some 32, op := Op.call { callee := Callee.value (Operand.func 76), args := #[Operand.tmp 31], argTypes := #[3] }, type := 9, pos := "print.go:30", after := #[{ on := 5, ground := Ground.data }, { on := 3, ground := Ground.chain }], guard := none }) rfl (fun K hK => ?_) AllReadyH.nil
    go_simp
    refine (I7.out _ (T7.out)).mono ?_; rintro e w8 ⟨rfl, g8⟩
    have L8 := Lib.hid (below_step L7.out g8); have T8 := Lib.hid (T7.out.below g8); have B8 := Lib.hid (below_step (B7.out) g8)
    have hS8 := (g8.block w.heap.size (lt_of_block hHeld)).trans hHeld
    clear g8
    refine hK.out _ _ (hS8) (fun hHeld' => ?_)
    clear hK K hHeld
    have hHeld := hHeld'; clear hHeld'
    try simp only [Act.put, List.setIfInBounds_toArray, List.set_cons_zero, List.set_cons_succ]
    refine wpAnyH_ready (rs := [7]) (by kernel_rfl) (by simp) ?_
    refine AllReadyH.cons (o := { dst := some 33, op := Op.buildSlice 40 4 #[(0, Operand.const (Value.string { data := #[98, 97, 99, 107] })), (1, Operand.tmp 29), (2, Operand.const (Value.string { data := #[108, 105, 109, 105, 116] })), (3, Operand.tmp 32)], type := 40, pos := "print.go:30", after := #[{ on := 3, ground := Ground.data }, { on := 6, ground := Ground.data }], guard := none }) rfl (fun K hK => ?_) AllReadyH.nil
    go_simp
    have hN := below_new w8 (.cells (strRow (tailWords s)).toArray 9)
    have O9 := Lib.hid (own_below (own_below O6.out B8.out) hN)
    have L9 := Lib.hid (below_step L8.out hN)
    have hS9 := (hN.block w.heap.size (lt_of_block hHeld)).trans hHeld
    have HN9 : Hid (∀ j u, (strRow (tailWords s))[j]? = some u → (w8.alloc (.cells (strRow (tailWords s)).toArray 9)).cell? ((⟨w8.heap.size, 0, none⟩ : Addr).add j) = some u) := Lib.hid (World.news_of_block (cs := (strRow (tailWords s)).toArray) (t := 9) (fr := (0, 0)) (heap_alloc_new w8 _))
    have hs8 : w5.heap.size ≤ w8.heap.size := Nat.le_trans (Nat.le_of_lt hZ6) B8.out.size
    clear hN
    refine hK.out _ _ (hS9) (fun hHeld' => ?_)
    clear hK K hHeld
    have hHeld := hHeld'; clear hHeld'
    try simp only [Act.put, List.setIfInBounds_toArray, List.set_cons_zero, List.set_cons_succ]
    refine wpAnyH_ready (rs := [8]) (by kernel_rfl) (by simp) ?_
    refine AllReadyH.cons (o := { dst := some 34, op := Op.call { callee := Callee.builtin Go.Builtin.append, args := #[Operand.tmp 26, Operand.tmp 33], argTypes := #[40, 40] }, type := 40, pos := "print.go:30", after := #[{ on := 0, ground := Ground.data }, { on := 7, ground := Ground.data }, { on := 6, ground := Ground.chain }], guard := none }) rfl (fun K hK => ?_) AllReadyH.nil
    refine step_append_lies _ (by rfl) _ _ _ (by rfl) w5.heap.size 9 i0 _ 1 16 Tryz.underlying40 hi hz0 hz1 hz2 rfl (by decide) (.slice (some ⟨w5.heap.size, 0, none⟩) 10 10) 10 (strRow (headWords n s)) (by rfl) O9.out ⟨w8.heap.size, 0, none⟩ 4 4 (strRow (tailWords s)) (by rfl) (by rfl) HN9.out (strRow_one _) (by decide) (by decide) (by decide) (by simp; omega) (w8.heap.size + 1) (by simp) ?_
    intro gg cap w2 hown2 hgrow hat hlt2
    have hSX : w2.heap[w.heap.size]? = some (.cells #[.int .i64 s.recipe, .slice ta s.tools.length tc, .int .i64 s.least, .int .i64 s.most, .slice na s.next.length nc, .int .i64 s.back, .int .i64 s.limit] 55) := (hgrow.block w.heap.size (lt_of_block hHeld) (by intro e0; simp only [Value.ownBlock, Option.some.injEq] at e0; have := HSB.out; omega)).trans hHeld
    have LX := Lib.hid (L9.out.trans ((Below.refl w.heap.size _).grown hgrow (by have := L9.out.size; exact this) (fun k hk => by simp only [Value.ownBlock, Option.some.injEq] at hk; omega)))
    have OX : Hid (w2.ownsRow w5.heap.size 9 1 (.slice (some ⟨gg, 0, none⟩) 14 cap) 14 (strRow (headWords n s ++ tailWords s))) := Lib.hid (by have h0 := hown2; rw [show strRow (headWords n s) ++ strRow (tailWords s) = strRow (headWords n s ++ tailWords s) by simp [strRow]] at h0; exact h0)
    have HLX := Lib.hid hlt2
    clear hgrow hown2 hat hlt2
    refine hK.out _ _ (hSX) (fun hHeld' => ?_)
    clear hK K hHeld
    have hHeld := hHeld'; clear hHeld'
    try simp only [Act.put, List.setIfInBounds_toArray, List.set_cons_zero, List.set_cons_succ]
    refine wpAnyH_take (i := 9) (oi := { dst := some 5, op := Op.assign (Operand.tmp 34), type := 40, pos := "print.go:30", after := #[{ on := 8, ground := Ground.data }, { on := 8, ground := Ground.chain }, { on := 0, ground := Ground.phase }, { on := 1, ground := Ground.phase }, { on := 2, ground := Ground.phase }, { on := 3, ground := Ground.phase }, { on := 4, ground := Ground.phase }, { on := 5, ground := Ground.phase }, { on := 6, ground := Ground.phase }, { on := 7, ground := Ground.phase }, { on := 8, ground := Ground.phase }], guard := none }) (v := ?vq_9) rfl (by kernel_rfl) (by kernel_rfl) (by kernel_rfl) (fun _ _ _ h => h) (Or.inl ⟨by rfl, ?yq_9⟩) (by assumption) ?tq_9
    case yq_9 => (intro w hSw; try dsimp only at hSw); go_simp; try with_reducible rfl
    simp only [Act.put, List.setIfInBounds_toArray, List.set_cons_zero, List.set_cons_succ]
    refine wpAnyH_done (by kernel_rfl) ?_ _
    clear hHeld
    go_wp2_with fail
    refine (lineOf_any (headWords n s ++ tailWords s) _ _ _ _ (strA_own rfl OX.out) HLX.out (by rw [← EW.out]; exact HWL.out.1) (by simp [headWords, tailWords])).mono ?_; rintro e wz ⟨rfl, gz⟩
    have LZ := Lib.hid (below_step LX.out gz); clear gz
    go_wp2_with fail
    go_ret
    exact ⟨by rw [EW.out]; rfl, LZ.out⟩

set_option maxRecDepth 100000 in
theorem moveLine_any (x y : Int) (sv wv : Value) (w : World) (t : Addr) (ht : Tab t w) (hv : Fl.vMoves x y = true) :
    Calls Tryz.prog 53 #[.agg #[.int .i64 x, .int .i64 y, sv, wv]] w fun e w' => e = .returned (.string (bs (Fl.line (Fl.moveWords x y)))) ∧ Below w.heap.size w w' := by
  have hv' := Fl.vMoves_iff.1 hv
  have SP := Lib.hid (fun w ht => span_any x y w t ht ⟨by omega, by omega⟩ ⟨by omega, by omega⟩)
  have HL := Lib.hid (show ∀ z ∈ Fl.moveWords x y, z.length ≤ 64 by
    intro z hz
    simp only [Fl.moveWords, List.mem_cons, List.not_mem_nil, or_false] at hz
    rcases hz with rfl | rfl
    · decide
    · exact Nat.le_trans (Fl.span_len (by omega) (by omega)) (by decide))
  have L0 := Lib.hid (below_new w (.cells #[.int .i64 x, .int .i64 y, sv, wv] 25))
  have T0 := Lib.hid (ht.below L0.out)
  clear ht hv hv'
  go_enter Tryz.func53, Tryz.ntmps53
  go_wp2_with fail
  refine (SP.out _ T0.out).mono ?_; rintro e w1 ⟨rfl, g1⟩
  have L1 := Lib.hid (below_step L0.out g1); clear g1
  go_wp2_with fail
  have L2 := Lib.hid (below_step L1.out (below_new w1 (.cells (strRow (Fl.moveWords x y)).toArray 9)))
  refine (lineOf_any (Fl.moveWords x y) _ _ _ _ (strA_lit w1 (Fl.moveWords x y) _ rfl (by simp [Fl.moveWords])) (by simp) HL.out (by simp [Fl.moveWords])).mono ?_; rintro e w2 ⟨rfl, g2⟩
  have L3 := Lib.hid (below_step L2.out g2); clear g2
  go_wp2_with fail
  go_ret
  exact ⟨rfl, L3.out⟩
end Go.Proofs.YtcaclijkkbhfhaaGreatDoor
