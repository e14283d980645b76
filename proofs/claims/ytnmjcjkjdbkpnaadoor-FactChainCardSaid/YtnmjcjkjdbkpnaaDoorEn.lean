/-
  encoding, Encode, Key. Written by tools/l15_en.py.
-/
import Derived.Test.YtnmjcjkjdbkpnaaDoorVd
import Derived.Test.YtnmjcjkjdbkpnaaDoorWaPutString
import Derived.Laws.Concat
namespace Go.Proofs.YtnmjcjkjdbkpnaaDoor
open Go.RowKit Go.Shelf Fc
attribute [local go_sem] Oper.semAt_some
theorem sem_load_fact {o : Oper} {a : Act} {w : World} (x : Operand) (ho : o.op = .load 23 x) (b : Nat) (hx : a.eval x = .pointer (some ⟨b, 0, none⟩)) (G : Fact) (h : w.heap[b]? = some (factObj G)) : (execOp a.eval o).run Tryd.prog w = .ok (.value (factV G)) w := by
  simp only [execOp, ho, hx, Instr.loadAt, Instr.sureAddr, Sem.run_bind, Sem.run_pure, Result.andThen_ok, run_loadFact h]
theorem bs_append (l m : List UInt8) : bs l ++ bs m = bs (l ++ m) := by
  apply ByteArray.ext
  rw [ByteArray.data_append]
  simp
theorem ints_new {w : World} {l : List Int} {cs : Array Value} {t : TypeId} (hc : cs.toList = l.map (Value.int .i64)) (hl : l.length ≤ 1000) : IntsA (w.alloc (.cells cs t)) (some ⟨w.heap.size, 0, none⟩) l.length l := by
  refine ⟨Nat.le_refl _, by unfold maxLen; omega, fun i hi => ⟨w.heap.size, 0, rfl, by simp, fun j v hv => ?_⟩⟩
  have hj : j = 0 := by
    have := (List.getElem?_eq_some_iff.1 hv).1
    simp [intCells] at this; omega
  subst hj
  refine box_cell (heap_alloc_new w _) _ _ ?_
  rw [show cs[0 + i * 1 + 0]? = cs.toList[i]? by simp, hc]
  simp [intCells] at hv
  simp [hi, hv]
theorem pstr_len (t : ByteArray) : (Wa.Enc.pstrBytes t.data.toList).length ≤ 65545 := by
  unfold Wa.Enc.pstrBytes
  split
  · simp
  · rename_i h; rw [List.length_append]; have := Wa.Enc.enc_le (Wa.Enc.zig t.data.toList.length); omega
set_option maxRecDepth 100000 in
set_option maxHeartbeats 8000000 in
theorem encoding_any (F : Fact) (w : World) (hs : F.tx.size ≤ maxLen) : Calls Tryd.prog 26 #[factV F] w (StrPost (encB F) w) := by
  have HF := Lib.hid (heap_alloc_new w (factObj F))
  have HB := Lib.hid (below_new w (factObj F))
  have HS := Lib.hid hs
  clear hs
  go_enter Tryd.func26, Tryd.ntmps26
  go_upto_region 2 with (fail)
  generalize w.alloc (factObj F) = w1 at *
  have c4 := box_cell HF.out 4 (.bool F.gone) rfl
  cases hg : F.gone with
  | false =>
    rw [hg] at c4
    have HG := Lib.hid (show encB F = numsB [F.k, F.v, F.d, 0] ++ numsB (vals F (fieldsL F.k)) ++ (if F.k = 5 then Wa.Enc.pstrBytes F.tx.data.toList else []) by unfold encB headN goneN; rw [hg]; rfl)
    clear hg
    go_wp2_with fail
    refine wp_region_held_drew (S := (fun v => v.heap[w.heap.size]? = some (factObj F) ∧ Below w.heap.size w v)) (by kernel_rfl) (⟨HF.out, HB.out.drew⟩) (fun hHeld => ?_)
    have HFd := Lib.hid hHeld.1
    have HBd := Lib.hid hHeld.2
    generalize w1.drew = wd at *
    refine wpAnyH_take (i := 0) (oi := { dst := some 9, op := Op.fieldAddr 23 (Operand.tmp 1) 0, type := 0, pos := "code.go:16", after := #[], guard := none }) (v := ?vr0) rfl (by kernel_rfl) (by kernel_rfl) (by kernel_rfl) (fun _ _ _ h => h) (Or.inl ⟨by rfl, ?yr0⟩) (by assumption) ?tr0
    case yr0 => (intro wz hSw; clear hSw; go_simp; try with_reducible rfl)
    simp only [Act.put, List.setIfInBounds_toArray, List.set_cons_zero, List.set_cons_succ]
    refine wpAnyH_take (i := 1) (oi := { dst := some 10, op := Op.load 3 (Operand.tmp 9), type := 3, pos := "code.go:16", after := #[{ on := 0, ground := Ground.data }], guard := none }) (v := ?vr1) rfl (by kernel_rfl) (by kernel_rfl) (by kernel_rfl) (fun _ _ _ h => h) (Or.inl ⟨by rfl, ?yr1⟩) (by assumption) ?tr1
    case yr1 => (intro wz hSw; have q0 := box_cell hSw.1 0 (.int .i64 F.k) rfl; have q2 := box_cell hSw.1 2 (.int .i64 F.v) rfl; have q3 := box_cell hSw.1 3 (.int .i64 F.d) rfl; clear hSw; go_simp; try with_reducible rfl)
    simp only [Act.put, List.setIfInBounds_toArray, List.set_cons_zero, List.set_cons_succ]
    refine wpAnyH_take (i := 2) (oi := { dst := some 11, op := Op.fieldAddr 23 (Operand.tmp 1) 2, type := 0, pos := "code.go:16", after := #[], guard := none }) (v := ?vr2) rfl (by kernel_rfl) (by kernel_rfl) (by kernel_rfl) (fun _ _ _ h => h) (Or.inl ⟨by rfl, ?yr2⟩) (by assumption) ?tr2
    case yr2 => (intro wz hSw; clear hSw; go_simp; try with_reducible rfl)
    simp only [Act.put, List.setIfInBounds_toArray, List.set_cons_zero, List.set_cons_succ]
    refine wpAnyH_take (i := 3) (oi := { dst := some 12, op := Op.load 3 (Operand.tmp 11), type := 3, pos := "code.go:16", after := #[{ on := 2, ground := Ground.data }], guard := none }) (v := ?vr3) rfl (by kernel_rfl) (by kernel_rfl) (by kernel_rfl) (fun _ _ _ h => h) (Or.inl ⟨by rfl, ?yr3⟩) (by assumption) ?tr3
    case yr3 => (intro wz hSw; have q0 := box_cell hSw.1 0 (.int .i64 F.k) rfl; have q2 := box_cell hSw.1 2 (.int .i64 F.v) rfl; have q3 := box_cell hSw.1 3 (.int .i64 F.d) rfl; clear hSw; go_simp; try with_reducible rfl)
    simp only [Act.put, List.setIfInBounds_toArray, List.set_cons_zero, List.set_cons_succ]
    refine wpAnyH_take (i := 4) (oi := { dst := some 13, op := Op.fieldAddr 23 (Operand.tmp 1) 3, type := 0, pos := "code.go:16", after := #[], guard := none }) (v := ?vr4) rfl (by kernel_rfl) (by kernel_rfl) (by kernel_rfl) (fun _ _ _ h => h) (Or.inl ⟨by rfl, ?yr4⟩) (by assumption) ?tr4
    case yr4 => (intro wz hSw; clear hSw; go_simp; try with_reducible rfl)
    simp only [Act.put, List.setIfInBounds_toArray, List.set_cons_zero, List.set_cons_succ]
    refine wpAnyH_take (i := 5) (oi := { dst := some 14, op := Op.load 3 (Operand.tmp 13), type := 3, pos := "code.go:16", after := #[{ on := 4, ground := Ground.data }], guard := none }) (v := ?vr5) rfl (by kernel_rfl) (by kernel_rfl) (by kernel_rfl) (fun _ _ _ h => h) (Or.inl ⟨by rfl, ?yr5⟩) (by assumption) ?tr5
    case yr5 => (intro wz hSw; have q0 := box_cell hSw.1 0 (.int .i64 F.k) rfl; have q2 := box_cell hSw.1 2 (.int .i64 F.v) rfl; have q3 := box_cell hSw.1 3 (.int .i64 F.d) rfl; clear hSw; go_simp; try with_reducible rfl)
    simp only [Act.put, List.setIfInBounds_toArray, List.set_cons_zero, List.set_cons_succ]
    refine wpAnyH_take (i := 6) (oi := { dst := some 15, op := Op.move (Operand.tmp 3), type := 3, pos := "code.go:16", after := #[], guard := none }) (v := ?vr6) rfl (by kernel_rfl) (by kernel_rfl) (by kernel_rfl) (fun _ _ _ h => h) (Or.inl ⟨by rfl, ?yr6⟩) (by assumption) ?tr6
    case yr6 => (intro wz hSw; clear hSw; go_simp; try with_reducible rfl)
    simp only [Act.put, List.setIfInBounds_toArray, List.set_cons_zero, List.set_cons_succ]
    refine wpAnyH_take (i := 9) (oi := { dst := some 18, op := Op.load 23 (Operand.tmp 1), type := 23, pos := "code.go:16", after := #[], guard := none }) (v := factV F) rfl (by kernel_rfl) (by kernel_rfl) (by kernel_rfl) (fun _ _ _ h => h) (Or.inl ⟨by rfl, fun wz hSw => sem_load_fact _ rfl (w.heap.size) rfl F (hSw.1)⟩) (by assumption) ?tr9
    simp only [Act.put, List.setIfInBounds_toArray, List.set_cons_zero, List.set_cons_succ]
    refine wpAnyH_take (i := 10) (oi := { dst := some 19, op := Op.fieldAddr 23 (Operand.tmp 1) 0, type := 0, pos := "code.go:16", after := #[], guard := none }) (v := ?vr10) rfl (by kernel_rfl) (by kernel_rfl) (by kernel_rfl) (fun _ _ _ h => h) (Or.inl ⟨by rfl, ?yr10⟩) (by assumption) ?tr10
    case yr10 => (intro wz hSw; clear hSw; go_simp; try with_reducible rfl)
    simp only [Act.put, List.setIfInBounds_toArray, List.set_cons_zero, List.set_cons_succ]
    refine wpAnyH_take (i := 11) (oi := { dst := some 20, op := Op.load 3 (Operand.tmp 19), type := 3, pos := "code.go:16", after := #[{ on := 10, ground := Ground.data }], guard := none }) (v := ?vr11) rfl (by kernel_rfl) (by kernel_rfl) (by kernel_rfl) (fun _ _ _ h => h) (Or.inl ⟨by rfl, ?yr11⟩) (by assumption) ?tr11
    case yr11 => (intro wz hSw; have q0 := box_cell hSw.1 0 (.int .i64 F.k) rfl; have q2 := box_cell hSw.1 2 (.int .i64 F.v) rfl; have q3 := box_cell hSw.1 3 (.int .i64 F.d) rfl; clear hSw; go_simp; try with_reducible rfl)
    simp only [Act.put, List.setIfInBounds_toArray, List.set_cons_zero, List.set_cons_succ]
    refine wpAnyH_ready (rs := [7]) (by kernel_rfl) (by simp) ?_
    refine AllReadyH.cons (o := { dst := some 16, op := Op.buildSlice 36 4 #[(0, Operand.tmp 10), (1, Operand.tmp 12), (2, Operand.tmp 14), (3, Operand.tmp 15)], type := 36, pos := "code.go:16", after := #[{ on := 1, ground := Ground.data }, { on := 3, ground := Ground.data }, { on := 5, ground := Ground.data }, { on := 6, ground := Ground.data }], guard := none }) rfl (fun K hK => ?_) AllReadyH.nil
    have h7 : (wd.alloc (.cells #[.int .i64 F.k, .int .i64 F.v, .int .i64 F.d, .int .i64 0] 3)).heap[w.heap.size]? = some (factObj F) ∧ Below w.heap.size w (wd.alloc (.cells #[.int .i64 F.k, .int .i64 F.v, .int .i64 F.d, .int .i64 0] 3)) := ⟨box_below HFd.out (below_new _ _), below_step HBd.out (below_new _ _)⟩
    have HI7 := Lib.hid (show IntsA (wd.alloc (.cells #[.int .i64 F.k, .int .i64 F.v, .int .i64 F.d, .int .i64 0] 3)) (some ⟨wd.heap.size, 0, none⟩) 4 ([F.k, F.v, F.d, 0]) from ints_new (l := [F.k, F.v, F.d, 0]) rfl (by simp))
    go_simp
    refine hK.out _ _ (h7) (fun hHeld' => ?_)
    clear hK K hHeld
    have hHeld := hHeld'; clear hHeld'
    try simp only [Act.put, List.setIfInBounds_toArray, List.set_cons_zero, List.set_cons_succ]
    refine wpAnyH_ready (rs := [8]) (by kernel_rfl) (by simp) ?_
    refine AllReadyH.cons (o := { dst := some 17, op := Op.call { callee := Callee.value (Operand.func 37), args := #[Operand.tmp 16], argTypes := #[36] }, type := 9, pos := "code.go:16", after := #[{ on := 7, ground := Ground.data }], guard := none }) rfl (fun K hK => ?_) AllReadyH.nil
    generalize wd.alloc (.cells #[.int .i64 F.k, .int .i64 F.v, .int .i64 F.d, .int .i64 0] 3) = w7 at *
    have HB7 := Lib.hid hHeld
    go_simp
    refine (put_any ([F.k, F.v, F.d, 0]) _ 4 w7 HI7.out (by simp)).mono ?_; rintro e w8 ⟨rfl, g8⟩
    have h8 : w8.heap[w.heap.size]? = some (factObj F) ∧ Below w.heap.size w w8 := ⟨box_below HB7.out.1 g8, below_step HB7.out.2 g8⟩
    refine hK.out _ _ (h8) (fun hHeld' => ?_)
    clear hK K hHeld
    have hHeld := hHeld'; clear hHeld'
    try simp only [Act.put, List.setIfInBounds_toArray, List.set_cons_zero, List.set_cons_succ]
    refine wpAnyH_ready (rs := [12]) (by kernel_rfl) (by simp) ?_
    refine AllReadyH.cons (o := { dst := some 21, op := Op.call { callee := Callee.value (Operand.func 45), args := #[Operand.tmp 20], argTypes := #[3] }, type := 53, pos := "code.go:16", after := #[{ on := 11, ground := Ground.data }, { on := 8, ground := Ground.chain }], guard := none }) rfl (fun K hK => ?_) AllReadyH.nil
    have HB8 := Lib.hid hHeld
    go_simp
    refine (fields_any F.k w8).mono ?_; rintro e w9 ⟨ra, rc, rfl, hr, -, g9⟩
    have HR9 := Lib.hid hr
    have h9 : w9.heap[w.heap.size]? = some (factObj F) ∧ Below w.heap.size w w9 := ⟨box_below HB8.out.1 g9, below_step HB8.out.2 g9⟩
    refine hK.out _ _ (h9) (fun hHeld' => ?_)
    clear hK K hHeld
    have hHeld := hHeld'; clear hHeld'
    try simp only [Act.put, List.setIfInBounds_toArray, List.set_cons_zero, List.set_cons_succ]
    refine wpAnyH_ready (rs := [13]) (by kernel_rfl) (by simp) ?_
    refine AllReadyH.cons (o := { dst := some 22, op := Op.call { callee := Callee.value (Operand.func 38), args := #[Operand.tmp 18, Operand.tmp 21], argTypes := #[23, 53] }, type := 36, pos := "code.go:16", after := #[{ on := 9, ground := Ground.data }, { on := 12, ground := Ground.data }, { on := 12, ground := Ground.chain }], guard := none }) rfl (fun K hK => ?_) AllReadyH.nil
    have HB9 := Lib.hid hHeld
    go_simp
    refine (values_any F (fieldsL F.k) ra rc w9 HR9.out (by have := fields_len F.k; omega) fields_lt).mono ?_; rintro e w10 ⟨va, vc, rfl, hv, -, g10⟩
    have HV10 := Lib.hid hv
    have h10 : w10.heap[w.heap.size]? = some (factObj F) ∧ Below w.heap.size w w10 := ⟨box_below HB9.out.1 g10, below_step HB9.out.2 g10⟩
    refine hK.out _ _ (h10) (fun hHeld' => ?_)
    clear hK K hHeld
    have hHeld := hHeld'; clear hHeld'
    try simp only [Act.put, List.setIfInBounds_toArray, List.set_cons_zero, List.set_cons_succ]
    refine wpAnyH_ready (rs := [14]) (by kernel_rfl) (by simp) ?_
    refine AllReadyH.cons (o := { dst := some 23, op := Op.call { callee := Callee.value (Operand.func 37), args := #[Operand.tmp 22], argTypes := #[36] }, type := 9, pos := "code.go:16", after := #[{ on := 13, ground := Ground.data }, { on := 13, ground := Ground.chain }], guard := none }) rfl (fun K hK => ?_) AllReadyH.nil
    have HB10 := Lib.hid hHeld
    go_simp
    refine (put_any (vals F (fieldsL F.k)) va vc w10 HV10.out (by unfold vals; rw [List.length_map]; have := fields_len F.k; omega)).mono ?_; rintro e w11 ⟨rfl, g11⟩
    have h11 : w11.heap[w.heap.size]? = some (factObj F) ∧ Below w.heap.size w w11 := ⟨box_below HB10.out.1 g11, below_step HB10.out.2 g11⟩
    have HB11 := Lib.hid h11
    have HE1 := Lib.hid (show ¬ (bs (numsB ([F.k, F.v, F.d, 0]))).size + (bs (numsB (vals F (fieldsL F.k)))).size > 9223372036854775807 by rw [bs_size, bs_size]; have h1 := numsB_len ([F.k, F.v, F.d, 0]); have h2 := numsB_len (vals F (fieldsL F.k)); have h3 := fields_len F.k; unfold vals at h2; rw [List.length_map] at h2; simp only [List.length_cons, List.length_nil] at h1; unfold vals; omega)
    have HXY := Lib.hid (show (bs (numsB ([F.k, F.v, F.d, 0]))).size + (bs (numsB (vals F (fieldsL F.k)))).size ≤ 1000 by rw [bs_size, bs_size]; have h1 := numsB_len ([F.k, F.v, F.d, 0]); have h2 := numsB_len (vals F (fieldsL F.k)); have h3 := fields_len F.k; unfold vals at h2; rw [List.length_map] at h2; simp only [List.length_cons, List.length_nil] at h1; unfold vals; omega)
    have HE2 := Lib.hid (bs_append (numsB ([F.k, F.v, F.d, 0])) (numsB (vals F (fieldsL F.k))))
    generalize bs (numsB ([F.k, F.v, F.d, 0])) = X at *
    generalize bs (numsB (vals F (fieldsL F.k))) = Y at *
    have hsz := HE1.out
    have hsz2 : ¬ 9223372036854775807 < X.size + Y.size := hsz
    refine hK.out _ _ (h11) (fun hHeld' => ?_)
    clear hK K hHeld
    have hHeld := hHeld'; clear hHeld'
    try simp only [Act.put, List.setIfInBounds_toArray, List.set_cons_zero, List.set_cons_succ]
    refine wpAnyH_take (i := 15) (oi := { dst := some 24, op := Op.binOp BinOp.add 9 (Operand.tmp 17) (Operand.tmp 23) 9, type := 9, pos := "code.go:16", after := #[{ on := 8, ground := Ground.data }, { on := 14, ground := Ground.data }], guard := none }) (v := ?vr15) rfl (by kernel_rfl) (by kernel_rfl) (by kernel_rfl) (fun _ _ _ h => h) (Or.inl ⟨by rfl, ?yr15⟩) (by assumption) ?tr15
    case yr15 => (intro wz hSw; clear hSw; go_simp; try with_reducible rfl)
    simp only [Act.put, List.setIfInBounds_toArray, List.set_cons_zero, List.set_cons_succ]
    refine wpAnyH_take (i := 16) (oi := { dst := some 4, op := Op.assign (Operand.tmp 24), type := 9, pos := "code.go:16", after := #[{ on := 15, ground := Ground.data }, { on := 14, ground := Ground.chain }, { on := 0, ground := Ground.phase }, { on := 1, ground := Ground.phase }, { on := 2, ground := Ground.phase }, { on := 3, ground := Ground.phase }, { on := 4, ground := Ground.phase }, { on := 5, ground := Ground.phase }, { on := 6, ground := Ground.phase }, { on := 7, ground := Ground.phase }, { on := 8, ground := Ground.phase }, { on := 9, ground := Ground.phase }, { on := 10, ground := Ground.phase }, { on := 11, ground := Ground.phase }, { on := 12, ground := Ground.phase }, { on := 13, ground := Ground.phase }, { on := 14, ground := Ground.phase }, { on := 15, ground := Ground.phase }], guard := none }) (v := ?vr16) rfl (by kernel_rfl) (by kernel_rfl) (by kernel_rfl) (fun _ _ _ h => h) (Or.inl ⟨by rfl, ?yr16⟩) (by assumption) ?tr16
    case yr16 => (intro wz hSw; clear hSw; go_simp; try with_reducible rfl)
    simp only [Act.put, List.setIfInBounds_toArray, List.set_cons_zero, List.set_cons_succ]
    refine wpAnyH_done (by kernel_rfl) ?_ _
    clear hsz hsz2
    have c0 := box_cell HB11.out.1 0 (.int .i64 F.k) rfl
    have c18 := box_cell HB11.out.1 18 (.string F.tx) rfl
    by_cases hk : F.k = 5
    · have HP := Lib.hid (show Calls Tryd.prog 46 #[.string F.tx] w11 fun e w' => e = .returned (.tuple #[.string (bs (Wa.Enc.pstrBytes F.tx.data.toList)), .int .i64 (Wa.Enc.pstrErr F.tx.data.toList)]) ∧ Below w11.heap.size w11 w' from Wa.pstr_any F.tx w11 HS.out)
      have HL := Lib.hid (pstr_len F.tx)
      have HFin := Lib.hid (show encB F = numsB ([F.k, F.v, F.d, 0]) ++ numsB (vals F (fieldsL F.k)) ++ Wa.Enc.pstrBytes F.tx.data.toList by rw [HG.out, if_pos hk])
      go_wp2_with fail
      refine HP.out.mono ?_; rintro e w12 ⟨rfl, g12⟩
      have HB12 := Lib.hid (below_step HB11.out.2 g12)
      have HE4 := Lib.hid (bs_append (numsB ([F.k, F.v, F.d, 0]) ++ numsB (vals F (fieldsL F.k))) (Wa.Enc.pstrBytes F.tx.data.toList))
      have HZs := Lib.hid (bs_size (Wa.Enc.pstrBytes F.tx.data.toList))
      have HE5 := Lib.hid (show X ++ Y = bs (numsB ([F.k, F.v, F.d, 0]) ++ numsB (vals F (fieldsL F.k))) from HE2.out)
      have HE6 := Lib.hid (show (X ++ Y).size = X.size + Y.size from ByteArray.size_append)
      generalize X ++ Y = XY at *
      generalize bs (Wa.Enc.pstrBytes F.tx.data.toList) = Z at *
      have hsz3 : ¬ XY.size + Z.size > 9223372036854775807 := by have h1 := HE6.out; have h2 := HXY.out; have h3 := HZs.out; have h4 := HL.out; omega
      have hsz4 : ¬ 9223372036854775807 < XY.size + Z.size := hsz3
      clear g12 c0 c18
      go_wp2_with fail
      go_ret
      exact ⟨by rw [HFin.out, ← HE4.out, ← HE5.out]; rfl, HB12.out⟩
    · have HFin := Lib.hid (show encB F = numsB ([F.k, F.v, F.d, 0]) ++ numsB (vals F (fieldsL F.k)) by rw [HG.out, if_neg hk, List.append_nil])
      go_wp2_with fail
      go_ret
      exact ⟨by rw [HFin.out, ← HE2.out]; rfl, HB11.out.2⟩
  | true =>
    rw [hg] at c4
    have HG := Lib.hid (show encB F = numsB [F.k, F.v, F.d, 1] ++ numsB (vals F (fieldsL F.k)) ++ (if F.k = 5 then Wa.Enc.pstrBytes F.tx.data.toList else []) by unfold encB headN goneN; rw [hg]; rfl)
    clear hg
    go_wp2_with fail
    refine wp_region_held_drew (S := (fun v => v.heap[w.heap.size]? = some (factObj F) ∧ Below w.heap.size w v)) (by kernel_rfl) (⟨HF.out, HB.out.drew⟩) (fun hHeld => ?_)
    have HFd := Lib.hid hHeld.1
    have HBd := Lib.hid hHeld.2
    generalize w1.drew = wd at *
    refine wpAnyH_take (i := 0) (oi := { dst := some 9, op := Op.fieldAddr 23 (Operand.tmp 1) 0, type := 0, pos := "code.go:16", after := #[], guard := none }) (v := ?vs0) rfl (by kernel_rfl) (by kernel_rfl) (by kernel_rfl) (fun _ _ _ h => h) (Or.inl ⟨by rfl, ?ys0⟩) (by assumption) ?ts0
    case ys0 => (intro wz hSw; clear hSw; go_simp; try with_reducible rfl)
    simp only [Act.put, List.setIfInBounds_toArray, List.set_cons_zero, List.set_cons_succ]
    refine wpAnyH_take (i := 1) (oi := { dst := some 10, op := Op.load 3 (Operand.tmp 9), type := 3, pos := "code.go:16", after := #[{ on := 0, ground := Ground.data }], guard := none }) (v := ?vs1) rfl (by kernel_rfl) (by kernel_rfl) (by kernel_rfl) (fun _ _ _ h => h) (Or.inl ⟨by rfl, ?ys1⟩) (by assumption) ?ts1
    case ys1 => (intro wz hSw; have q0 := box_cell hSw.1 0 (.int .i64 F.k) rfl; have q2 := box_cell hSw.1 2 (.int .i64 F.v) rfl; have q3 := box_cell hSw.1 3 (.int .i64 F.d) rfl; clear hSw; go_simp; try with_reducible rfl)
    simp only [Act.put, List.setIfInBounds_toArray, List.set_cons_zero, List.set_cons_succ]
    refine wpAnyH_take (i := 2) (oi := { dst := some 11, op := Op.fieldAddr 23 (Operand.tmp 1) 2, type := 0, pos := "code.go:16", after := #[], guard := none }) (v := ?vs2) rfl (by kernel_rfl) (by kernel_rfl) (by kernel_rfl) (fun _ _ _ h => h) (Or.inl ⟨by rfl, ?ys2⟩) (by assumption) ?ts2
    case ys2 => (intro wz hSw; clear hSw; go_simp; try with_reducible rfl)
    simp only [Act.put, List.setIfInBounds_toArray, List.set_cons_zero, List.set_cons_succ]
    refine wpAnyH_take (i := 3) (oi := { dst := some 12, op := Op.load 3 (Operand.tmp 11), type := 3, pos := "code.go:16", after := #[{ on := 2, ground := Ground.data }], guard := none }) (v := ?vs3) rfl (by kernel_rfl) (by kernel_rfl) (by kernel_rfl) (fun _ _ _ h => h) (Or.inl ⟨by rfl, ?ys3⟩) (by assumption) ?ts3
    case ys3 => (intro wz hSw; have q0 := box_cell hSw.1 0 (.int .i64 F.k) rfl; have q2 := box_cell hSw.1 2 (.int .i64 F.v) rfl; have q3 := box_cell hSw.1 3 (.int .i64 F.d) rfl; clear hSw; go_simp; try with_reducible rfl)
    simp only [Act.put, List.setIfInBounds_toArray, List.set_cons_zero, List.set_cons_succ]
    refine wpAnyH_take (i := 4) (oi := { dst := some 13, op := Op.fieldAddr 23 (Operand.tmp 1) 3, type := 0, pos := "code.go:16", after := #[], guard := none }) (v := ?vs4) rfl (by kernel_rfl) (by kernel_rfl) (by kernel_rfl) (fun _ _ _ h => h) (Or.inl ⟨by rfl, ?ys4⟩) (by assumption) ?ts4
    case ys4 => (intro wz hSw; clear hSw; go_simp; try with_reducible rfl)
    simp only [Act.put, List.setIfInBounds_toArray, List.set_cons_zero, List.set_cons_succ]
    refine wpAnyH_take (i := 5) (oi := { dst := some 14, op := Op.load 3 (Operand.tmp 13), type := 3, pos := "code.go:16", after := #[{ on := 4, ground := Ground.data }], guard := none }) (v := ?vs5) rfl (by kernel_rfl) (by kernel_rfl) (by kernel_rfl) (fun _ _ _ h => h) (Or.inl ⟨by rfl, ?ys5⟩) (by assumption) ?ts5
    case ys5 => (intro wz hSw; have q0 := box_cell hSw.1 0 (.int .i64 F.k) rfl; have q2 := box_cell hSw.1 2 (.int .i64 F.v) rfl; have q3 := box_cell hSw.1 3 (.int .i64 F.d) rfl; clear hSw; go_simp; try with_reducible rfl)
    simp only [Act.put, List.setIfInBounds_toArray, List.set_cons_zero, List.set_cons_succ]
    refine wpAnyH_take (i := 6) (oi := { dst := some 15, op := Op.move (Operand.tmp 3), type := 3, pos := "code.go:16", after := #[], guard := none }) (v := ?vs6) rfl (by kernel_rfl) (by kernel_rfl) (by kernel_rfl) (fun _ _ _ h => h) (Or.inl ⟨by rfl, ?ys6⟩) (by assumption) ?ts6
    case ys6 => (intro wz hSw; clear hSw; go_simp; try with_reducible rfl)
    simp only [Act.put, List.setIfInBounds_toArray, List.set_cons_zero, List.set_cons_succ]
    refine wpAnyH_take (i := 9) (oi := { dst := some 18, op := Op.load 23 (Operand.tmp 1), type := 23, pos := "code.go:16", after := #[], guard := none }) (v := factV F) rfl (by kernel_rfl) (by kernel_rfl) (by kernel_rfl) (fun _ _ _ h => h) (Or.inl ⟨by rfl, fun wz hSw => sem_load_fact _ rfl (w.heap.size) rfl F (hSw.1)⟩) (by assumption) ?ts9
    simp only [Act.put, List.setIfInBounds_toArray, List.set_cons_zero, List.set_cons_succ]
    refine wpAnyH_take (i := 10) (oi := { dst := some 19, op := Op.fieldAddr 23 (Operand.tmp 1) 0, type := 0, pos := "code.go:16", after := #[], guard := none }) (v := ?vs10) rfl (by kernel_rfl) (by kernel_rfl) (by kernel_rfl) (fun _ _ _ h => h) (Or.inl ⟨by rfl, ?ys10⟩) (by assumption) ?ts10
    case ys10 => (intro wz hSw; clear hSw; go_simp; try with_reducible rfl)
    simp only [Act.put, List.setIfInBounds_toArray, List.set_cons_zero, List.set_cons_succ]
    refine wpAnyH_take (i := 11) (oi := { dst := some 20, op := Op.load 3 (Operand.tmp 19), type := 3, pos := "code.go:16", after := #[{ on := 10, ground := Ground.data }], guard := none }) (v := ?vs11) rfl (by kernel_rfl) (by kernel_rfl) (by kernel_rfl) (fun _ _ _ h => h) (Or.inl ⟨by rfl, ?ys11⟩) (by assumption) ?ts11
    case ys11 => (intro wz hSw; have q0 := box_cell hSw.1 0 (.int .i64 F.k) rfl; have q2 := box_cell hSw.1 2 (.int .i64 F.v) rfl; have q3 := box_cell hSw.1 3 (.int .i64 F.d) rfl; clear hSw; go_simp; try with_reducible rfl)
    simp only [Act.put, List.setIfInBounds_toArray, List.set_cons_zero, List.set_cons_succ]
    refine wpAnyH_ready (rs := [7]) (by kernel_rfl) (by simp) ?_
    refine AllReadyH.cons (o := { dst := some 16, op := Op.buildSlice 36 4 #[(0, Operand.tmp 10), (1, Operand.tmp 12), (2, Operand.tmp 14), (3, Operand.tmp 15)], type := 36, pos := "code.go:16", after := #[{ on := 1, ground := Ground.data }, { on := 3, ground := Ground.data }, { on := 5, ground := Ground.data }, { on := 6, ground := Ground.data }], guard := none }) rfl (fun K hK => ?_) AllReadyH.nil
    have h7 : (wd.alloc (.cells #[.int .i64 F.k, .int .i64 F.v, .int .i64 F.d, .int .i64 1] 3)).heap[w.heap.size]? = some (factObj F) ∧ Below w.heap.size w (wd.alloc (.cells #[.int .i64 F.k, .int .i64 F.v, .int .i64 F.d, .int .i64 1] 3)) := ⟨box_below HFd.out (below_new _ _), below_step HBd.out (below_new _ _)⟩
    have HI7 := Lib.hid (show IntsA (wd.alloc (.cells #[.int .i64 F.k, .int .i64 F.v, .int .i64 F.d, .int .i64 1] 3)) (some ⟨wd.heap.size, 0, none⟩) 4 ([F.k, F.v, F.d, 1]) from ints_new (l := [F.k, F.v, F.d, 1]) rfl (by simp))
    go_simp
    refine hK.out _ _ (h7) (fun hHeld' => ?_)
    clear hK K hHeld
    have hHeld := hHeld'; clear hHeld'
    try simp only [Act.put, List.setIfInBounds_toArray, List.set_cons_zero, List.set_cons_succ]
    refine wpAnyH_ready (rs := [8]) (by kernel_rfl) (by simp) ?_
    refine AllReadyH.cons (o := { dst := some 17, op := Op.call { callee := Callee.value (Operand.func 37), args := #[Operand.tmp 16], argTypes := #[36] }, type := 9, pos := "code.go:16", after := #[{ on := 7, ground := Ground.data }], guard := none }) rfl (fun K hK => ?_) AllReadyH.nil
    generalize wd.alloc (.cells #[.int .i64 F.k, .int .i64 F.v, .int .i64 F.d, .int .i64 1] 3) = w7 at *
    have HB7 := Lib.hid hHeld
    go_simp
    refine (put_any ([F.k, F.v, F.d, 1]) _ 4 w7 HI7.out (by simp)).mono ?_; rintro e w8 ⟨rfl, g8⟩
    have h8 : w8.heap[w.heap.size]? = some (factObj F) ∧ Below w.heap.size w w8 := ⟨box_below HB7.out.1 g8, below_step HB7.out.2 g8⟩
    refine hK.out _ _ (h8) (fun hHeld' => ?_)
    clear hK K hHeld
    have hHeld := hHeld'; clear hHeld'
    try simp only [Act.put, List.setIfInBounds_toArray, List.set_cons_zero, List.set_cons_succ]
    refine wpAnyH_ready (rs := [12]) (by kernel_rfl) (by simp) ?_
    refine AllReadyH.cons (o := { dst := some 21, op := Op.call { callee := Callee.value (Operand.func 45), args := #[Operand.tmp 20], argTypes := #[3] }, type := 53, pos := "code.go:16", after := #[{ on := 11, ground := Ground.data }, { on := 8, ground := Ground.chain }], guard := none }) rfl (fun K hK => ?_) AllReadyH.nil
    have HB8 := Lib.hid hHeld
    go_simp
    refine (fields_any F.k w8).mono ?_; rintro e w9 ⟨ra, rc, rfl, hr, -, g9⟩
    have HR9 := Lib.hid hr
    have h9 : w9.heap[w.heap.size]? = some (factObj F) ∧ Below w.heap.size w w9 := ⟨box_below HB8.out.1 g9, below_step HB8.out.2 g9⟩
    refine hK.out _ _ (h9) (fun hHeld' => ?_)
    clear hK K hHeld
    have hHeld := hHeld'; clear hHeld'
    try simp only [Act.put, List.setIfInBounds_toArray, List.set_cons_zero, List.set_cons_succ]
    refine wpAnyH_ready (rs := [13]) (by kernel_rfl) (by simp) ?_
    refine AllReadyH.cons (o := { dst := some 22, op := Op.call { callee := Callee.value (Operand.func 38), args := #[Operand.tmp 18, Operand.tmp 21], argTypes := #[23, 53] }, type := 36, pos := "code.go:16", after := #[{ on := 9, ground := Ground.data }, { on := 12, ground := Ground.data }, { on := 12, ground := Ground.chain }], guard := none }) rfl (fun K hK => ?_) AllReadyH.nil
    have HB9 := Lib.hid hHeld
    go_simp
    refine (values_any F (fieldsL F.k) ra rc w9 HR9.out (by have := fields_len F.k; omega) fields_lt).mono ?_; rintro e w10 ⟨va, vc, rfl, hv, -, g10⟩
    have HV10 := Lib.hid hv
    have h10 : w10.heap[w.heap.size]? = some (factObj F) ∧ Below w.heap.size w w10 := ⟨box_below HB9.out.1 g10, below_step HB9.out.2 g10⟩
    refine hK.out _ _ (h10) (fun hHeld' => ?_)
    clear hK K hHeld
    have hHeld := hHeld'; clear hHeld'
    try simp only [Act.put, List.setIfInBounds_toArray, List.set_cons_zero, List.set_cons_succ]
    refine wpAnyH_ready (rs := [14]) (by kernel_rfl) (by simp) ?_
    refine AllReadyH.cons (o := { dst := some 23, op := Op.call { callee := Callee.value (Operand.func 37), args := #[Operand.tmp 22], argTypes := #[36] }, type := 9, pos := "code.go:16", after := #[{ on := 13, ground := Ground.data }, { on := 13, ground := Ground.chain }], guard := none }) rfl (fun K hK => ?_) AllReadyH.nil
    have HB10 := Lib.hid hHeld
    go_simp
    refine (put_any (vals F (fieldsL F.k)) va vc w10 HV10.out (by unfold vals; rw [List.length_map]; have := fields_len F.k; omega)).mono ?_; rintro e w11 ⟨rfl, g11⟩
    have h11 : w11.heap[w.heap.size]? = some (factObj F) ∧ Below w.heap.size w w11 := ⟨box_below HB10.out.1 g11, below_step HB10.out.2 g11⟩
    have HB11 := Lib.hid h11
    have HE1 := Lib.hid (show ¬ (bs (numsB ([F.k, F.v, F.d, 1]))).size + (bs (numsB (vals F (fieldsL F.k)))).size > 9223372036854775807 by rw [bs_size, bs_size]; have h1 := numsB_len ([F.k, F.v, F.d, 1]); have h2 := numsB_len (vals F (fieldsL F.k)); have h3 := fields_len F.k; unfold vals at h2; rw [List.length_map] at h2; simp only [List.length_cons, List.length_nil] at h1; unfold vals; omega)
    have HXY := Lib.hid (show (bs (numsB ([F.k, F.v, F.d, 1]))).size + (bs (numsB (vals F (fieldsL F.k)))).size ≤ 1000 by rw [bs_size, bs_size]; have h1 := numsB_len ([F.k, F.v, F.d, 1]); have h2 := numsB_len (vals F (fieldsL F.k)); have h3 := fields_len F.k; unfold vals at h2; rw [List.length_map] at h2; simp only [List.length_cons, List.length_nil] at h1; unfold vals; omega)
    have HE2 := Lib.hid (bs_append (numsB ([F.k, F.v, F.d, 1])) (numsB (vals F (fieldsL F.k))))
    generalize bs (numsB ([F.k, F.v, F.d, 1])) = X at *
    generalize bs (numsB (vals F (fieldsL F.k))) = Y at *
    have hsz := HE1.out
    have hsz2 : ¬ 9223372036854775807 < X.size + Y.size := hsz
    refine hK.out _ _ (h11) (fun hHeld' => ?_)
    clear hK K hHeld
    have hHeld := hHeld'; clear hHeld'
    try simp only [Act.put, List.setIfInBounds_toArray, List.set_cons_zero, List.set_cons_succ]
    refine wpAnyH_take (i := 15) (oi := { dst := some 24, op := Op.binOp BinOp.add 9 (Operand.tmp 17) (Operand.tmp 23) 9, type := 9, pos := "code.go:16", after := #[{ on := 8, ground := Ground.data }, { on := 14, ground := Ground.data }], guard := none }) (v := ?vs15) rfl (by kernel_rfl) (by kernel_rfl) (by kernel_rfl) (fun _ _ _ h => h) (Or.inl ⟨by rfl, ?ys15⟩) (by assumption) ?ts15
    case ys15 => (intro wz hSw; clear hSw; go_simp; try with_reducible rfl)
    simp only [Act.put, List.setIfInBounds_toArray, List.set_cons_zero, List.set_cons_succ]
    refine wpAnyH_take (i := 16) (oi := { dst := some 4, op := Op.assign (Operand.tmp 24), type := 9, pos := "code.go:16", after := #[{ on := 15, ground := Ground.data }, { on := 14, ground := Ground.chain }, { on := 0, ground := Ground.phase }, { on := 1, ground := Ground.phase }, { on := 2, ground := Ground.phase }, { on := 3, ground := Ground.phase }, { on := 4, ground := Ground.phase }, { on := 5, ground := Ground.phase }, { on := 6, ground := Ground.phase }, { on := 7, ground := Ground.phase }, { on := 8, ground := Ground.phase }, { on := 9, ground := Ground.phase }, { on := 10, ground := Ground.phase }, { on := 11, ground := Ground.phase }, { on := 12, ground := Ground.phase }, { on := 13, ground := Ground.phase }, { on := 14, ground := Ground.phase }, { on := 15, ground := Ground.phase }], guard := none }) (v := ?vs16) rfl (by kernel_rfl) (by kernel_rfl) (by kernel_rfl) (fun _ _ _ h => h) (Or.inl ⟨by rfl, ?ys16⟩) (by assumption) ?ts16
    case ys16 => (intro wz hSw; clear hSw; go_simp; try with_reducible rfl)
    simp only [Act.put, List.setIfInBounds_toArray, List.set_cons_zero, List.set_cons_succ]
    refine wpAnyH_done (by kernel_rfl) ?_ _
    clear hsz hsz2
    have c0 := box_cell HB11.out.1 0 (.int .i64 F.k) rfl
    have c18 := box_cell HB11.out.1 18 (.string F.tx) rfl
    by_cases hk : F.k = 5
    · have HP := Lib.hid (show Calls Tryd.prog 46 #[.string F.tx] w11 fun e w' => e = .returned (.tuple #[.string (bs (Wa.Enc.pstrBytes F.tx.data.toList)), .int .i64 (Wa.Enc.pstrErr F.tx.data.toList)]) ∧ Below w11.heap.size w11 w' from Wa.pstr_any F.tx w11 HS.out)
      have HL := Lib.hid (pstr_len F.tx)
      have HFin := Lib.hid (show encB F = numsB ([F.k, F.v, F.d, 1]) ++ numsB (vals F (fieldsL F.k)) ++ Wa.Enc.pstrBytes F.tx.data.toList by rw [HG.out, if_pos hk])
      go_wp2_with fail
      refine HP.out.mono ?_; rintro e w12 ⟨rfl, g12⟩
      have HB12 := Lib.hid (below_step HB11.out.2 g12)
      have HE4 := Lib.hid (bs_append (numsB ([F.k, F.v, F.d, 1]) ++ numsB (vals F (fieldsL F.k))) (Wa.Enc.pstrBytes F.tx.data.toList))
      have HZs := Lib.hid (bs_size (Wa.Enc.pstrBytes F.tx.data.toList))
      have HE5 := Lib.hid (show X ++ Y = bs (numsB ([F.k, F.v, F.d, 1]) ++ numsB (vals F (fieldsL F.k))) from HE2.out)
      have HE6 := Lib.hid (show (X ++ Y).size = X.size + Y.size from ByteArray.size_append)
      generalize X ++ Y = XY at *
      generalize bs (Wa.Enc.pstrBytes F.tx.data.toList) = Z at *
      have hsz3 : ¬ XY.size + Z.size > 9223372036854775807 := by have h1 := HE6.out; have h2 := HXY.out; have h3 := HZs.out; have h4 := HL.out; omega
      have hsz4 : ¬ 9223372036854775807 < XY.size + Z.size := hsz3
      clear g12 c0 c18
      go_wp2_with fail
      go_ret
      exact ⟨by rw [HFin.out, ← HE4.out, ← HE5.out]; rfl, HB12.out⟩
    · have HFin := Lib.hid (show encB F = numsB ([F.k, F.v, F.d, 1]) ++ numsB (vals F (fieldsL F.k)) by rw [HG.out, if_neg hk, List.append_nil])
      go_wp2_with fail
      go_ret
      exact ⟨by rw [HFin.out, ← HE2.out]; rfl, HB11.out.2⟩
set_option maxRecDepth 100000 in
set_option maxHeartbeats 8000000 in
theorem key_any (F : Fact) (w : World) (hT : Tab w) (hs : F.tx.size ≤ maxLen) : Calls Tryd.prog 18 #[factV F] w (StrPost (keyB F) w) := by
  have HF := Lib.hid (heap_alloc_new w (factObj F))
  have HB := Lib.hid (below_new w (factObj F))
  have HV := Lib.hid (valid_any F (w.alloc (factObj F)) (hT.below HB.out) hs)
  unfold BoolPost at HV
  have HK := Lib.hid (show keyB F = if validB F then numsB [F.k] ++ numsB (vals F (keyL F.k)) else [] from rfl)
  clear hT hs
  go_enter Tryd.func18, Tryd.ntmps18
  go_upto_region 1 with (fail)
  generalize w.alloc (factObj F) = w1 at *
  generalize validB F = B at *
  go_wp2_with (refine wpList_load_fact rfl _ rfl _ rfl F HF.out ?_)
  refine HV.out.mono ?_; rintro e w2 ⟨rfl, g2⟩
  have HF2 := Lib.hid (box_below HF.out g2)
  have HB2 := Lib.hid (below_step HB.out g2)
  clear g2 HF HB HV
  cases B with
  | false =>
    have HR := Lib.hid (show keyB F = [] by rw [HK.out]; rfl)
    go_wp2_with fail
    go_ret
    exact ⟨by rw [HR.out]; rfl, HB2.out⟩
  | true =>
    have HR := Lib.hid (show keyB F = numsB [F.k] ++ numsB (vals F (keyL F.k)) by rw [HK.out]; rfl)
    go_wp2_with fail
    refine wp_region_held_drew (S := (fun v => v.heap[w.heap.size]? = some (factObj F) ∧ Below w.heap.size w v)) (by kernel_rfl) (⟨HF2.out, HB2.out.drew⟩) (fun hHeld => ?_)
    have HFd := Lib.hid hHeld.1
    have HBd := Lib.hid hHeld.2
    generalize w2.drew = wd at *
    refine wpAnyH_take (i := 0) (oi := { dst := some 6, op := Op.fieldAddr 23 (Operand.tmp 1) 0, type := 0, pos := "fact.go:17", after := #[], guard := none }) (v := ?vk0) rfl (by kernel_rfl) (by kernel_rfl) (by kernel_rfl) (fun _ _ _ h => h) (Or.inl ⟨by rfl, ?yk0⟩) (by assumption) ?tk0
    case yk0 => (intro wz hSw; clear hSw; go_simp; try with_reducible rfl)
    simp only [Act.put, List.setIfInBounds_toArray, List.set_cons_zero, List.set_cons_succ]
    refine wpAnyH_take (i := 1) (oi := { dst := some 7, op := Op.load 3 (Operand.tmp 6), type := 3, pos := "fact.go:17", after := #[{ on := 0, ground := Ground.data }], guard := none }) (v := ?vk1) rfl (by kernel_rfl) (by kernel_rfl) (by kernel_rfl) (fun _ _ _ h => h) (Or.inl ⟨by rfl, ?yk1⟩) (by assumption) ?tk1
    case yk1 => (intro wz hSw; have q0 := box_cell hSw.1 0 (.int .i64 F.k) rfl; clear hSw; go_simp; try with_reducible rfl)
    simp only [Act.put, List.setIfInBounds_toArray, List.set_cons_zero, List.set_cons_succ]
    refine wpAnyH_take (i := 4) (oi := { dst := some 10, op := Op.load 23 (Operand.tmp 1), type := 23, pos := "fact.go:17", after := #[], guard := none }) (v := factV F) rfl (by kernel_rfl) (by kernel_rfl) (by kernel_rfl) (fun _ _ _ h => h) (Or.inl ⟨by rfl, fun wz hSw => sem_load_fact _ rfl (w.heap.size) rfl F (hSw.1)⟩) (by assumption) ?tk4
    simp only [Act.put, List.setIfInBounds_toArray, List.set_cons_zero, List.set_cons_succ]
    refine wpAnyH_take (i := 5) (oi := { dst := some 11, op := Op.fieldAddr 23 (Operand.tmp 1) 0, type := 0, pos := "fact.go:17", after := #[], guard := none }) (v := ?vk5) rfl (by kernel_rfl) (by kernel_rfl) (by kernel_rfl) (fun _ _ _ h => h) (Or.inl ⟨by rfl, ?yk5⟩) (by assumption) ?tk5
    case yk5 => (intro wz hSw; clear hSw; go_simp; try with_reducible rfl)
    simp only [Act.put, List.setIfInBounds_toArray, List.set_cons_zero, List.set_cons_succ]
    refine wpAnyH_take (i := 6) (oi := { dst := some 12, op := Op.load 3 (Operand.tmp 11), type := 3, pos := "fact.go:17", after := #[{ on := 5, ground := Ground.data }], guard := none }) (v := ?vk6) rfl (by kernel_rfl) (by kernel_rfl) (by kernel_rfl) (fun _ _ _ h => h) (Or.inl ⟨by rfl, ?yk6⟩) (by assumption) ?tk6
    case yk6 => (intro wz hSw; have q0 := box_cell hSw.1 0 (.int .i64 F.k) rfl; clear hSw; go_simp; try with_reducible rfl)
    simp only [Act.put, List.setIfInBounds_toArray, List.set_cons_zero, List.set_cons_succ]
    refine wpAnyH_ready (rs := [2]) (by kernel_rfl) (by simp) ?_
    refine AllReadyH.cons (o := { dst := some 8, op := Op.buildSlice 36 1 #[(0, Operand.tmp 7)], type := 36, pos := "fact.go:17", after := #[{ on := 1, ground := Ground.data }], guard := none }) rfl (fun K hK => ?_) AllReadyH.nil
    have h7 : (wd.alloc (.cells #[.int .i64 F.k] 3)).heap[w.heap.size]? = some (factObj F) ∧ Below w.heap.size w (wd.alloc (.cells #[.int .i64 F.k] 3)) := ⟨box_below HFd.out (below_new _ _), below_step HBd.out (below_new _ _)⟩
    have HI7 := Lib.hid (show IntsA (wd.alloc (.cells #[.int .i64 F.k] 3)) (some ⟨wd.heap.size, 0, none⟩) 1 ([F.k]) from ints_new (l := [F.k]) rfl (by simp))
    go_simp
    refine hK.out _ _ (h7) (fun hHeld' => ?_)
    clear hK K hHeld
    have hHeld := hHeld'; clear hHeld'
    try simp only [Act.put, List.setIfInBounds_toArray, List.set_cons_zero, List.set_cons_succ]
    refine wpAnyH_ready (rs := [3]) (by kernel_rfl) (by simp) ?_
    refine AllReadyH.cons (o := { dst := some 9, op := Op.call { callee := Callee.value (Operand.func 37), args := #[Operand.tmp 8], argTypes := #[36] }, type := 9, pos := "fact.go:17", after := #[{ on := 2, ground := Ground.data }], guard := none }) rfl (fun K hK => ?_) AllReadyH.nil
    generalize wd.alloc (.cells #[.int .i64 F.k] 3) = w7 at *
    have HB7 := Lib.hid hHeld
    go_simp
    refine (put_any ([F.k]) _ 1 w7 HI7.out (by simp)).mono ?_; rintro e w8 ⟨rfl, g8⟩
    have h8 : w8.heap[w.heap.size]? = some (factObj F) ∧ Below w.heap.size w w8 := ⟨box_below HB7.out.1 g8, below_step HB7.out.2 g8⟩
    refine hK.out _ _ (h8) (fun hHeld' => ?_)
    clear hK K hHeld
    have hHeld := hHeld'; clear hHeld'
    try simp only [Act.put, List.setIfInBounds_toArray, List.set_cons_zero, List.set_cons_succ]
    refine wpAnyH_ready (rs := [7]) (by kernel_rfl) (by simp) ?_
    refine AllReadyH.cons (o := { dst := some 13, op := Op.call { callee := Callee.value (Operand.func 39), args := #[Operand.tmp 12], argTypes := #[3] }, type := 53, pos := "fact.go:17", after := #[{ on := 6, ground := Ground.data }, { on := 3, ground := Ground.chain }], guard := none }) rfl (fun K hK => ?_) AllReadyH.nil
    have HB8 := Lib.hid hHeld
    go_simp
    refine (keyFields_any F.k w8).mono ?_; rintro e w9 ⟨ra, rc, rfl, hr, -, g9⟩
    have HR9 := Lib.hid hr
    have h9 : w9.heap[w.heap.size]? = some (factObj F) ∧ Below w.heap.size w w9 := ⟨box_below HB8.out.1 g9, below_step HB8.out.2 g9⟩
    refine hK.out _ _ (h9) (fun hHeld' => ?_)
    clear hK K hHeld
    have hHeld := hHeld'; clear hHeld'
    try simp only [Act.put, List.setIfInBounds_toArray, List.set_cons_zero, List.set_cons_succ]
    refine wpAnyH_ready (rs := [8]) (by kernel_rfl) (by simp) ?_
    refine AllReadyH.cons (o := { dst := some 14, op := Op.call { callee := Callee.value (Operand.func 38), args := #[Operand.tmp 10, Operand.tmp 13], argTypes := #[23, 53] }, type := 36, pos := "fact.go:17", after := #[{ on := 4, ground := Ground.data }, { on := 7, ground := Ground.data }, { on := 7, ground := Ground.chain }], guard := none }) rfl (fun K hK => ?_) AllReadyH.nil
    have HB9 := Lib.hid hHeld
    go_simp
    refine (values_any F (keyL F.k) ra rc w9 HR9.out (by have := keys_len F.k; omega) keys_lt).mono ?_; rintro e w10 ⟨va, vc, rfl, hv, -, g10⟩
    have HV10 := Lib.hid hv
    have h10 : w10.heap[w.heap.size]? = some (factObj F) ∧ Below w.heap.size w w10 := ⟨box_below HB9.out.1 g10, below_step HB9.out.2 g10⟩
    refine hK.out _ _ (h10) (fun hHeld' => ?_)
    clear hK K hHeld
    have hHeld := hHeld'; clear hHeld'
    try simp only [Act.put, List.setIfInBounds_toArray, List.set_cons_zero, List.set_cons_succ]
    refine wpAnyH_ready (rs := [9]) (by kernel_rfl) (by simp) ?_
    refine AllReadyH.cons (o := { dst := some 15, op := Op.call { callee := Callee.value (Operand.func 37), args := #[Operand.tmp 14], argTypes := #[36] }, type := 9, pos := "fact.go:17", after := #[{ on := 8, ground := Ground.data }, { on := 8, ground := Ground.chain }], guard := none }) rfl (fun K hK => ?_) AllReadyH.nil
    have HB10 := Lib.hid hHeld
    go_simp
    refine (put_any (vals F (keyL F.k)) va vc w10 HV10.out (by unfold vals; rw [List.length_map]; have := keys_len F.k; omega)).mono ?_; rintro e w11 ⟨rfl, g11⟩
    have h11 : w11.heap[w.heap.size]? = some (factObj F) ∧ Below w.heap.size w w11 := ⟨box_below HB10.out.1 g11, below_step HB10.out.2 g11⟩
    have HB11 := Lib.hid h11
    have HE1 := Lib.hid (show ¬ (bs (numsB ([F.k]))).size + (bs (numsB (vals F (keyL F.k)))).size > 9223372036854775807 by rw [bs_size, bs_size]; have h1 := numsB_len ([F.k]); have h2 := numsB_len (vals F (keyL F.k)); have h3 := keys_len F.k; unfold vals at h2; rw [List.length_map] at h2; simp only [List.length_cons, List.length_nil] at h1; unfold vals; omega)
    have HXY := Lib.hid (show (bs (numsB ([F.k]))).size + (bs (numsB (vals F (keyL F.k)))).size ≤ 1000 by rw [bs_size, bs_size]; have h1 := numsB_len ([F.k]); have h2 := numsB_len (vals F (keyL F.k)); have h3 := keys_len F.k; unfold vals at h2; rw [List.length_map] at h2; simp only [List.length_cons, List.length_nil] at h1; unfold vals; omega)
    have HE2 := Lib.hid (bs_append (numsB ([F.k])) (numsB (vals F (keyL F.k))))
    generalize bs (numsB ([F.k])) = X at *
    generalize bs (numsB (vals F (keyL F.k))) = Y at *
    have hsz := HE1.out
    have hsz2 : ¬ 9223372036854775807 < X.size + Y.size := hsz
    refine hK.out _ _ (h11) (fun hHeld' => ?_)
    clear hK K hHeld
    have hHeld := hHeld'; clear hHeld'
    try simp only [Act.put, List.setIfInBounds_toArray, List.set_cons_zero, List.set_cons_succ]
    refine wpAnyH_take (i := 10) (oi := { dst := some 16, op := Op.binOp BinOp.add 9 (Operand.tmp 9) (Operand.tmp 15) 9, type := 9, pos := "fact.go:17", after := #[{ on := 3, ground := Ground.data }, { on := 9, ground := Ground.data }], guard := none }) (v := ?vk10) rfl (by kernel_rfl) (by kernel_rfl) (by kernel_rfl) (fun _ _ _ h => h) (Or.inl ⟨by rfl, ?yk10⟩) (by assumption) ?tk10
    case yk10 => (intro wz hSw; clear hSw; go_simp; try with_reducible rfl)
    simp only [Act.put, List.setIfInBounds_toArray, List.set_cons_zero, List.set_cons_succ]
    refine wpAnyH_take (i := 11) (oi := { dst := some 2, op := Op.assign (Operand.tmp 16), type := 9, pos := "fact.go:17", after := #[{ on := 10, ground := Ground.data }, { on := 9, ground := Ground.chain }, { on := 0, ground := Ground.phase }, { on := 1, ground := Ground.phase }, { on := 2, ground := Ground.phase }, { on := 3, ground := Ground.phase }, { on := 4, ground := Ground.phase }, { on := 5, ground := Ground.phase }, { on := 6, ground := Ground.phase }, { on := 7, ground := Ground.phase }, { on := 8, ground := Ground.phase }, { on := 9, ground := Ground.phase }, { on := 10, ground := Ground.phase }], guard := none }) (v := ?vk11) rfl (by kernel_rfl) (by kernel_rfl) (by kernel_rfl) (fun _ _ _ h => h) (Or.inl ⟨by rfl, ?yk11⟩) (by assumption) ?tk11
    case yk11 => (intro wz hSw; clear hSw; go_simp; try with_reducible rfl)
    simp only [Act.put, List.setIfInBounds_toArray, List.set_cons_zero, List.set_cons_succ]
    refine wpAnyH_done (by kernel_rfl) ?_ _
    clear hsz hsz2
    go_wp2_with fail
    go_ret
    exact ⟨by rw [HR.out, ← HE2.out]; rfl, HB11.out.2⟩
/-- What Encode leaves. -/
def EncPost (F : Fact) (w : World) (e : Ending) (w' : World) : Prop := e = .returned (.tuple #[.string (bs (if validB F then encB F else [])), .int .i64 (if validB F then 0 else 150)]) ∧ Below w.heap.size w w'
set_option maxRecDepth 100000 in
set_option maxHeartbeats 4000000 in
theorem encode_any (F : Fact) (w : World) (hT : Tab w) (hs : F.tx.size ≤ maxLen) : Calls Tryd.prog 14 #[factV F] w (EncPost F w) := by
  have HF := Lib.hid (heap_alloc_new w (factObj F))
  have HB := Lib.hid (below_new w (factObj F))
  have HV := Lib.hid (valid_any F (w.alloc (factObj F)) (hT.below HB.out) hs)
  unfold BoolPost at HV
  have HS := Lib.hid hs
  unfold EncPost
  clear hT hs
  generalize validB F = B at *
  go_enter Tryd.func14, Tryd.ntmps14
  go_upto_region 1 with (fail)
  generalize w.alloc (factObj F) = w1 at *
  go_wp2_with (refine wpList_load_fact rfl _ rfl _ rfl F HF.out ?_)
  refine HV.out.mono ?_; rintro e w2 ⟨rfl, g2⟩
  have HF2 := Lib.hid (box_below HF.out g2)
  have HB2 := Lib.hid (below_step HB.out g2)
  clear g2 HF HB HV
  cases B with
  | false =>
    go_wp2_with fail
    go_ret2
    exact ⟨rfl, HB2.out⟩
  | true =>
    have HE := Lib.hid (encoding_any F w2 HS.out)
    unfold StrPost at HE
    go_wp2_with (refine wpList_load_fact rfl _ rfl _ rfl F HF2.out ?_)
    refine HE.out.mono ?_; rintro e w3 ⟨rfl, g3⟩
    have HB3 := Lib.hid (below_step HB2.out g3)
    clear g3
    go_wp2_with fail
    go_ret2
    exact ⟨rfl, HB3.out⟩
end Go.Proofs.YtnmjcjkjdbkpnaaDoor
