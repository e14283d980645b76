/-
  The walk of FactKeys: it returns true for all arguments. Condition: the table reads as the program's text lays it.
-/
import Derived.Test.YtnmjcjkjdbkpnaaDoorKf
namespace Go.Proofs.YtnmjcjkjdbkpnaaDoor
open Go.RowKit Go.Shelf Fc
attribute [local go_sem] Oper.semAt_some
/-- Whether the kinds are equal and the fields that are named. -/
def sameB (F G : Fact) (l : List Nat) : Bool := (F.k == G.k) && l.all fun x => Fc.get F x == Fc.get G x
theorem same_succ (F G : Fact) (l : List Nat) (k x : Nat) (hx : l[k]? = some x) : sameB F G (l.take (k + 1)) = (sameB F G (l.take k) && (Fc.get F x == Fc.get G x)) := by
  unfold sameB
  rw [List.take_add_one, hx, List.all_append, Bool.and_assoc]
  simp
theorem same_key {F G : Fact} {l : List Nat} (hF : validB F = true) (hG : validB G = true) (hl : keyL F.k = l) : keyB F = keyB G ∧ sameB F G l = true ∨ keyB F ≠ keyB G ∧ sameB F G l = false := by
  have h := key_iff hF hG
  rw [hl] at h
  have h2 : sameB F G l = true ↔ F.k = G.k ∧ ∀ x ∈ l, Fc.get F x = Fc.get G x := by unfold sameB; simp
  cases hs : sameB F G l with
  | true => exact .inl ⟨h.2 (h2.1 hs), rfl⟩
  | false => exact .inr ⟨fun e => Bool.noConfusion (hs.symm.trans (h2.2 (h.1 e))), rfl⟩
set_option maxRecDepth 100000 in
set_option maxHeartbeats 16000000 in
theorem keys_walk (F G : Fact) (al : Bool) (W : World) (ht : Tab W) (hs : F.tx.size ≤ maxLen) (hs2 : G.tx.size ≤ maxLen) : Calls Tryd.prog 8 #[factV F, factV G, .bool al] W fun e w' => e = .returned (.bool true) ∧ Below W.heap.size W w' := by
  obtain ⟨W2, hW2⟩ : ∃ V, (W.alloc (factObj F)).alloc (factObj G) = V := ⟨_, rfl⟩
  have HTn := Lib.hid ht.1
  have hb2 : Below W.heap.size W W2 := by rw [← hW2]; exact below_step (below_new _ _) (below_new _ _)
  have HF := Lib.hid (show W2.heap[W.heap.size]? = some (factObj F) from by rw [← hW2]; exact box_below (heap_alloc_new _ _) (below_new _ _))
  have HG := Lib.hid (show W2.heap[W.heap.size + 1]? = some (factObj G) from by
    rw [← hW2]
    have := heap_alloc_new (W.alloc (factObj F)) (factObj G)
    rwa [World.size_alloc] at this)
  have HB := Lib.hid hb2
  have HT := Lib.hid (ht.below hb2)
  have HTW := Lib.hid ht
  have HS1 := Lib.hid hs
  have HS2 := Lib.hid hs2
  clear ht hs hs2 hb2
  go_enter Tryd.func8, Tryd.ntmps8
  go_upto_region 1 with (fail)
  clear hW2
  go_wp2_with fail
  refine (sane_any W2 HT.out).mono ?_; rintro e w2 ⟨rfl, g2⟩
  have HT2 := Lib.hid (HT.out.below g2)
  have HB2 := Lib.hid (below_step HB.out g2)
  have HF2 := Lib.hid (box_below HF.out g2)
  have HG2 := Lib.hid (box_below HG.out g2)
  clear g2 HT HB HF HG
  go_wp2_with (refine wpList_load_fact rfl _ rfl _ rfl F HF2.out ?_)
  refine (cut_any F w2 HS1.out).mono ?_; rintro e w3 ⟨rfl, g3⟩
  have HT3 := Lib.hid (HT2.out.below g3)
  have HB3 := Lib.hid (below_step HB2.out g3)
  have HF3 := Lib.hid (box_below HF2.out g3)
  have HG3 := Lib.hid (box_below HG2.out g3)
  clear g3 HT2 HB2 HF2 HG2
  have HF4 := Lib.hid (setRow_heap w3 W.heap.size _ (factC (cutF F)) _ _ HF3.out)
  have HC4 := row_ch w3 W.heap.size (factC (cutF F))
  have HG4 := Lib.hid ((HC4.block _ (lt_of_block HG3.out) (by omega)).trans HG3.out)
  have HB4 := Lib.hid (HB3.out.trans (HC4.below (B := W.heap.size) (Nat.le_of_lt (lt_of_block HF3.out)) (fun k e => by omega)))
  have HT4 := Lib.hid (HT3.out.ch HC4 (fun e => by have := HTn.out; omega))
  have HSF := Lib.hid (cutF_max F)
  clear HC4 HT3 HB3 HG3 HS1
  go_upto_region 3 with (refine wpList_store_at rfl rfl _ _ rfl W.heap.size (cutF F) rfl rfl _ HF3.out rfl ?_)
  clear HF3
  generalize w3.setRow W.heap.size (factC (cutF F)) = w4 at *
  generalize cutF F = A at *
  go_wp2_with (refine wpList_load_fact rfl _ rfl _ rfl G HG4.out ?_)
  refine (cut_any G w4 HS2.out).mono ?_; rintro e w5 ⟨rfl, g5⟩
  have HT5 := Lib.hid (HT4.out.below g5)
  have HB5 := Lib.hid (below_step HB4.out g5)
  have HF5 := Lib.hid (box_below HF4.out g5)
  have HG5 := Lib.hid (box_below HG4.out g5)
  clear g5 HT4 HB4 HF4 HG4
  have HG6 := Lib.hid (setRow_heap w5 (W.heap.size + 1) _ (factC (cutF G)) _ _ HG5.out)
  have HC6 := row_ch w5 (W.heap.size + 1) (factC (cutF G))
  have HF6 := Lib.hid ((HC6.block _ (lt_of_block HF5.out) (by omega)).trans HF5.out)
  have HB6 := Lib.hid (HB5.out.trans (HC6.below (B := W.heap.size) (Nat.le_of_lt (lt_of_block HF5.out)) (fun k e => by omega)))
  have HT6 := Lib.hid (HT5.out.ch HC6 (fun e => by have := HTn.out; omega))
  have HSG := Lib.hid (cutF_max G)
  clear HC6 HT5 HB5 HF5 HS2
  go_upto_region 4 with (refine wpList_store_at rfl rfl _ _ rfl (W.heap.size + 1) (cutF G) rfl rfl _ HG5.out rfl ?_)
  clear HG5
  generalize w5.setRow (W.heap.size + 1) (factC (cutF G)) = w6 at *
  generalize cutF G = B at *
  have HVa := Lib.hid (fun V h => valid_any A V h HSF.out)
  unfold BoolPost at HVa
  cases hva : validB A with
  | false =>
    rw [hva] at HVa
    clear hva
    go_wp2_with (first | (refine wpList_load_fact rfl _ rfl _ rfl A HF6.out ?_) | (refine wpList_load_fact rfl _ rfl _ rfl B HG6.out ?_))
    refine (HVa.out _ HT6.out).mono ?_; rintro e w7 ⟨rfl, g7⟩
    have HT7 := Lib.hid (HT6.out.below g7)
    have HB7 := Lib.hid (below_step HB6.out g7)
    have HF7 := Lib.hid (box_below HF6.out g7)
    have HG7 := Lib.hid (box_below HG6.out g7)
    clear g7 HT6 HB6 HF6 HG6
    go_wp2_with fail
    go_ret
    exact ⟨rfl, HB7.out⟩
  | true =>
    rw [hva] at HVa
    go_wp2_with (first | (refine wpList_load_fact rfl _ rfl _ rfl A HF6.out ?_) | (refine wpList_load_fact rfl _ rfl _ rfl B HG6.out ?_))
    refine (HVa.out _ HT6.out).mono ?_; rintro e w6a ⟨rfl, g6a⟩
    have HT6a := Lib.hid (HT6.out.below g6a)
    have HB6a := Lib.hid (below_step HB6.out g6a)
    have HF6a := Lib.hid (box_below HF6.out g6a)
    have HG6a := Lib.hid (box_below HG6.out g6a)
    clear g6a HT6 HB6 HF6 HG6
    clear HVa
    have HVa := Lib.hid hva
    clear hva
    have HKf := Lib.hid (fun V => refKeyFields_any A.k V)
    unfold KfPost at HKf
    have HL14 := Lib.hid (fun x (h : x ∈ keyL A.k) => keys_lt x h)
    have ck := box_cell HF6a.out 0 (.int .i64 A.k) rfl
    have hLn : (keyL A.k).length ≤ 2 := by unfold keyL; repeat' split
                                           all_goals decide
    generalize hL : keyL A.k = L at *
    have HLk := Lib.hid hL
    clear hL
    go_wp2_with fail
    refine (HKf.out _).mono ?_; rintro e w6c ⟨rfl, hr6, g6c⟩
    clear ck HKf
    have HBk := Lib.hid (show W.heap.size + 1 < w6a.heap.size from lt_of_block HG6a.out)
    have HR6c := Lib.hid hr6
    clear hr6
    have HT6c := Lib.hid (HT6a.out.below g6c)
    have HB6c := Lib.hid (below_step HB6a.out g6c)
    have HF6c := Lib.hid (box_below HF6a.out g6c)
    have HG6c := Lib.hid (box_below HG6a.out g6c)
    clear g6c HT6a HB6a HF6a HG6a
    generalize w6a.heap.size = Bk at *
    cases al with
    | false =>
      go_upto_region 14 with (fail)
      have HVb := Lib.hid (fun V h => valid_any B V h HSG.out)
      have HKa := Lib.hid (fun V h => key_any A V h HSF.out)
      have HKb := Lib.hid (fun V h => key_any B V h HSG.out)
      unfold BoolPost at HVb
      unfold StrPost at HKa HKb
      go_wp2_with (first | (refine wpList_load_fact rfl _ rfl _ rfl A HF6c.out ?_) | (refine wpList_load_fact rfl _ rfl _ rfl B HG6c.out ?_))
      refine (HVb.out _ HT6c.out).mono ?_; rintro e wa ⟨rfl, ga⟩
      have HTa := Lib.hid (HT6c.out.below ga)
      have HBa := Lib.hid (below_step HB6c.out ga)
      have HFa := Lib.hid (box_below HF6c.out ga)
      have HGa := Lib.hid (box_below HG6c.out ga)
      have HRa := Lib.hid (box_below HR6c.out ga)
      clear ga HT6c HB6c HF6c HG6c HR6c
      clear HVb
      cases hvb : validB B with
      | false =>
        go_wp2_with fail
        go_ret
        exact ⟨rfl, HBa.out⟩
      | true =>
      have ca := box_cell HFa.out 0 (.int .i64 A.k) rfl
      have cb := box_cell HGa.out 0 (.int .i64 B.k) rfl
      have HVb := Lib.hid hvb
      clear hvb
      go_wp2_with fail
      clear ca cb
      go_loopw [10, 11] (fun same i wr => ∃ k : Nat, k ≤ L.length ∧ i = .int .i64 k ∧ same = .bool (sameB A B (L.take k)) ∧ wr.heap[W.heap.size]? = some (factObj A) ∧ wr.heap[W.heap.size + 1]? = some (factObj B) ∧ wr.heap[Bk]? = some (.cells (rowK L) 3) ∧ Below W.heap.size W wr) (fun _ i _ => L.length - (intOf i).toNat)
      case atStart => exact ⟨0, by omega, rfl, by simp [sameB], HFa.out, HGa.out, HRa.out, HBa.out⟩
      case round =>
        obtain ⟨k, hk, rfl, rfl, hf, hg, hr, hb⟩ := hrel
        have HFr := Lib.hid hf
        have HGr := Lib.hid hg
        have HRr := Lib.hid hr
        have HBr := Lib.hid hb
        clear hf hg hr hb
        by_cases h2 : k < L.length
        · have hk0 : (0 : Int) ≤ (k : Int) := by omega
          have hk2 : (k : Int) < (L.length : Int) := by omega
          obtain ⟨x, hx⟩ : ∃ x, L[k]? = some x := ⟨_, List.getElem?_eq_getElem h2⟩
          have hx14 : x < 14 := HL14.out x (List.mem_of_getElem? hx)
          have hall := Lib.hid (same_succ A B L k x hx)
          have hrow : (rowK L)[k]? = some (.int .i64 (x : Int)) := by simp [rowK, hx]
          have Ga := Lib.hid (fun V => refGet_any A x hx14 V)
          have Gb := Lib.hid (fun V => refGet_any B x hx14 V)
          unfold IntPost at Ga Gb
          have HRow := Lib.hid hrow
          clear hrow hx hx14
          go_wp2_with fail
          generalize sameB A B (L.take k) = E at *
          cases E with
          | false =>
            refine wp_region_held_drew (S := (fun v => v.heap[W.heap.size]? = some (factObj A) ∧ v.heap[W.heap.size + 1]? = some (factObj B) ∧ v.heap[Bk]? = some (.cells (rowK L) 3) ∧ Below W.heap.size W v)) (by kernel_rfl) (⟨HFr.out, HGr.out, HRr.out, HBr.out.drew⟩) (fun hHeld => ?_)
            generalize wr.drew = wd at *
            refine wpAnyH_take (i := 0) (oi := { dst := some 54, op := Op.move (Operand.tmp 10), type := 4, pos := "law.go:114", after := #[], guard := none }) (v := ?vp00) rfl (by kernel_rfl) (by kernel_rfl) (by kernel_rfl) (fun _ _ _ h => h) (Or.inl ⟨by rfl, ?yp00⟩) (by assumption) ?tp00
            case yp00 => (intro wz hSw; clear hSw; go_simp; try with_reducible rfl)
            simp only [Act.put, List.setIfInBounds_toArray, List.set_cons_zero, List.set_cons_succ]
            refine wpAnyH_take (i := 1) (oi := { dst := some 55, op := Op.move (Operand.tmp 54), type := 4, pos := "law.go:114", after := #[{ on := 0, ground := Ground.data }], guard := none }) (v := ?vp01) rfl (by kernel_rfl) (by kernel_rfl) (by kernel_rfl) (fun _ _ _ h => h) (Or.inl ⟨by rfl, ?yp01⟩) (by assumption) ?tp01
            case yp01 => (intro wz hSw; clear hSw; go_simp; try with_reducible rfl)
            simp only [Act.put, List.setIfInBounds_toArray, List.set_cons_zero, List.set_cons_succ]
            refine wpAnyH_take (i := 2) (oi := { dst := some 56, op := Op.load 23 (Operand.tmp 3), type := 23, pos := "law.go:114", after := #[{ on := 1, ground := Ground.guard }], guard := some (1, true) }) (v := undef) rfl (by kernel_rfl) (by kernel_rfl) (by kernel_rfl) (fun _ _ _ h => h) (Or.inr ⟨by rfl, rfl⟩) (by assumption) ?_
            simp only [Act.put, List.setIfInBounds_toArray, List.set_cons_zero, List.set_cons_succ]
            refine wpAnyH_take (i := 3) (oi := { dst := some 57, op := Op.move (Operand.tmp 8), type := 36, pos := "law.go:114", after := #[{ on := 1, ground := Ground.guard }], guard := some (1, true) }) (v := undef) rfl (by kernel_rfl) (by kernel_rfl) (by kernel_rfl) (fun _ _ _ h => h) (Or.inr ⟨by rfl, rfl⟩) (by assumption) ?_
            simp only [Act.put, List.setIfInBounds_toArray, List.set_cons_zero, List.set_cons_succ]
            refine wpAnyH_take (i := 4) (oi := { dst := some 58, op := Op.move (Operand.tmp 11), type := 3, pos := "law.go:114", after := #[{ on := 1, ground := Ground.guard }], guard := some (1, true) }) (v := undef) rfl (by kernel_rfl) (by kernel_rfl) (by kernel_rfl) (fun _ _ _ h => h) (Or.inr ⟨by rfl, rfl⟩) (by assumption) ?_
            simp only [Act.put, List.setIfInBounds_toArray, List.set_cons_zero, List.set_cons_succ]
            refine wpAnyH_take (i := 5) (oi := { dst := some 59, op := Op.indexAddr 36 (Operand.tmp 57) (Operand.tmp 58), type := 0, pos := "law.go:114", after := #[{ on := 3, ground := Ground.data }, { on := 4, ground := Ground.data }, { on := 1, ground := Ground.guard }], guard := some (1, true) }) (v := undef) rfl (by kernel_rfl) (by kernel_rfl) (by kernel_rfl) (fun _ _ _ h => h) (Or.inr ⟨by rfl, rfl⟩) (by assumption) ?_
            simp only [Act.put, List.setIfInBounds_toArray, List.set_cons_zero, List.set_cons_succ]
            refine wpAnyH_take (i := 6) (oi := { dst := some 60, op := Op.load 3 (Operand.tmp 59), type := 3, pos := "law.go:114", after := #[{ on := 5, ground := Ground.data }, { on := 1, ground := Ground.guard }], guard := some (1, true) }) (v := undef) rfl (by kernel_rfl) (by kernel_rfl) (by kernel_rfl) (fun _ _ _ h => h) (Or.inr ⟨by rfl, rfl⟩) (by assumption) ?_
            simp only [Act.put, List.setIfInBounds_toArray, List.set_cons_zero, List.set_cons_succ]
            refine wpAnyH_take (i := 7) (oi := { dst := some 61, op := Op.call { callee := Callee.value (Operand.func 25), args := #[Operand.tmp 56, Operand.tmp 60], argTypes := #[23, 3] }, type := 3, pos := "law.go:114", after := #[{ on := 2, ground := Ground.data }, { on := 6, ground := Ground.data }, { on := 1, ground := Ground.chain }, { on := 1, ground := Ground.guard }], guard := some (1, true) }) (v := undef) rfl (by kernel_rfl) (by kernel_rfl) (by kernel_rfl) (fun _ _ _ h => h) (Or.inr ⟨by rfl, rfl⟩) (by assumption) ?_
            simp only [Act.put, List.setIfInBounds_toArray, List.set_cons_zero, List.set_cons_succ]
            refine wpAnyH_take (i := 8) (oi := { dst := some 62, op := Op.load 23 (Operand.tmp 4), type := 23, pos := "law.go:114", after := #[{ on := 1, ground := Ground.guard }], guard := some (1, true) }) (v := undef) rfl (by kernel_rfl) (by kernel_rfl) (by kernel_rfl) (fun _ _ _ h => h) (Or.inr ⟨by rfl, rfl⟩) (by assumption) ?_
            simp only [Act.put, List.setIfInBounds_toArray, List.set_cons_zero, List.set_cons_succ]
            refine wpAnyH_take (i := 9) (oi := { dst := some 63, op := Op.move (Operand.tmp 8), type := 36, pos := "law.go:114", after := #[{ on := 1, ground := Ground.guard }], guard := some (1, true) }) (v := undef) rfl (by kernel_rfl) (by kernel_rfl) (by kernel_rfl) (fun _ _ _ h => h) (Or.inr ⟨by rfl, rfl⟩) (by assumption) ?_
            simp only [Act.put, List.setIfInBounds_toArray, List.set_cons_zero, List.set_cons_succ]
            refine wpAnyH_take (i := 10) (oi := { dst := some 64, op := Op.move (Operand.tmp 11), type := 3, pos := "law.go:114", after := #[{ on := 1, ground := Ground.guard }], guard := some (1, true) }) (v := undef) rfl (by kernel_rfl) (by kernel_rfl) (by kernel_rfl) (fun _ _ _ h => h) (Or.inr ⟨by rfl, rfl⟩) (by assumption) ?_
            simp only [Act.put, List.setIfInBounds_toArray, List.set_cons_zero, List.set_cons_succ]
            refine wpAnyH_take (i := 11) (oi := { dst := some 65, op := Op.indexAddr 36 (Operand.tmp 63) (Operand.tmp 64), type := 0, pos := "law.go:114", after := #[{ on := 9, ground := Ground.data }, { on := 10, ground := Ground.data }, { on := 1, ground := Ground.guard }], guard := some (1, true) }) (v := undef) rfl (by kernel_rfl) (by kernel_rfl) (by kernel_rfl) (fun _ _ _ h => h) (Or.inr ⟨by rfl, rfl⟩) (by assumption) ?_
            simp only [Act.put, List.setIfInBounds_toArray, List.set_cons_zero, List.set_cons_succ]
            refine wpAnyH_take (i := 12) (oi := { dst := some 66, op := Op.load 3 (Operand.tmp 65), type := 3, pos := "law.go:114", after := #[{ on := 11, ground := Ground.data }, { on := 1, ground := Ground.guard }], guard := some (1, true) }) (v := undef) rfl (by kernel_rfl) (by kernel_rfl) (by kernel_rfl) (fun _ _ _ h => h) (Or.inr ⟨by rfl, rfl⟩) (by assumption) ?_
            simp only [Act.put, List.setIfInBounds_toArray, List.set_cons_zero, List.set_cons_succ]
            refine wpAnyH_take (i := 13) (oi := { dst := some 67, op := Op.call { callee := Callee.value (Operand.func 25), args := #[Operand.tmp 62, Operand.tmp 66], argTypes := #[23, 3] }, type := 3, pos := "law.go:114", after := #[{ on := 8, ground := Ground.data }, { on := 12, ground := Ground.data }, { on := 7, ground := Ground.chain }, { on := 1, ground := Ground.guard }], guard := some (1, true) }) (v := undef) rfl (by kernel_rfl) (by kernel_rfl) (by kernel_rfl) (fun _ _ _ h => h) (Or.inr ⟨by rfl, rfl⟩) (by assumption) ?_
            simp only [Act.put, List.setIfInBounds_toArray, List.set_cons_zero, List.set_cons_succ]
            refine wpAnyH_take (i := 14) (oi := { dst := some 68, op := Op.binOp BinOp.eql 3 (Operand.tmp 61) (Operand.tmp 67) 3, type := 4, pos := "law.go:114", after := #[{ on := 7, ground := Ground.data }, { on := 13, ground := Ground.data }, { on := 1, ground := Ground.guard }], guard := some (1, true) }) (v := undef) rfl (by kernel_rfl) (by kernel_rfl) (by kernel_rfl) (fun _ _ _ h => h) (Or.inr ⟨by rfl, rfl⟩) (by assumption) ?_
            simp only [Act.put, List.setIfInBounds_toArray, List.set_cons_zero, List.set_cons_succ]
            refine wpAnyH_take (i := 15) (oi := { dst := some 69, op := Op.pick (Operand.tmp 55) (Operand.tmp 68) (Operand.const (Value.bool false)), type := 4, pos := "law.go:114", after := #[{ on := 1, ground := Ground.data }, { on := 14, ground := Ground.data }], guard := none }) (v := ?vp015) rfl (by kernel_rfl) (by kernel_rfl) (by kernel_rfl) (fun _ _ _ h => h) (Or.inl ⟨by rfl, ?yp015⟩) (by assumption) ?tp015
            case yp015 => (intro wz hSw; clear hSw; go_simp; try with_reducible rfl)
            simp only [Act.put, List.setIfInBounds_toArray, List.set_cons_zero, List.set_cons_succ]
            refine wpAnyH_take (i := 16) (oi := { dst := some 10, op := Op.assign (Operand.tmp 69), type := 4, pos := "law.go:114", after := #[{ on := 15, ground := Ground.data }, { on := 13, ground := Ground.chain }, { on := 0, ground := Ground.phase }, { on := 1, ground := Ground.phase }, { on := 2, ground := Ground.phase }, { on := 3, ground := Ground.phase }, { on := 4, ground := Ground.phase }, { on := 5, ground := Ground.phase }, { on := 6, ground := Ground.phase }, { on := 7, ground := Ground.phase }, { on := 8, ground := Ground.phase }, { on := 9, ground := Ground.phase }, { on := 10, ground := Ground.phase }, { on := 11, ground := Ground.phase }, { on := 12, ground := Ground.phase }, { on := 13, ground := Ground.phase }, { on := 14, ground := Ground.phase }, { on := 15, ground := Ground.phase }], guard := none }) (v := ?vp016) rfl (by kernel_rfl) (by kernel_rfl) (by kernel_rfl) (fun _ _ _ h => h) (Or.inl ⟨by rfl, ?yp016⟩) (by assumption) ?tp016
            case yp016 => (intro wz hSw; clear hSw; go_simp; try with_reducible rfl)
            simp only [Act.put, List.setIfInBounds_toArray, List.set_cons_zero, List.set_cons_succ]
            refine wpAnyH_done (by kernel_rfl) ?_ _
            go_wp2_with fail
            go_roundw
            case rel => exact ⟨k + 1, by omega, by go_num, by rw [hall.out]; rfl, hHeld⟩
            case measure => simp [intOf]; omega
          | true =>
            refine wp_region_held_drew (S := (fun v => v.heap[W.heap.size]? = some (factObj A) ∧ v.heap[W.heap.size + 1]? = some (factObj B) ∧ v.heap[Bk]? = some (.cells (rowK L) 3) ∧ Below W.heap.size W v)) (by kernel_rfl) (⟨HFr.out, HGr.out, HRr.out, HBr.out.drew⟩) (fun hHeld => ?_)
            generalize wr.drew = wd at *
            refine wpAnyH_take (i := 0) (oi := { dst := some 54, op := Op.move (Operand.tmp 10), type := 4, pos := "law.go:114", after := #[], guard := none }) (v := ?vp10) rfl (by kernel_rfl) (by kernel_rfl) (by kernel_rfl) (fun _ _ _ h => h) (Or.inl ⟨by rfl, ?yp10⟩) (by assumption) ?tp10
            case yp10 => (intro wz hSw; clear hSw; go_simp; try with_reducible rfl)
            simp only [Act.put, List.setIfInBounds_toArray, List.set_cons_zero, List.set_cons_succ]
            refine wpAnyH_take (i := 1) (oi := { dst := some 55, op := Op.move (Operand.tmp 54), type := 4, pos := "law.go:114", after := #[{ on := 0, ground := Ground.data }], guard := none }) (v := ?vp11) rfl (by kernel_rfl) (by kernel_rfl) (by kernel_rfl) (fun _ _ _ h => h) (Or.inl ⟨by rfl, ?yp11⟩) (by assumption) ?tp11
            case yp11 => (intro wz hSw; clear hSw; go_simp; try with_reducible rfl)
            simp only [Act.put, List.setIfInBounds_toArray, List.set_cons_zero, List.set_cons_succ]
            refine wpAnyH_take (i := 2) (oi := { dst := some 56, op := Op.load 23 (Operand.tmp 3), type := 23, pos := "law.go:114", after := #[{ on := 1, ground := Ground.guard }], guard := some (1, true) }) (v := factV A) rfl (by kernel_rfl) (by kernel_rfl) (by kernel_rfl) (fun _ _ _ h => h) (Or.inl ⟨by rfl, fun wz hSw => sem_load_fact _ rfl (W.heap.size) rfl A (hSw.1)⟩) (by assumption) ?tp12
            simp only [Act.put, List.setIfInBounds_toArray, List.set_cons_zero, List.set_cons_succ]
            refine wpAnyH_take (i := 3) (oi := { dst := some 57, op := Op.move (Operand.tmp 8), type := 36, pos := "law.go:114", after := #[{ on := 1, ground := Ground.guard }], guard := some (1, true) }) (v := ?vp13) rfl (by kernel_rfl) (by kernel_rfl) (by kernel_rfl) (fun _ _ _ h => h) (Or.inl ⟨by rfl, ?yp13⟩) (by assumption) ?tp13
            case yp13 => (intro wz hSw; clear hSw; go_simp; try with_reducible rfl)
            simp only [Act.put, List.setIfInBounds_toArray, List.set_cons_zero, List.set_cons_succ]
            refine wpAnyH_take (i := 4) (oi := { dst := some 58, op := Op.move (Operand.tmp 11), type := 3, pos := "law.go:114", after := #[{ on := 1, ground := Ground.guard }], guard := some (1, true) }) (v := ?vp14) rfl (by kernel_rfl) (by kernel_rfl) (by kernel_rfl) (fun _ _ _ h => h) (Or.inl ⟨by rfl, ?yp14⟩) (by assumption) ?tp14
            case yp14 => (intro wz hSw; clear hSw; go_simp; try with_reducible rfl)
            simp only [Act.put, List.setIfInBounds_toArray, List.set_cons_zero, List.set_cons_succ]
            refine wpAnyH_take (i := 5) (oi := { dst := some 59, op := Op.indexAddr 36 (Operand.tmp 57) (Operand.tmp 58), type := 0, pos := "law.go:114", after := #[{ on := 3, ground := Ground.data }, { on := 4, ground := Ground.data }, { on := 1, ground := Ground.guard }], guard := some (1, true) }) (v := ?vp15) rfl (by kernel_rfl) (by kernel_rfl) (by kernel_rfl) (fun _ _ _ h => h) (Or.inl ⟨by rfl, ?yp15⟩) (by assumption) ?tp15
            case yp15 => (intro wz hSw; clear hSw; go_simp; try with_reducible rfl)
            simp only [Act.put, List.setIfInBounds_toArray, List.set_cons_zero, List.set_cons_succ]
            refine wpAnyH_take (i := 6) (oi := { dst := some 60, op := Op.load 3 (Operand.tmp 59), type := 3, pos := "law.go:114", after := #[{ on := 5, ground := Ground.data }, { on := 1, ground := Ground.guard }], guard := some (1, true) }) (v := ?vp16) rfl (by kernel_rfl) (by kernel_rfl) (by kernel_rfl) (fun _ _ _ h => h) (Or.inl ⟨by rfl, ?yp16⟩) (by assumption) ?tp16
            case yp16 => (intro wz hSw; have cr := box_cell hSw.2.2.1 k _ HRow.out; clear hSw; go_simp; try with_reducible rfl)
            simp only [Act.put, List.setIfInBounds_toArray, List.set_cons_zero, List.set_cons_succ]
            refine wpAnyH_take (i := 8) (oi := { dst := some 62, op := Op.load 23 (Operand.tmp 4), type := 23, pos := "law.go:114", after := #[{ on := 1, ground := Ground.guard }], guard := some (1, true) }) (v := factV B) rfl (by kernel_rfl) (by kernel_rfl) (by kernel_rfl) (fun _ _ _ h => h) (Or.inl ⟨by rfl, fun wz hSw => sem_load_fact _ rfl (W.heap.size + 1) rfl B (hSw.2.1)⟩) (by assumption) ?tp18
            simp only [Act.put, List.setIfInBounds_toArray, List.set_cons_zero, List.set_cons_succ]
            refine wpAnyH_take (i := 9) (oi := { dst := some 63, op := Op.move (Operand.tmp 8), type := 36, pos := "law.go:114", after := #[{ on := 1, ground := Ground.guard }], guard := some (1, true) }) (v := ?vp19) rfl (by kernel_rfl) (by kernel_rfl) (by kernel_rfl) (fun _ _ _ h => h) (Or.inl ⟨by rfl, ?yp19⟩) (by assumption) ?tp19
            case yp19 => (intro wz hSw; clear hSw; go_simp; try with_reducible rfl)
            simp only [Act.put, List.setIfInBounds_toArray, List.set_cons_zero, List.set_cons_succ]
            refine wpAnyH_take (i := 10) (oi := { dst := some 64, op := Op.move (Operand.tmp 11), type := 3, pos := "law.go:114", after := #[{ on := 1, ground := Ground.guard }], guard := some (1, true) }) (v := ?vp110) rfl (by kernel_rfl) (by kernel_rfl) (by kernel_rfl) (fun _ _ _ h => h) (Or.inl ⟨by rfl, ?yp110⟩) (by assumption) ?tp110
            case yp110 => (intro wz hSw; clear hSw; go_simp; try with_reducible rfl)
            simp only [Act.put, List.setIfInBounds_toArray, List.set_cons_zero, List.set_cons_succ]
            refine wpAnyH_take (i := 11) (oi := { dst := some 65, op := Op.indexAddr 36 (Operand.tmp 63) (Operand.tmp 64), type := 0, pos := "law.go:114", after := #[{ on := 9, ground := Ground.data }, { on := 10, ground := Ground.data }, { on := 1, ground := Ground.guard }], guard := some (1, true) }) (v := ?vp111) rfl (by kernel_rfl) (by kernel_rfl) (by kernel_rfl) (fun _ _ _ h => h) (Or.inl ⟨by rfl, ?yp111⟩) (by assumption) ?tp111
            case yp111 => (intro wz hSw; clear hSw; go_simp; try with_reducible rfl)
            simp only [Act.put, List.setIfInBounds_toArray, List.set_cons_zero, List.set_cons_succ]
            refine wpAnyH_take (i := 12) (oi := { dst := some 66, op := Op.load 3 (Operand.tmp 65), type := 3, pos := "law.go:114", after := #[{ on := 11, ground := Ground.data }, { on := 1, ground := Ground.guard }], guard := some (1, true) }) (v := ?vp112) rfl (by kernel_rfl) (by kernel_rfl) (by kernel_rfl) (fun _ _ _ h => h) (Or.inl ⟨by rfl, ?yp112⟩) (by assumption) ?tp112
            case yp112 => (intro wz hSw; have cr := box_cell hSw.2.2.1 k _ HRow.out; clear hSw; go_simp; try with_reducible rfl)
            simp only [Act.put, List.setIfInBounds_toArray, List.set_cons_zero, List.set_cons_succ]
            refine wpAnyH_ready (rs := [7]) (by kernel_rfl) (by simp) ?_
            refine AllReadyH.cons (o := { dst := some 61, op := Op.call { callee := Callee.value (Operand.func 25), args := #[Operand.tmp 56, Operand.tmp 60], argTypes := #[23, 3] }, type := 3, pos := "law.go:114", after := #[{ on := 2, ground := Ground.data }, { on := 6, ground := Ground.data }, { on := 1, ground := Ground.chain }, { on := 1, ground := Ground.guard }], guard := some (1, true) }) rfl (fun K hK => ?_) AllReadyH.nil
            have HH := Lib.hid hHeld
            go_simp
            refine (Ga.out _).mono ?_; rintro e wz ⟨rfl, gz⟩
            have hz : wz.heap[W.heap.size]? = some (factObj A) ∧ wz.heap[W.heap.size + 1]? = some (factObj B) ∧ wz.heap[Bk]? = some (.cells (rowK L) 3) ∧ Below W.heap.size W wz := ⟨box_below HH.out.1 gz, box_below HH.out.2.1 gz, box_below HH.out.2.2.1 gz, below_step HH.out.2.2.2 gz⟩
            clear gz HH
            refine hK.out _ _ (hz) (fun hHeld' => ?_)
            clear hK K hHeld
            have hHeld := hHeld'; clear hHeld'
            try simp only [Act.put, List.setIfInBounds_toArray, List.set_cons_zero, List.set_cons_succ]
            refine wpAnyH_ready (rs := [13]) (by kernel_rfl) (by simp) ?_
            refine AllReadyH.cons (o := { dst := some 67, op := Op.call { callee := Callee.value (Operand.func 25), args := #[Operand.tmp 62, Operand.tmp 66], argTypes := #[23, 3] }, type := 3, pos := "law.go:114", after := #[{ on := 8, ground := Ground.data }, { on := 12, ground := Ground.data }, { on := 7, ground := Ground.chain }, { on := 1, ground := Ground.guard }], guard := some (1, true) }) rfl (fun K hK => ?_) AllReadyH.nil
            have HH := Lib.hid hHeld
            go_simp
            refine (Gb.out _).mono ?_; rintro e wz ⟨rfl, gz⟩
            have hz : wz.heap[W.heap.size]? = some (factObj A) ∧ wz.heap[W.heap.size + 1]? = some (factObj B) ∧ wz.heap[Bk]? = some (.cells (rowK L) 3) ∧ Below W.heap.size W wz := ⟨box_below HH.out.1 gz, box_below HH.out.2.1 gz, box_below HH.out.2.2.1 gz, below_step HH.out.2.2.2 gz⟩
            clear gz HH
            refine hK.out _ _ (hz) (fun hHeld' => ?_)
            clear hK K hHeld
            have hHeld := hHeld'; clear hHeld'
            try simp only [Act.put, List.setIfInBounds_toArray, List.set_cons_zero, List.set_cons_succ]
            refine wpAnyH_take (i := 14) (oi := { dst := some 68, op := Op.binOp BinOp.eql 3 (Operand.tmp 61) (Operand.tmp 67) 3, type := 4, pos := "law.go:114", after := #[{ on := 7, ground := Ground.data }, { on := 13, ground := Ground.data }, { on := 1, ground := Ground.guard }], guard := some (1, true) }) (v := ?vp114) rfl (by kernel_rfl) (by kernel_rfl) (by kernel_rfl) (fun _ _ _ h => h) (Or.inl ⟨by rfl, ?yp114⟩) (by assumption) ?tp114
            case yp114 => (intro wz hSw; clear hSw; go_simp; try with_reducible rfl)
            simp only [Act.put, List.setIfInBounds_toArray, List.set_cons_zero, List.set_cons_succ]
            refine wpAnyH_take (i := 15) (oi := { dst := some 69, op := Op.pick (Operand.tmp 55) (Operand.tmp 68) (Operand.const (Value.bool false)), type := 4, pos := "law.go:114", after := #[{ on := 1, ground := Ground.data }, { on := 14, ground := Ground.data }], guard := none }) (v := ?vp115) rfl (by kernel_rfl) (by kernel_rfl) (by kernel_rfl) (fun _ _ _ h => h) (Or.inl ⟨by rfl, ?yp115⟩) (by assumption) ?tp115
            case yp115 => (intro wz hSw; clear hSw; go_simp; try with_reducible rfl)
            simp only [Act.put, List.setIfInBounds_toArray, List.set_cons_zero, List.set_cons_succ]
            refine wpAnyH_take (i := 16) (oi := { dst := some 10, op := Op.assign (Operand.tmp 69), type := 4, pos := "law.go:114", after := #[{ on := 15, ground := Ground.data }, { on := 13, ground := Ground.chain }, { on := 0, ground := Ground.phase }, { on := 1, ground := Ground.phase }, { on := 2, ground := Ground.phase }, { on := 3, ground := Ground.phase }, { on := 4, ground := Ground.phase }, { on := 5, ground := Ground.phase }, { on := 6, ground := Ground.phase }, { on := 7, ground := Ground.phase }, { on := 8, ground := Ground.phase }, { on := 9, ground := Ground.phase }, { on := 10, ground := Ground.phase }, { on := 11, ground := Ground.phase }, { on := 12, ground := Ground.phase }, { on := 13, ground := Ground.phase }, { on := 14, ground := Ground.phase }, { on := 15, ground := Ground.phase }], guard := none }) (v := ?vp116) rfl (by kernel_rfl) (by kernel_rfl) (by kernel_rfl) (fun _ _ _ h => h) (Or.inl ⟨by rfl, ?yp116⟩) (by assumption) ?tp116
            case yp116 => (intro wz hSw; clear hSw; go_simp; try with_reducible rfl)
            simp only [Act.put, List.setIfInBounds_toArray, List.set_cons_zero, List.set_cons_succ]
            refine wpAnyH_done (by kernel_rfl) ?_ _
            go_wp2_with fail
            go_roundw
            case rel => exact ⟨k + 1, by omega, by go_num, by rw [hall.out]; rfl, hHeld⟩
            case measure => simp [intOf]; omega
        · obtain rfl : k = L.length := by omega
          have hfin := same_key (HVa.out) (HVb.out) (HLk.out)
          rw [List.take_length]
          go_wp2_with fail
          generalize sameB A B L = E at *
          rcases hfin with ⟨h1, rfl⟩ | ⟨h1, rfl⟩
          · rw [← h1] at HKb
            clear h1
            generalize bs (keyB A) = KA at *
            refine wp_region_held_drew (S := (fun v => v.heap[W.heap.size]? = some (factObj A) ∧ v.heap[W.heap.size + 1]? = some (factObj B) ∧ v.heap[Bk]? = some (.cells (rowK L) 3) ∧ Below W.heap.size W v)) (by kernel_rfl) (⟨HFr.out, HGr.out, HRr.out, HBr.out.drew⟩) (fun hHeld => ?_)
            generalize wr.drew = wd at *
            refine wpAnyH_take (i := 0) (oi := { dst := some 70, op := Op.move (Operand.tmp 7), type := 4, pos := "law.go:116", after := #[], guard := none }) (v := ?vp20) rfl (by kernel_rfl) (by kernel_rfl) (by kernel_rfl) (fun _ _ _ h => h) (Or.inl ⟨by rfl, ?yp20⟩) (by assumption) ?tp20
            case yp20 => (intro wz hSw; clear hSw; go_simp; try with_reducible rfl)
            simp only [Act.put, List.setIfInBounds_toArray, List.set_cons_zero, List.set_cons_succ]
            refine wpAnyH_take (i := 1) (oi := { dst := some 71, op := Op.move (Operand.tmp 70), type := 4, pos := "law.go:116", after := #[{ on := 0, ground := Ground.data }], guard := none }) (v := ?vp21) rfl (by kernel_rfl) (by kernel_rfl) (by kernel_rfl) (fun _ _ _ h => h) (Or.inl ⟨by rfl, ?yp21⟩) (by assumption) ?tp21
            case yp21 => (intro wz hSw; clear hSw; go_simp; try with_reducible rfl)
            simp only [Act.put, List.setIfInBounds_toArray, List.set_cons_zero, List.set_cons_succ]
            refine wpAnyH_take (i := 2) (oi := { dst := some 72, op := Op.load 23 (Operand.tmp 3), type := 23, pos := "law.go:116", after := #[{ on := 1, ground := Ground.guard }], guard := some (1, true) }) (v := factV A) rfl (by kernel_rfl) (by kernel_rfl) (by kernel_rfl) (fun _ _ _ h => h) (Or.inl ⟨by rfl, fun wz hSw => sem_load_fact _ rfl (W.heap.size) rfl A (hSw.1)⟩) (by assumption) ?tp22
            simp only [Act.put, List.setIfInBounds_toArray, List.set_cons_zero, List.set_cons_succ]
            refine wpAnyH_take (i := 4) (oi := { dst := some 74, op := Op.load 23 (Operand.tmp 4), type := 23, pos := "law.go:116", after := #[{ on := 1, ground := Ground.guard }], guard := some (1, true) }) (v := factV B) rfl (by kernel_rfl) (by kernel_rfl) (by kernel_rfl) (fun _ _ _ h => h) (Or.inl ⟨by rfl, fun wz hSw => sem_load_fact _ rfl (W.heap.size + 1) rfl B (hSw.2.1)⟩) (by assumption) ?tp24
            simp only [Act.put, List.setIfInBounds_toArray, List.set_cons_zero, List.set_cons_succ]
            refine wpAnyH_take (i := 7) (oi := { dst := some 77, op := Op.move (Operand.tmp 10), type := 4, pos := "law.go:116", after := #[{ on := 1, ground := Ground.guard }], guard := some (1, true) }) (v := ?vp27) rfl (by kernel_rfl) (by kernel_rfl) (by kernel_rfl) (fun _ _ _ h => h) (Or.inl ⟨by rfl, ?yp27⟩) (by assumption) ?tp27
            case yp27 => (intro wz hSw; clear hSw; go_simp; try with_reducible rfl)
            simp only [Act.put, List.setIfInBounds_toArray, List.set_cons_zero, List.set_cons_succ]
            refine wpAnyH_ready (rs := [3]) (by kernel_rfl) (by simp) ?_
            refine AllReadyH.cons (o := { dst := some 73, op := Op.call { callee := Callee.value (Operand.func 18), args := #[Operand.tmp 72], argTypes := #[23] }, type := 9, pos := "law.go:116", after := #[{ on := 2, ground := Ground.data }, { on := 1, ground := Ground.chain }, { on := 1, ground := Ground.guard }], guard := some (1, true) }) rfl (fun K hK => ?_) AllReadyH.nil
            have HH := Lib.hid hHeld
            go_simp
            refine (HKa.out _ (HTW.out.below HH.out.2.2.2)).mono ?_; rintro e wz ⟨rfl, gz⟩
            have hz : wz.heap[W.heap.size]? = some (factObj A) ∧ wz.heap[W.heap.size + 1]? = some (factObj B) ∧ wz.heap[Bk]? = some (.cells (rowK L) 3) ∧ Below W.heap.size W wz := ⟨box_below HH.out.1 gz, box_below HH.out.2.1 gz, box_below HH.out.2.2.1 gz, below_step HH.out.2.2.2 gz⟩
            clear gz HH
            refine hK.out _ _ (hz) (fun hHeld' => ?_)
            clear hK K hHeld
            have hHeld := hHeld'; clear hHeld'
            try simp only [Act.put, List.setIfInBounds_toArray, List.set_cons_zero, List.set_cons_succ]
            refine wpAnyH_ready (rs := [5]) (by kernel_rfl) (by simp) ?_
            refine AllReadyH.cons (o := { dst := some 75, op := Op.call { callee := Callee.value (Operand.func 18), args := #[Operand.tmp 74], argTypes := #[23] }, type := 9, pos := "law.go:116", after := #[{ on := 4, ground := Ground.data }, { on := 3, ground := Ground.chain }, { on := 1, ground := Ground.guard }], guard := some (1, true) }) rfl (fun K hK => ?_) AllReadyH.nil
            have HH := Lib.hid hHeld
            go_simp
            refine (HKb.out _ (HTW.out.below HH.out.2.2.2)).mono ?_; rintro e wz ⟨rfl, gz⟩
            have hz : wz.heap[W.heap.size]? = some (factObj A) ∧ wz.heap[W.heap.size + 1]? = some (factObj B) ∧ wz.heap[Bk]? = some (.cells (rowK L) 3) ∧ Below W.heap.size W wz := ⟨box_below HH.out.1 gz, box_below HH.out.2.1 gz, box_below HH.out.2.2.1 gz, below_step HH.out.2.2.2 gz⟩
            clear gz HH
            refine hK.out _ _ (hz) (fun hHeld' => ?_)
            clear hK K hHeld
            have hHeld := hHeld'; clear hHeld'
            try simp only [Act.put, List.setIfInBounds_toArray, List.set_cons_zero, List.set_cons_succ]
            refine wpAnyH_take (i := 6) (oi := { dst := some 76, op := Op.binOp BinOp.eql 9 (Operand.tmp 73) (Operand.tmp 75) 9, type := 4, pos := "law.go:116", after := #[{ on := 3, ground := Ground.data }, { on := 5, ground := Ground.data }, { on := 1, ground := Ground.guard }], guard := some (1, true) }) (v := ?vp26) rfl (by kernel_rfl) (by kernel_rfl) (by kernel_rfl) (fun _ _ _ h => h) (Or.inl ⟨by rfl, ?yp26⟩) (by assumption) ?tp26
            case yp26 => (intro wz hSw; clear hSw; go_simp; try with_reducible rfl)
            simp only [Act.put, List.setIfInBounds_toArray, List.set_cons_zero, List.set_cons_succ]
            refine wpAnyH_take (i := 8) (oi := { dst := some 78, op := Op.binOp BinOp.eql 4 (Operand.tmp 76) (Operand.tmp 77) 4, type := 4, pos := "law.go:116", after := #[{ on := 6, ground := Ground.data }, { on := 7, ground := Ground.data }, { on := 1, ground := Ground.guard }], guard := some (1, true) }) (v := ?vp28) rfl (by kernel_rfl) (by kernel_rfl) (by kernel_rfl) (fun _ _ _ h => h) (Or.inl ⟨by rfl, ?yp28⟩) (by assumption) ?tp28
            case yp28 => (intro wz hSw; clear hSw; go_simp; try with_reducible rfl)
            simp only [Act.put, List.setIfInBounds_toArray, List.set_cons_zero, List.set_cons_succ]
            refine wpAnyH_take (i := 9) (oi := { dst := some 79, op := Op.pick (Operand.tmp 71) (Operand.tmp 78) (Operand.const (Value.bool false)), type := 4, pos := "law.go:116", after := #[{ on := 1, ground := Ground.data }, { on := 8, ground := Ground.data }], guard := none }) (v := ?vp29) rfl (by kernel_rfl) (by kernel_rfl) (by kernel_rfl) (fun _ _ _ h => h) (Or.inl ⟨by rfl, ?yp29⟩) (by assumption) ?tp29
            case yp29 => (intro wz hSw; clear hSw; go_simp; try with_reducible rfl)
            simp only [Act.put, List.setIfInBounds_toArray, List.set_cons_zero, List.set_cons_succ]
            refine wpAnyH_take (i := 10) (oi := { dst := some 6, op := Op.assign (Operand.tmp 79), type := 4, pos := "law.go:116", after := #[{ on := 9, ground := Ground.data }, { on := 5, ground := Ground.chain }, { on := 0, ground := Ground.phase }, { on := 1, ground := Ground.phase }, { on := 2, ground := Ground.phase }, { on := 3, ground := Ground.phase }, { on := 4, ground := Ground.phase }, { on := 5, ground := Ground.phase }, { on := 6, ground := Ground.phase }, { on := 7, ground := Ground.phase }, { on := 8, ground := Ground.phase }, { on := 9, ground := Ground.phase }], guard := none }) (v := ?vp210) rfl (by kernel_rfl) (by kernel_rfl) (by kernel_rfl) (fun _ _ _ h => h) (Or.inl ⟨by rfl, ?yp210⟩) (by assumption) ?tp210
            case yp210 => (intro wz hSw; clear hSw; go_simp; try with_reducible rfl)
            simp only [Act.put, List.setIfInBounds_toArray, List.set_cons_zero, List.set_cons_succ]
            refine wpAnyH_done (by kernel_rfl) ?_ _
            have HFin := Lib.hid hHeld
            go_wp2_with fail
            go_ret
            exact ⟨rfl, HFin.out.2.2.2⟩
          · have k1 : ((bs (keyB A)).toList == (bs (keyB B)).toList) = false := by rw [bs_list, bs_list]; exact beq_eq_false_iff_ne.2 h1
            have k2 : ¬ (bs (keyB A)).toList = (bs (keyB B)).toList := by rw [bs_list, bs_list]; exact h1
            clear h1
            generalize bs (keyB A) = KA at *
            generalize bs (keyB B) = KB at *
            refine wp_region_held_drew (S := (fun v => v.heap[W.heap.size]? = some (factObj A) ∧ v.heap[W.heap.size + 1]? = some (factObj B) ∧ v.heap[Bk]? = some (.cells (rowK L) 3) ∧ Below W.heap.size W v)) (by kernel_rfl) (⟨HFr.out, HGr.out, HRr.out, HBr.out.drew⟩) (fun hHeld => ?_)
            generalize wr.drew = wd at *
            refine wpAnyH_take (i := 0) (oi := { dst := some 70, op := Op.move (Operand.tmp 7), type := 4, pos := "law.go:116", after := #[], guard := none }) (v := ?vp30) rfl (by kernel_rfl) (by kernel_rfl) (by kernel_rfl) (fun _ _ _ h => h) (Or.inl ⟨by rfl, ?yp30⟩) (by assumption) ?tp30
            case yp30 => (intro wz hSw; clear hSw; go_simp; try with_reducible rfl)
            simp only [Act.put, List.setIfInBounds_toArray, List.set_cons_zero, List.set_cons_succ]
            refine wpAnyH_take (i := 1) (oi := { dst := some 71, op := Op.move (Operand.tmp 70), type := 4, pos := "law.go:116", after := #[{ on := 0, ground := Ground.data }], guard := none }) (v := ?vp31) rfl (by kernel_rfl) (by kernel_rfl) (by kernel_rfl) (fun _ _ _ h => h) (Or.inl ⟨by rfl, ?yp31⟩) (by assumption) ?tp31
            case yp31 => (intro wz hSw; clear hSw; go_simp; try with_reducible rfl)
            simp only [Act.put, List.setIfInBounds_toArray, List.set_cons_zero, List.set_cons_succ]
            refine wpAnyH_take (i := 2) (oi := { dst := some 72, op := Op.load 23 (Operand.tmp 3), type := 23, pos := "law.go:116", after := #[{ on := 1, ground := Ground.guard }], guard := some (1, true) }) (v := factV A) rfl (by kernel_rfl) (by kernel_rfl) (by kernel_rfl) (fun _ _ _ h => h) (Or.inl ⟨by rfl, fun wz hSw => sem_load_fact _ rfl (W.heap.size) rfl A (hSw.1)⟩) (by assumption) ?tp32
            simp only [Act.put, List.setIfInBounds_toArray, List.set_cons_zero, List.set_cons_succ]
            refine wpAnyH_take (i := 4) (oi := { dst := some 74, op := Op.load 23 (Operand.tmp 4), type := 23, pos := "law.go:116", after := #[{ on := 1, ground := Ground.guard }], guard := some (1, true) }) (v := factV B) rfl (by kernel_rfl) (by kernel_rfl) (by kernel_rfl) (fun _ _ _ h => h) (Or.inl ⟨by rfl, fun wz hSw => sem_load_fact _ rfl (W.heap.size + 1) rfl B (hSw.2.1)⟩) (by assumption) ?tp34
            simp only [Act.put, List.setIfInBounds_toArray, List.set_cons_zero, List.set_cons_succ]
            refine wpAnyH_take (i := 7) (oi := { dst := some 77, op := Op.move (Operand.tmp 10), type := 4, pos := "law.go:116", after := #[{ on := 1, ground := Ground.guard }], guard := some (1, true) }) (v := ?vp37) rfl (by kernel_rfl) (by kernel_rfl) (by kernel_rfl) (fun _ _ _ h => h) (Or.inl ⟨by rfl, ?yp37⟩) (by assumption) ?tp37
            case yp37 => (intro wz hSw; clear hSw; go_simp; try with_reducible rfl)
            simp only [Act.put, List.setIfInBounds_toArray, List.set_cons_zero, List.set_cons_succ]
            refine wpAnyH_ready (rs := [3]) (by kernel_rfl) (by simp) ?_
            refine AllReadyH.cons (o := { dst := some 73, op := Op.call { callee := Callee.value (Operand.func 18), args := #[Operand.tmp 72], argTypes := #[23] }, type := 9, pos := "law.go:116", after := #[{ on := 2, ground := Ground.data }, { on := 1, ground := Ground.chain }, { on := 1, ground := Ground.guard }], guard := some (1, true) }) rfl (fun K hK => ?_) AllReadyH.nil
            have HH := Lib.hid hHeld
            go_simp
            refine (HKa.out _ (HTW.out.below HH.out.2.2.2)).mono ?_; rintro e wz ⟨rfl, gz⟩
            have hz : wz.heap[W.heap.size]? = some (factObj A) ∧ wz.heap[W.heap.size + 1]? = some (factObj B) ∧ wz.heap[Bk]? = some (.cells (rowK L) 3) ∧ Below W.heap.size W wz := ⟨box_below HH.out.1 gz, box_below HH.out.2.1 gz, box_below HH.out.2.2.1 gz, below_step HH.out.2.2.2 gz⟩
            clear gz HH
            refine hK.out _ _ (hz) (fun hHeld' => ?_)
            clear hK K hHeld
            have hHeld := hHeld'; clear hHeld'
            try simp only [Act.put, List.setIfInBounds_toArray, List.set_cons_zero, List.set_cons_succ]
            refine wpAnyH_ready (rs := [5]) (by kernel_rfl) (by simp) ?_
            refine AllReadyH.cons (o := { dst := some 75, op := Op.call { callee := Callee.value (Operand.func 18), args := #[Operand.tmp 74], argTypes := #[23] }, type := 9, pos := "law.go:116", after := #[{ on := 4, ground := Ground.data }, { on := 3, ground := Ground.chain }, { on := 1, ground := Ground.guard }], guard := some (1, true) }) rfl (fun K hK => ?_) AllReadyH.nil
            have HH := Lib.hid hHeld
            go_simp
            refine (HKb.out _ (HTW.out.below HH.out.2.2.2)).mono ?_; rintro e wz ⟨rfl, gz⟩
            have hz : wz.heap[W.heap.size]? = some (factObj A) ∧ wz.heap[W.heap.size + 1]? = some (factObj B) ∧ wz.heap[Bk]? = some (.cells (rowK L) 3) ∧ Below W.heap.size W wz := ⟨box_below HH.out.1 gz, box_below HH.out.2.1 gz, box_below HH.out.2.2.1 gz, below_step HH.out.2.2.2 gz⟩
            clear gz HH
            refine hK.out _ _ (hz) (fun hHeld' => ?_)
            clear hK K hHeld
            have hHeld := hHeld'; clear hHeld'
            try simp only [Act.put, List.setIfInBounds_toArray, List.set_cons_zero, List.set_cons_succ]
            refine wpAnyH_take (i := 6) (oi := { dst := some 76, op := Op.binOp BinOp.eql 9 (Operand.tmp 73) (Operand.tmp 75) 9, type := 4, pos := "law.go:116", after := #[{ on := 3, ground := Ground.data }, { on := 5, ground := Ground.data }, { on := 1, ground := Ground.guard }], guard := some (1, true) }) (v := ?vp36) rfl (by kernel_rfl) (by kernel_rfl) (by kernel_rfl) (fun _ _ _ h => h) (Or.inl ⟨by rfl, ?yp36⟩) (by assumption) ?tp36
            case yp36 => (intro wz hSw; clear hSw; go_simp; try with_reducible rfl)
            simp only [Act.put, List.setIfInBounds_toArray, List.set_cons_zero, List.set_cons_succ]
            refine wpAnyH_take (i := 8) (oi := { dst := some 78, op := Op.binOp BinOp.eql 4 (Operand.tmp 76) (Operand.tmp 77) 4, type := 4, pos := "law.go:116", after := #[{ on := 6, ground := Ground.data }, { on := 7, ground := Ground.data }, { on := 1, ground := Ground.guard }], guard := some (1, true) }) (v := ?vp38) rfl (by kernel_rfl) (by kernel_rfl) (by kernel_rfl) (fun _ _ _ h => h) (Or.inl ⟨by rfl, ?yp38⟩) (by assumption) ?tp38
            case yp38 => (intro wz hSw; clear hSw; go_simp; try with_reducible rfl)
            simp only [Act.put, List.setIfInBounds_toArray, List.set_cons_zero, List.set_cons_succ]
            refine wpAnyH_take (i := 9) (oi := { dst := some 79, op := Op.pick (Operand.tmp 71) (Operand.tmp 78) (Operand.const (Value.bool false)), type := 4, pos := "law.go:116", after := #[{ on := 1, ground := Ground.data }, { on := 8, ground := Ground.data }], guard := none }) (v := ?vp39) rfl (by kernel_rfl) (by kernel_rfl) (by kernel_rfl) (fun _ _ _ h => h) (Or.inl ⟨by rfl, ?yp39⟩) (by assumption) ?tp39
            case yp39 => (intro wz hSw; clear hSw; go_simp; try with_reducible rfl)
            simp only [Act.put, List.setIfInBounds_toArray, List.set_cons_zero, List.set_cons_succ]
            refine wpAnyH_take (i := 10) (oi := { dst := some 6, op := Op.assign (Operand.tmp 79), type := 4, pos := "law.go:116", after := #[{ on := 9, ground := Ground.data }, { on := 5, ground := Ground.chain }, { on := 0, ground := Ground.phase }, { on := 1, ground := Ground.phase }, { on := 2, ground := Ground.phase }, { on := 3, ground := Ground.phase }, { on := 4, ground := Ground.phase }, { on := 5, ground := Ground.phase }, { on := 6, ground := Ground.phase }, { on := 7, ground := Ground.phase }, { on := 8, ground := Ground.phase }, { on := 9, ground := Ground.phase }], guard := none }) (v := ?vp310) rfl (by kernel_rfl) (by kernel_rfl) (by kernel_rfl) (fun _ _ _ h => h) (Or.inl ⟨by rfl, ?yp310⟩) (by assumption) ?tp310
            case yp310 => (intro wz hSw; clear hSw; go_simp; try with_reducible rfl)
            simp only [Act.put, List.setIfInBounds_toArray, List.set_cons_zero, List.set_cons_succ]
            refine wpAnyH_done (by kernel_rfl) ?_ _
            have HFin := Lib.hid hHeld
            go_wp2_with fail
            go_ret
            exact ⟨rfl, HFin.out.2.2.2⟩
    | true =>
      have b2 := box_cell HG6c.out 2 _ rfl
      have b16 := box_cell HG6c.out 16 _ rfl
      have b6 := box_cell HG6c.out 6 _ rfl
      have b18 := box_cell HG6c.out 18 _ rfl
      have hg1 : W.heap.size + 1 < w6c.heap.size := lt_of_block HG6c.out
      have hg2 : ¬ W.heap.size + 1 = w6c.heap.size := by omega
      go_upto_region 9 with (first | (refine wpList_load_fact rfl _ rfl _ rfl A HF6c.out ?_) | (refine wpList_store_new rfl rfl _ _ rfl A rfl rfl _ rfl ?_))
      go_upto_region 10 with (fail)
      go_upto_region 11 with (fail)
      go_upto_region 12 with (fail)
      go_upto_region 13 with (fail)
      rw [show w6c.alloc (.cells #[.int .i64 A.k, .int .i64 A.id, .int .i64 B.v, .int .i64 A.d, .bool A.gone, .int .i64 A.ti, .int .i64 B.un, .int .i64 A.w, .int .i64 A.ot, .int .i64 A.lo, .int .i64 A.pr, .int .i64 A.tl, .int .i64 A.ch, .int .i64 A.st, .int .i64 A.rc, .int .i64 A.rv, .int .i64 B.va, .int .i64 A.pa, .string B.tx] 23) = w6c.alloc (factObj { A with v := B.v, va := B.va, un := B.un, tx := B.tx }) from rfl]
      clear b2 b16 b6 b18 hg1 hg2
      have HSC := Lib.hid (show ({ A with v := B.v, va := B.va, un := B.un, tx := B.tx } : Fact).tx.size ≤ maxLen from HSG.out)
      generalize ({ A with v := B.v, va := B.va, un := B.un, tx := B.tx } : Fact) = C at *
      have g7 := below_new w6c (factObj C)
      have HR7 := Lib.hid (box_below HR6c.out g7)
      have HC7 := Lib.hid (heap_alloc_new w6c (factObj C))
      have HT7 := Lib.hid (HT6c.out.below g7)
      have HB7 := Lib.hid (below_step HB6c.out g7)
      have HF7 := Lib.hid (box_below HF6c.out g7)
      have HG7 := Lib.hid (box_below HG6c.out g7)
      clear g7 HT6c HB6c HF6c HG6c
      generalize w6c.alloc (factObj C) = w7 at *
      have HG8 := Lib.hid (setRow_heap w7 (W.heap.size + 1) _ (factC C) _ _ HG7.out)
      have HC8 := row_ch w7 (W.heap.size + 1) (factC C)
      have HF8 := Lib.hid ((HC8.block _ (lt_of_block HF7.out) (by omega)).trans HF7.out)
      have HB8 := Lib.hid (HB7.out.trans (HC8.below (B := W.heap.size) (Nat.le_of_lt (lt_of_block HF7.out)) (fun k e => by omega)))
      have HT8 := Lib.hid (HT7.out.ch HC8 (fun e => by have := HTn.out; omega))
      have HR8 := Lib.hid ((HC8.block _ (lt_of_block HR7.out) (by have := HBk.out; omega)).trans HR7.out)
      clear HC8 HR7 HR6c HT7 HB7 HF7 HSG
      go_upto_region 14 with (first | (refine wpList_load_fact rfl _ rfl _ rfl C HC7.out ?_) | (refine wpList_store_at rfl rfl _ _ rfl (W.heap.size + 1) C rfl rfl _ HG7.out rfl ?_))
      clear HG7 HC7
      generalize w7.setRow (W.heap.size + 1) (factC C) = w8 at *
      rename Fact => B2
      have HVb := Lib.hid (fun V h => valid_any B2 V h HSC.out)
      have HKa := Lib.hid (fun V h => key_any A V h HSF.out)
      have HKb := Lib.hid (fun V h => key_any B2 V h HSC.out)
      unfold BoolPost at HVb
      unfold StrPost at HKa HKb
      go_wp2_with (first | (refine wpList_load_fact rfl _ rfl _ rfl A HF8.out ?_) | (refine wpList_load_fact rfl _ rfl _ rfl B2 HG8.out ?_))
      refine (HVb.out _ HT8.out).mono ?_; rintro e wa ⟨rfl, ga⟩
      have HTa := Lib.hid (HT8.out.below ga)
      have HBa := Lib.hid (below_step HB8.out ga)
      have HFa := Lib.hid (box_below HF8.out ga)
      have HGa := Lib.hid (box_below HG8.out ga)
      have HRa := Lib.hid (box_below HR8.out ga)
      clear ga HT8 HB8 HF8 HG8 HR8
      clear HVb
      cases hvb : validB B2 with
      | false =>
        go_wp2_with fail
        go_ret
        exact ⟨rfl, HBa.out⟩
      | true =>
      have ca := box_cell HFa.out 0 (.int .i64 A.k) rfl
      have cb := box_cell HGa.out 0 (.int .i64 B2.k) rfl
      have HVb := Lib.hid hvb
      clear hvb
      go_wp2_with fail
      clear ca cb
      go_loopw [10, 11] (fun same i wr => ∃ k : Nat, k ≤ L.length ∧ i = .int .i64 k ∧ same = .bool (sameB A B2 (L.take k)) ∧ wr.heap[W.heap.size]? = some (factObj A) ∧ wr.heap[W.heap.size + 1]? = some (factObj B2) ∧ wr.heap[Bk]? = some (.cells (rowK L) 3) ∧ Below W.heap.size W wr) (fun _ i _ => L.length - (intOf i).toNat)
      case atStart => exact ⟨0, by omega, rfl, by simp [sameB], HFa.out, HGa.out, HRa.out, HBa.out⟩
      case round =>
        obtain ⟨k, hk, rfl, rfl, hf, hg, hr, hb⟩ := hrel
        have HFr := Lib.hid hf
        have HGr := Lib.hid hg
        have HRr := Lib.hid hr
        have HBr := Lib.hid hb
        clear hf hg hr hb
        by_cases h2 : k < L.length
        · have hk0 : (0 : Int) ≤ (k : Int) := by omega
          have hk2 : (k : Int) < (L.length : Int) := by omega
          obtain ⟨x, hx⟩ : ∃ x, L[k]? = some x := ⟨_, List.getElem?_eq_getElem h2⟩
          have hx14 : x < 14 := HL14.out x (List.mem_of_getElem? hx)
          have hall := Lib.hid (same_succ A B2 L k x hx)
          have hrow : (rowK L)[k]? = some (.int .i64 (x : Int)) := by simp [rowK, hx]
          have Ga := Lib.hid (fun V => refGet_any A x hx14 V)
          have Gb := Lib.hid (fun V => refGet_any B2 x hx14 V)
          unfold IntPost at Ga Gb
          have HRow := Lib.hid hrow
          clear hrow hx hx14
          go_wp2_with fail
          generalize sameB A B2 (L.take k) = E at *
          cases E with
          | false =>
            refine wp_region_held_drew (S := (fun v => v.heap[W.heap.size]? = some (factObj A) ∧ v.heap[W.heap.size + 1]? = some (factObj B2) ∧ v.heap[Bk]? = some (.cells (rowK L) 3) ∧ Below W.heap.size W v)) (by kernel_rfl) (⟨HFr.out, HGr.out, HRr.out, HBr.out.drew⟩) (fun hHeld => ?_)
            generalize wr.drew = wd at *
            refine wpAnyH_take (i := 0) (oi := { dst := some 54, op := Op.move (Operand.tmp 10), type := 4, pos := "law.go:114", after := #[], guard := none }) (v := ?vq00) rfl (by kernel_rfl) (by kernel_rfl) (by kernel_rfl) (fun _ _ _ h => h) (Or.inl ⟨by rfl, ?yq00⟩) (by assumption) ?tq00
            case yq00 => (intro wz hSw; clear hSw; go_simp; try with_reducible rfl)
            simp only [Act.put, List.setIfInBounds_toArray, List.set_cons_zero, List.set_cons_succ]
            refine wpAnyH_take (i := 1) (oi := { dst := some 55, op := Op.move (Operand.tmp 54), type := 4, pos := "law.go:114", after := #[{ on := 0, ground := Ground.data }], guard := none }) (v := ?vq01) rfl (by kernel_rfl) (by kernel_rfl) (by kernel_rfl) (fun _ _ _ h => h) (Or.inl ⟨by rfl, ?yq01⟩) (by assumption) ?tq01
            case yq01 => (intro wz hSw; clear hSw; go_simp; try with_reducible rfl)
            simp only [Act.put, List.setIfInBounds_toArray, List.set_cons_zero, List.set_cons_succ]
            refine wpAnyH_take (i := 2) (oi := { dst := some 56, op := Op.load 23 (Operand.tmp 3), type := 23, pos := "law.go:114", after := #[{ on := 1, ground := Ground.guard }], guard := some (1, true) }) (v := undef) rfl (by kernel_rfl) (by kernel_rfl) (by kernel_rfl) (fun _ _ _ h => h) (Or.inr ⟨by rfl, rfl⟩) (by assumption) ?_
            simp only [Act.put, List.setIfInBounds_toArray, List.set_cons_zero, List.set_cons_succ]
            refine wpAnyH_take (i := 3) (oi := { dst := some 57, op := Op.move (Operand.tmp 8), type := 36, pos := "law.go:114", after := #[{ on := 1, ground := Ground.guard }], guard := some (1, true) }) (v := undef) rfl (by kernel_rfl) (by kernel_rfl) (by kernel_rfl) (fun _ _ _ h => h) (Or.inr ⟨by rfl, rfl⟩) (by assumption) ?_
            simp only [Act.put, List.setIfInBounds_toArray, List.set_cons_zero, List.set_cons_succ]
            refine wpAnyH_take (i := 4) (oi := { dst := some 58, op := Op.move (Operand.tmp 11), type := 3, pos := "law.go:114", after := #[{ on := 1, ground := Ground.guard }], guard := some (1, true) }) (v := undef) rfl (by kernel_rfl) (by kernel_rfl) (by kernel_rfl) (fun _ _ _ h => h) (Or.inr ⟨by rfl, rfl⟩) (by assumption) ?_
            simp only [Act.put, List.setIfInBounds_toArray, List.set_cons_zero, List.set_cons_succ]
            refine wpAnyH_take (i := 5) (oi := { dst := some 59, op := Op.indexAddr 36 (Operand.tmp 57) (Operand.tmp 58), type := 0, pos := "law.go:114", after := #[{ on := 3, ground := Ground.data }, { on := 4, ground := Ground.data }, { on := 1, ground := Ground.guard }], guard := some (1, true) }) (v := undef) rfl (by kernel_rfl) (by kernel_rfl) (by kernel_rfl) (fun _ _ _ h => h) (Or.inr ⟨by rfl, rfl⟩) (by assumption) ?_
            simp only [Act.put, List.setIfInBounds_toArray, List.set_cons_zero, List.set_cons_succ]
            refine wpAnyH_take (i := 6) (oi := { dst := some 60, op := Op.load 3 (Operand.tmp 59), type := 3, pos := "law.go:114", after := #[{ on := 5, ground := Ground.data }, { on := 1, ground := Ground.guard }], guard := some (1, true) }) (v := undef) rfl (by kernel_rfl) (by kernel_rfl) (by kernel_rfl) (fun _ _ _ h => h) (Or.inr ⟨by rfl, rfl⟩) (by assumption) ?_
            simp only [Act.put, List.setIfInBounds_toArray, List.set_cons_zero, List.set_cons_succ]
            refine wpAnyH_take (i := 7) (oi := { dst := some 61, op := Op.call { callee := Callee.value (Operand.func 25), args := #[Operand.tmp 56, Operand.tmp 60], argTypes := #[23, 3] }, type := 3, pos := "law.go:114", after := #[{ on := 2, ground := Ground.data }, { on := 6, ground := Ground.data }, { on := 1, ground := Ground.chain }, { on := 1, ground := Ground.guard }], guard := some (1, true) }) (v := undef) rfl (by kernel_rfl) (by kernel_rfl) (by kernel_rfl) (fun _ _ _ h => h) (Or.inr ⟨by rfl, rfl⟩) (by assumption) ?_
            simp only [Act.put, List.setIfInBounds_toArray, List.set_cons_zero, List.set_cons_succ]
            refine wpAnyH_take (i := 8) (oi := { dst := some 62, op := Op.load 23 (Operand.tmp 4), type := 23, pos := "law.go:114", after := #[{ on := 1, ground := Ground.guard }], guard := some (1, true) }) (v := undef) rfl (by kernel_rfl) (by kernel_rfl) (by kernel_rfl) (fun _ _ _ h => h) (Or.inr ⟨by rfl, rfl⟩) (by assumption) ?_
            simp only [Act.put, List.setIfInBounds_toArray, List.set_cons_zero, List.set_cons_succ]
            refine wpAnyH_take (i := 9) (oi := { dst := some 63, op := Op.move (Operand.tmp 8), type := 36, pos := "law.go:114", after := #[{ on := 1, ground := Ground.guard }], guard := some (1, true) }) (v := undef) rfl (by kernel_rfl) (by kernel_rfl) (by kernel_rfl) (fun _ _ _ h => h) (Or.inr ⟨by rfl, rfl⟩) (by assumption) ?_
            simp only [Act.put, List.setIfInBounds_toArray, List.set_cons_zero, List.set_cons_succ]
            refine wpAnyH_take (i := 10) (oi := { dst := some 64, op := Op.move (Operand.tmp 11), type := 3, pos := "law.go:114", after := #[{ on := 1, ground := Ground.guard }], guard := some (1, true) }) (v := undef) rfl (by kernel_rfl) (by kernel_rfl) (by kernel_rfl) (fun _ _ _ h => h) (Or.inr ⟨by rfl, rfl⟩) (by assumption) ?_
            simp only [Act.put, List.setIfInBounds_toArray, List.set_cons_zero, List.set_cons_succ]
            refine wpAnyH_take (i := 11) (oi := { dst := some 65, op := Op.indexAddr 36 (Operand.tmp 63) (Operand.tmp 64), type := 0, pos := "law.go:114", after := #[{ on := 9, ground := Ground.data }, { on := 10, ground := Ground.data }, { on := 1, ground := Ground.guard }], guard := some (1, true) }) (v := undef) rfl (by kernel_rfl) (by kernel_rfl) (by kernel_rfl) (fun _ _ _ h => h) (Or.inr ⟨by rfl, rfl⟩) (by assumption) ?_
            simp only [Act.put, List.setIfInBounds_toArray, List.set_cons_zero, List.set_cons_succ]
            refine wpAnyH_take (i := 12) (oi := { dst := some 66, op := Op.load 3 (Operand.tmp 65), type := 3, pos := "law.go:114", after := #[{ on := 11, ground := Ground.data }, { on := 1, ground := Ground.guard }], guard := some (1, true) }) (v := undef) rfl (by kernel_rfl) (by kernel_rfl) (by kernel_rfl) (fun _ _ _ h => h) (Or.inr ⟨by rfl, rfl⟩) (by assumption) ?_
            simp only [Act.put, List.setIfInBounds_toArray, List.set_cons_zero, List.set_cons_succ]
            refine wpAnyH_take (i := 13) (oi := { dst := some 67, op := Op.call { callee := Callee.value (Operand.func 25), args := #[Operand.tmp 62, Operand.tmp 66], argTypes := #[23, 3] }, type := 3, pos := "law.go:114", after := #[{ on := 8, ground := Ground.data }, { on := 12, ground := Ground.data }, { on := 7, ground := Ground.chain }, { on := 1, ground := Ground.guard }], guard := some (1, true) }) (v := undef) rfl (by kernel_rfl) (by kernel_rfl) (by kernel_rfl) (fun _ _ _ h => h) (Or.inr ⟨by rfl, rfl⟩) (by assumption) ?_
            simp only [Act.put, List.setIfInBounds_toArray, List.set_cons_zero, List.set_cons_succ]
            refine wpAnyH_take (i := 14) (oi := { dst := some 68, op := Op.binOp BinOp.eql 3 (Operand.tmp 61) (Operand.tmp 67) 3, type := 4, pos := "law.go:114", after := #[{ on := 7, ground := Ground.data }, { on := 13, ground := Ground.data }, { on := 1, ground := Ground.guard }], guard := some (1, true) }) (v := undef) rfl (by kernel_rfl) (by kernel_rfl) (by kernel_rfl) (fun _ _ _ h => h) (Or.inr ⟨by rfl, rfl⟩) (by assumption) ?_
            simp only [Act.put, List.setIfInBounds_toArray, List.set_cons_zero, List.set_cons_succ]
            refine wpAnyH_take (i := 15) (oi := { dst := some 69, op := Op.pick (Operand.tmp 55) (Operand.tmp 68) (Operand.const (Value.bool false)), type := 4, pos := "law.go:114", after := #[{ on := 1, ground := Ground.data }, { on := 14, ground := Ground.data }], guard := none }) (v := ?vq015) rfl (by kernel_rfl) (by kernel_rfl) (by kernel_rfl) (fun _ _ _ h => h) (Or.inl ⟨by rfl, ?yq015⟩) (by assumption) ?tq015
            case yq015 => (intro wz hSw; clear hSw; go_simp; try with_reducible rfl)
            simp only [Act.put, List.setIfInBounds_toArray, List.set_cons_zero, List.set_cons_succ]
            refine wpAnyH_take (i := 16) (oi := { dst := some 10, op := Op.assign (Operand.tmp 69), type := 4, pos := "law.go:114", after := #[{ on := 15, ground := Ground.data }, { on := 13, ground := Ground.chain }, { on := 0, ground := Ground.phase }, { on := 1, ground := Ground.phase }, { on := 2, ground := Ground.phase }, { on := 3, ground := Ground.phase }, { on := 4, ground := Ground.phase }, { on := 5, ground := Ground.phase }, { on := 6, ground := Ground.phase }, { on := 7, ground := Ground.phase }, { on := 8, ground := Ground.phase }, { on := 9, ground := Ground.phase }, { on := 10, ground := Ground.phase }, { on := 11, ground := Ground.phase }, { on := 12, ground := Ground.phase }, { on := 13, ground := Ground.phase }, { on := 14, ground := Ground.phase }, { on := 15, ground := Ground.phase }], guard := none }) (v := ?vq016) rfl (by kernel_rfl) (by kernel_rfl) (by kernel_rfl) (fun _ _ _ h => h) (Or.inl ⟨by rfl, ?yq016⟩) (by assumption) ?tq016
            case yq016 => (intro wz hSw; clear hSw; go_simp; try with_reducible rfl)
            simp only [Act.put, List.setIfInBounds_toArray, List.set_cons_zero, List.set_cons_succ]
            refine wpAnyH_done (by kernel_rfl) ?_ _
            go_wp2_with fail
            go_roundw
            case rel => exact ⟨k + 1, by omega, by go_num, by rw [hall.out]; rfl, hHeld⟩
            case measure => simp [intOf]; omega
          | true =>
            refine wp_region_held_drew (S := (fun v => v.heap[W.heap.size]? = some (factObj A) ∧ v.heap[W.heap.size + 1]? = some (factObj B2) ∧ v.heap[Bk]? = some (.cells (rowK L) 3) ∧ Below W.heap.size W v)) (by kernel_rfl) (⟨HFr.out, HGr.out, HRr.out, HBr.out.drew⟩) (fun hHeld => ?_)
            generalize wr.drew = wd at *
            refine wpAnyH_take (i := 0) (oi := { dst := some 54, op := Op.move (Operand.tmp 10), type := 4, pos := "law.go:114", after := #[], guard := none }) (v := ?vq10) rfl (by kernel_rfl) (by kernel_rfl) (by kernel_rfl) (fun _ _ _ h => h) (Or.inl ⟨by rfl, ?yq10⟩) (by assumption) ?tq10
            case yq10 => (intro wz hSw; clear hSw; go_simp; try with_reducible rfl)
            simp only [Act.put, List.setIfInBounds_toArray, List.set_cons_zero, List.set_cons_succ]
            refine wpAnyH_take (i := 1) (oi := { dst := some 55, op := Op.move (Operand.tmp 54), type := 4, pos := "law.go:114", after := #[{ on := 0, ground := Ground.data }], guard := none }) (v := ?vq11) rfl (by kernel_rfl) (by kernel_rfl) (by kernel_rfl) (fun _ _ _ h => h) (Or.inl ⟨by rfl, ?yq11⟩) (by assumption) ?tq11
            case yq11 => (intro wz hSw; clear hSw; go_simp; try with_reducible rfl)
            simp only [Act.put, List.setIfInBounds_toArray, List.set_cons_zero, List.set_cons_succ]
            refine wpAnyH_take (i := 2) (oi := { dst := some 56, op := Op.load 23 (Operand.tmp 3), type := 23, pos := "law.go:114", after := #[{ on := 1, ground := Ground.guard }], guard := some (1, true) }) (v := factV A) rfl (by kernel_rfl) (by kernel_rfl) (by kernel_rfl) (fun _ _ _ h => h) (Or.inl ⟨by rfl, fun wz hSw => sem_load_fact _ rfl (W.heap.size) rfl A (hSw.1)⟩) (by assumption) ?tq12
            simp only [Act.put, List.setIfInBounds_toArray, List.set_cons_zero, List.set_cons_succ]
            refine wpAnyH_take (i := 3) (oi := { dst := some 57, op := Op.move (Operand.tmp 8), type := 36, pos := "law.go:114", after := #[{ on := 1, ground := Ground.guard }], guard := some (1, true) }) (v := ?vq13) rfl (by kernel_rfl) (by kernel_rfl) (by kernel_rfl) (fun _ _ _ h => h) (Or.inl ⟨by rfl, ?yq13⟩) (by assumption) ?tq13
            case yq13 => (intro wz hSw; clear hSw; go_simp; try with_reducible rfl)
            simp only [Act.put, List.setIfInBounds_toArray, List.set_cons_zero, List.set_cons_succ]
            refine wpAnyH_take (i := 4) (oi := { dst := some 58, op := Op.move (Operand.tmp 11), type := 3, pos := "law.go:114", after := #[{ on := 1, ground := Ground.guard }], guard := some (1, true) }) (v := ?vq14) rfl (by kernel_rfl) (by kernel_rfl) (by kernel_rfl) (fun _ _ _ h => h) (Or.inl ⟨by rfl, ?yq14⟩) (by assumption) ?tq14
            case yq14 => (intro wz hSw; clear hSw; go_simp; try with_reducible rfl)
            simp only [Act.put, List.setIfInBounds_toArray, List.set_cons_zero, List.set_cons_succ]
            refine wpAnyH_take (i := 5) (oi := { dst := some 59, op := Op.indexAddr 36 (Operand.tmp 57) (Operand.tmp 58), type := 0, pos := "law.go:114", after := #[{ on := 3, ground := Ground.data }, { on := 4, ground := Ground.data }, { on := 1, ground := Ground.guard }], guard := some (1, true) }) (v := ?vq15) rfl (by kernel_rfl) (by kernel_rfl) (by kernel_rfl) (fun _ _ _ h => h) (Or.inl ⟨by rfl, ?yq15⟩) (by assumption) ?tq15
            case yq15 => (intro wz hSw; clear hSw; go_simp; try with_reducible rfl)
            simp only [Act.put, List.setIfInBounds_toArray, List.set_cons_zero, List.set_cons_succ]
            refine wpAnyH_take (i := 6) (oi := { dst := some 60, op := Op.load 3 (Operand.tmp 59), type := 3, pos := "law.go:114", after := #[{ on := 5, ground := Ground.data }, { on := 1, ground := Ground.guard }], guard := some (1, true) }) (v := ?vq16) rfl (by kernel_rfl) (by kernel_rfl) (by kernel_rfl) (fun _ _ _ h => h) (Or.inl ⟨by rfl, ?yq16⟩) (by assumption) ?tq16
            case yq16 => (intro wz hSw; have cr := box_cell hSw.2.2.1 k _ HRow.out; clear hSw; go_simp; try with_reducible rfl)
            simp only [Act.put, List.setIfInBounds_toArray, List.set_cons_zero, List.set_cons_succ]
            refine wpAnyH_take (i := 8) (oi := { dst := some 62, op := Op.load 23 (Operand.tmp 4), type := 23, pos := "law.go:114", after := #[{ on := 1, ground := Ground.guard }], guard := some (1, true) }) (v := factV B2) rfl (by kernel_rfl) (by kernel_rfl) (by kernel_rfl) (fun _ _ _ h => h) (Or.inl ⟨by rfl, fun wz hSw => sem_load_fact _ rfl (W.heap.size + 1) rfl B2 (hSw.2.1)⟩) (by assumption) ?tq18
            simp only [Act.put, List.setIfInBounds_toArray, List.set_cons_zero, List.set_cons_succ]
            refine wpAnyH_take (i := 9) (oi := { dst := some 63, op := Op.move (Operand.tmp 8), type := 36, pos := "law.go:114", after := #[{ on := 1, ground := Ground.guard }], guard := some (1, true) }) (v := ?vq19) rfl (by kernel_rfl) (by kernel_rfl) (by kernel_rfl) (fun _ _ _ h => h) (Or.inl ⟨by rfl, ?yq19⟩) (by assumption) ?tq19
            case yq19 => (intro wz hSw; clear hSw; go_simp; try with_reducible rfl)
            simp only [Act.put, List.setIfInBounds_toArray, List.set_cons_zero, List.set_cons_succ]
            refine wpAnyH_take (i := 10) (oi := { dst := some 64, op := Op.move (Operand.tmp 11), type := 3, pos := "law.go:114", after := #[{ on := 1, ground := Ground.guard }], guard := some (1, true) }) (v := ?vq110) rfl (by kernel_rfl) (by kernel_rfl) (by kernel_rfl) (fun _ _ _ h => h) (Or.inl ⟨by rfl, ?yq110⟩) (by assumption) ?tq110
            case yq110 => (intro wz hSw; clear hSw; go_simp; try with_reducible rfl)
            simp only [Act.put, List.setIfInBounds_toArray, List.set_cons_zero, List.set_cons_succ]
            refine wpAnyH_take (i := 11) (oi := { dst := some 65, op := Op.indexAddr 36 (Operand.tmp 63) (Operand.tmp 64), type := 0, pos := "law.go:114", after := #[{ on := 9, ground := Ground.data }, { on := 10, ground := Ground.data }, { on := 1, ground := Ground.guard }], guard := some (1, true) }) (v := ?vq111) rfl (by kernel_rfl) (by kernel_rfl) (by kernel_rfl) (fun _ _ _ h => h) (Or.inl ⟨by rfl, ?yq111⟩) (by assumption) ?tq111
            case yq111 => (intro wz hSw; clear hSw; go_simp; try with_reducible rfl)
            simp only [Act.put, List.setIfInBounds_toArray, List.set_cons_zero, List.set_cons_succ]
            refine wpAnyH_take (i := 12) (oi := { dst := some 66, op := Op.load 3 (Operand.tmp 65), type := 3, pos := "law.go:114", after := #[{ on := 11, ground := Ground.data }, { on := 1, ground := Ground.guard }], guard := some (1, true) }) (v := ?vq112) rfl (by kernel_rfl) (by kernel_rfl) (by kernel_rfl) (fun _ _ _ h => h) (Or.inl ⟨by rfl, ?yq112⟩) (by assumption) ?tq112
            case yq112 => (intro wz hSw; have cr := box_cell hSw.2.2.1 k _ HRow.out; clear hSw; go_simp; try with_reducible rfl)
            simp only [Act.put, List.setIfInBounds_toArray, List.set_cons_zero, List.set_cons_succ]
            refine wpAnyH_ready (rs := [7]) (by kernel_rfl) (by simp) ?_
            refine AllReadyH.cons (o := { dst := some 61, op := Op.call { callee := Callee.value (Operand.func 25), args := #[Operand.tmp 56, Operand.tmp 60], argTypes := #[23, 3] }, type := 3, pos := "law.go:114", after := #[{ on := 2, ground := Ground.data }, { on := 6, ground := Ground.data }, { on := 1, ground := Ground.chain }, { on := 1, ground := Ground.guard }], guard := some (1, true) }) rfl (fun K hK => ?_) AllReadyH.nil
            have HH := Lib.hid hHeld
            go_simp
            refine (Ga.out _).mono ?_; rintro e wz ⟨rfl, gz⟩
            have hz : wz.heap[W.heap.size]? = some (factObj A) ∧ wz.heap[W.heap.size + 1]? = some (factObj B2) ∧ wz.heap[Bk]? = some (.cells (rowK L) 3) ∧ Below W.heap.size W wz := ⟨box_below HH.out.1 gz, box_below HH.out.2.1 gz, box_below HH.out.2.2.1 gz, below_step HH.out.2.2.2 gz⟩
            clear gz HH
            refine hK.out _ _ (hz) (fun hHeld' => ?_)
            clear hK K hHeld
            have hHeld := hHeld'; clear hHeld'
            try simp only [Act.put, List.setIfInBounds_toArray, List.set_cons_zero, List.set_cons_succ]
            refine wpAnyH_ready (rs := [13]) (by kernel_rfl) (by simp) ?_
            refine AllReadyH.cons (o := { dst := some 67, op := Op.call { callee := Callee.value (Operand.func 25), args := #[Operand.tmp 62, Operand.tmp 66], argTypes := #[23, 3] }, type := 3, pos := "law.go:114", after := #[{ on := 8, ground := Ground.data }, { on := 12, ground := Ground.data }, { on := 7, ground := Ground.chain }, { on := 1, ground := Ground.guard }], guard := some (1, true) }) rfl (fun K hK => ?_) AllReadyH.nil
            have HH := Lib.hid hHeld
            go_simp
            refine (Gb.out _).mono ?_; rintro e wz ⟨rfl, gz⟩
            have hz : wz.heap[W.heap.size]? = some (factObj A) ∧ wz.heap[W.heap.size + 1]? = some (factObj B2) ∧ wz.heap[Bk]? = some (.cells (rowK L) 3) ∧ Below W.heap.size W wz := ⟨box_below HH.out.1 gz, box_below HH.out.2.1 gz, box_below HH.out.2.2.1 gz, below_step HH.out.2.2.2 gz⟩
            clear gz HH
            refine hK.out _ _ (hz) (fun hHeld' => ?_)
            clear hK K hHeld
            have hHeld := hHeld'; clear hHeld'
            try simp only [Act.put, List.setIfInBounds_toArray, List.set_cons_zero, List.set_cons_succ]
            refine wpAnyH_take (i := 14) (oi := { dst := some 68, op := Op.binOp BinOp.eql 3 (Operand.tmp 61) (Operand.tmp 67) 3, type := 4, pos := "law.go:114", after := #[{ on := 7, ground := Ground.data }, { on := 13, ground := Ground.data }, { on := 1, ground := Ground.guard }], guard := some (1, true) }) (v := ?vq114) rfl (by kernel_rfl) (by kernel_rfl) (by kernel_rfl) (fun _ _ _ h => h) (Or.inl ⟨by rfl, ?yq114⟩) (by assumption) ?tq114
            case yq114 => (intro wz hSw; clear hSw; go_simp; try with_reducible rfl)
            simp only [Act.put, List.setIfInBounds_toArray, List.set_cons_zero, List.set_cons_succ]
            refine wpAnyH_take (i := 15) (oi := { dst := some 69, op := Op.pick (Operand.tmp 55) (Operand.tmp 68) (Operand.const (Value.bool false)), type := 4, pos := "law.go:114", after := #[{ on := 1, ground := Ground.data }, { on := 14, ground := Ground.data }], guard := none }) (v := ?vq115) rfl (by kernel_rfl) (by kernel_rfl) (by kernel_rfl) (fun _ _ _ h => h) (Or.inl ⟨by rfl, ?yq115⟩) (by assumption) ?tq115
            case yq115 => (intro wz hSw; clear hSw; go_simp; try with_reducible rfl)
            simp only [Act.put, List.setIfInBounds_toArray, List.set_cons_zero, List.set_cons_succ]
            refine wpAnyH_take (i := 16) (oi := { dst := some 10, op := Op.assign (Operand.tmp 69), type := 4, pos := "law.go:114", after := #[{ on := 15, ground := Ground.data }, { on := 13, ground := Ground.chain }, { on := 0, ground := Ground.phase }, { on := 1, ground := Ground.phase }, { on := 2, ground := Ground.phase }, { on := 3, ground := Ground.phase }, { on := 4, ground := Ground.phase }, { on := 5, ground := Ground.phase }, { on := 6, ground := Ground.phase }, { on := 7, ground := Ground.phase }, { on := 8, ground := Ground.phase }, { on := 9, ground := Ground.phase }, { on := 10, ground := Ground.phase }, { on := 11, ground := Ground.phase }, { on := 12, ground := Ground.phase }, { on := 13, ground := Ground.phase }, { on := 14, ground := Ground.phase }, { on := 15, ground := Ground.phase }], guard := none }) (v := ?vq116) rfl (by kernel_rfl) (by kernel_rfl) (by kernel_rfl) (fun _ _ _ h => h) (Or.inl ⟨by rfl, ?yq116⟩) (by assumption) ?tq116
            case yq116 => (intro wz hSw; clear hSw; go_simp; try with_reducible rfl)
            simp only [Act.put, List.setIfInBounds_toArray, List.set_cons_zero, List.set_cons_succ]
            refine wpAnyH_done (by kernel_rfl) ?_ _
            go_wp2_with fail
            go_roundw
            case rel => exact ⟨k + 1, by omega, by go_num, by rw [hall.out]; rfl, hHeld⟩
            case measure => simp [intOf]; omega
        · obtain rfl : k = L.length := by omega
          have hfin := same_key (HVa.out) (HVb.out) (HLk.out)
          rw [List.take_length]
          go_wp2_with fail
          generalize sameB A B2 L = E at *
          rcases hfin with ⟨h1, rfl⟩ | ⟨h1, rfl⟩
          · rw [← h1] at HKb
            clear h1
            generalize bs (keyB A) = KA at *
            refine wp_region_held_drew (S := (fun v => v.heap[W.heap.size]? = some (factObj A) ∧ v.heap[W.heap.size + 1]? = some (factObj B2) ∧ v.heap[Bk]? = some (.cells (rowK L) 3) ∧ Below W.heap.size W v)) (by kernel_rfl) (⟨HFr.out, HGr.out, HRr.out, HBr.out.drew⟩) (fun hHeld => ?_)
            generalize wr.drew = wd at *
            refine wpAnyH_take (i := 0) (oi := { dst := some 70, op := Op.move (Operand.tmp 7), type := 4, pos := "law.go:116", after := #[], guard := none }) (v := ?vq20) rfl (by kernel_rfl) (by kernel_rfl) (by kernel_rfl) (fun _ _ _ h => h) (Or.inl ⟨by rfl, ?yq20⟩) (by assumption) ?tq20
            case yq20 => (intro wz hSw; clear hSw; go_simp; try with_reducible rfl)
            simp only [Act.put, List.setIfInBounds_toArray, List.set_cons_zero, List.set_cons_succ]
            refine wpAnyH_take (i := 1) (oi := { dst := some 71, op := Op.move (Operand.tmp 70), type := 4, pos := "law.go:116", after := #[{ on := 0, ground := Ground.data }], guard := none }) (v := ?vq21) rfl (by kernel_rfl) (by kernel_rfl) (by kernel_rfl) (fun _ _ _ h => h) (Or.inl ⟨by rfl, ?yq21⟩) (by assumption) ?tq21
            case yq21 => (intro wz hSw; clear hSw; go_simp; try with_reducible rfl)
            simp only [Act.put, List.setIfInBounds_toArray, List.set_cons_zero, List.set_cons_succ]
            refine wpAnyH_take (i := 2) (oi := { dst := some 72, op := Op.load 23 (Operand.tmp 3), type := 23, pos := "law.go:116", after := #[{ on := 1, ground := Ground.guard }], guard := some (1, true) }) (v := factV A) rfl (by kernel_rfl) (by kernel_rfl) (by kernel_rfl) (fun _ _ _ h => h) (Or.inl ⟨by rfl, fun wz hSw => sem_load_fact _ rfl (W.heap.size) rfl A (hSw.1)⟩) (by assumption) ?tq22
            simp only [Act.put, List.setIfInBounds_toArray, List.set_cons_zero, List.set_cons_succ]
            refine wpAnyH_take (i := 4) (oi := { dst := some 74, op := Op.load 23 (Operand.tmp 4), type := 23, pos := "law.go:116", after := #[{ on := 1, ground := Ground.guard }], guard := some (1, true) }) (v := factV B2) rfl (by kernel_rfl) (by kernel_rfl) (by kernel_rfl) (fun _ _ _ h => h) (Or.inl ⟨by rfl, fun wz hSw => sem_load_fact _ rfl (W.heap.size + 1) rfl B2 (hSw.2.1)⟩) (by assumption) ?tq24
            simp only [Act.put, List.setIfInBounds_toArray, List.set_cons_zero, List.set_cons_succ]
            refine wpAnyH_take (i := 7) (oi := { dst := some 77, op := Op.move (Operand.tmp 10), type := 4, pos := "law.go:116", after := #[{ on := 1, ground := Ground.guard }], guard := some (1, true) }) (v := ?vq27) rfl (by kernel_rfl) (by kernel_rfl) (by kernel_rfl) (fun _ _ _ h => h) (Or.inl ⟨by rfl, ?yq27⟩) (by assumption) ?tq27
            case yq27 => (intro wz hSw; clear hSw; go_simp; try with_reducible rfl)
            simp only [Act.put, List.setIfInBounds_toArray, List.set_cons_zero, List.set_cons_succ]
            refine wpAnyH_ready (rs := [3]) (by kernel_rfl) (by simp) ?_
            refine AllReadyH.cons (o := { dst := some 73, op := Op.call { callee := Callee.value (Operand.func 18), args := #[Operand.tmp 72], argTypes := #[23] }, type := 9, pos := "law.go:116", after := #[{ on := 2, ground := Ground.data }, { on := 1, ground := Ground.chain }, { on := 1, ground := Ground.guard }], guard := some (1, true) }) rfl (fun K hK => ?_) AllReadyH.nil
            have HH := Lib.hid hHeld
            go_simp
            refine (HKa.out _ (HTW.out.below HH.out.2.2.2)).mono ?_; rintro e wz ⟨rfl, gz⟩
            have hz : wz.heap[W.heap.size]? = some (factObj A) ∧ wz.heap[W.heap.size + 1]? = some (factObj B2) ∧ wz.heap[Bk]? = some (.cells (rowK L) 3) ∧ Below W.heap.size W wz := ⟨box_below HH.out.1 gz, box_below HH.out.2.1 gz, box_below HH.out.2.2.1 gz, below_step HH.out.2.2.2 gz⟩
            clear gz HH
            refine hK.out _ _ (hz) (fun hHeld' => ?_)
            clear hK K hHeld
            have hHeld := hHeld'; clear hHeld'
            try simp only [Act.put, List.setIfInBounds_toArray, List.set_cons_zero, List.set_cons_succ]
            refine wpAnyH_ready (rs := [5]) (by kernel_rfl) (by simp) ?_
            refine AllReadyH.cons (o := { dst := some 75, op := Op.call { callee := Callee.value (Operand.func 18), args := #[Operand.tmp 74], argTypes := #[23] }, type := 9, pos := "law.go:116", after := #[{ on := 4, ground := Ground.data }, { on := 3, ground := Ground.chain }, { on := 1, ground := Ground.guard }], guard := some (1, true) }) rfl (fun K hK => ?_) AllReadyH.nil
            have HH := Lib.hid hHeld
            go_simp
            refine (HKb.out _ (HTW.out.below HH.out.2.2.2)).mono ?_; rintro e wz ⟨rfl, gz⟩
            have hz : wz.heap[W.heap.size]? = some (factObj A) ∧ wz.heap[W.heap.size + 1]? = some (factObj B2) ∧ wz.heap[Bk]? = some (.cells (rowK L) 3) ∧ Below W.heap.size W wz := ⟨box_below HH.out.1 gz, box_below HH.out.2.1 gz, box_below HH.out.2.2.1 gz, below_step HH.out.2.2.2 gz⟩
            clear gz HH
            refine hK.out _ _ (hz) (fun hHeld' => ?_)
            clear hK K hHeld
            have hHeld := hHeld'; clear hHeld'
            try simp only [Act.put, List.setIfInBounds_toArray, List.set_cons_zero, List.set_cons_succ]
            refine wpAnyH_take (i := 6) (oi := { dst := some 76, op := Op.binOp BinOp.eql 9 (Operand.tmp 73) (Operand.tmp 75) 9, type := 4, pos := "law.go:116", after := #[{ on := 3, ground := Ground.data }, { on := 5, ground := Ground.data }, { on := 1, ground := Ground.guard }], guard := some (1, true) }) (v := ?vq26) rfl (by kernel_rfl) (by kernel_rfl) (by kernel_rfl) (fun _ _ _ h => h) (Or.inl ⟨by rfl, ?yq26⟩) (by assumption) ?tq26
            case yq26 => (intro wz hSw; clear hSw; go_simp; try with_reducible rfl)
            simp only [Act.put, List.setIfInBounds_toArray, List.set_cons_zero, List.set_cons_succ]
            refine wpAnyH_take (i := 8) (oi := { dst := some 78, op := Op.binOp BinOp.eql 4 (Operand.tmp 76) (Operand.tmp 77) 4, type := 4, pos := "law.go:116", after := #[{ on := 6, ground := Ground.data }, { on := 7, ground := Ground.data }, { on := 1, ground := Ground.guard }], guard := some (1, true) }) (v := ?vq28) rfl (by kernel_rfl) (by kernel_rfl) (by kernel_rfl) (fun _ _ _ h => h) (Or.inl ⟨by rfl, ?yq28⟩) (by assumption) ?tq28
            case yq28 => (intro wz hSw; clear hSw; go_simp; try with_reducible rfl)
            simp only [Act.put, List.setIfInBounds_toArray, List.set_cons_zero, List.set_cons_succ]
            refine wpAnyH_take (i := 9) (oi := { dst := some 79, op := Op.pick (Operand.tmp 71) (Operand.tmp 78) (Operand.const (Value.bool false)), type := 4, pos := "law.go:116", after := #[{ on := 1, ground := Ground.data }, { on := 8, ground := Ground.data }], guard := none }) (v := ?vq29) rfl (by kernel_rfl) (by kernel_rfl) (by kernel_rfl) (fun _ _ _ h => h) (Or.inl ⟨by rfl, ?yq29⟩) (by assumption) ?tq29
            case yq29 => (intro wz hSw; clear hSw; go_simp; try with_reducible rfl)
            simp only [Act.put, List.setIfInBounds_toArray, List.set_cons_zero, List.set_cons_succ]
            refine wpAnyH_take (i := 10) (oi := { dst := some 6, op := Op.assign (Operand.tmp 79), type := 4, pos := "law.go:116", after := #[{ on := 9, ground := Ground.data }, { on := 5, ground := Ground.chain }, { on := 0, ground := Ground.phase }, { on := 1, ground := Ground.phase }, { on := 2, ground := Ground.phase }, { on := 3, ground := Ground.phase }, { on := 4, ground := Ground.phase }, { on := 5, ground := Ground.phase }, { on := 6, ground := Ground.phase }, { on := 7, ground := Ground.phase }, { on := 8, ground := Ground.phase }, { on := 9, ground := Ground.phase }], guard := none }) (v := ?vq210) rfl (by kernel_rfl) (by kernel_rfl) (by kernel_rfl) (fun _ _ _ h => h) (Or.inl ⟨by rfl, ?yq210⟩) (by assumption) ?tq210
            case yq210 => (intro wz hSw; clear hSw; go_simp; try with_reducible rfl)
            simp only [Act.put, List.setIfInBounds_toArray, List.set_cons_zero, List.set_cons_succ]
            refine wpAnyH_done (by kernel_rfl) ?_ _
            have HFin := Lib.hid hHeld
            go_wp2_with fail
            go_ret
            exact ⟨rfl, HFin.out.2.2.2⟩
          · have k1 : ((bs (keyB A)).toList == (bs (keyB B2)).toList) = false := by rw [bs_list, bs_list]; exact beq_eq_false_iff_ne.2 h1
            have k2 : ¬ (bs (keyB A)).toList = (bs (keyB B2)).toList := by rw [bs_list, bs_list]; exact h1
            clear h1
            generalize bs (keyB A) = KA at *
            generalize bs (keyB B2) = KB at *
            refine wp_region_held_drew (S := (fun v => v.heap[W.heap.size]? = some (factObj A) ∧ v.heap[W.heap.size + 1]? = some (factObj B2) ∧ v.heap[Bk]? = some (.cells (rowK L) 3) ∧ Below W.heap.size W v)) (by kernel_rfl) (⟨HFr.out, HGr.out, HRr.out, HBr.out.drew⟩) (fun hHeld => ?_)
            generalize wr.drew = wd at *
            refine wpAnyH_take (i := 0) (oi := { dst := some 70, op := Op.move (Operand.tmp 7), type := 4, pos := "law.go:116", after := #[], guard := none }) (v := ?vq30) rfl (by kernel_rfl) (by kernel_rfl) (by kernel_rfl) (fun _ _ _ h => h) (Or.inl ⟨by rfl, ?yq30⟩) (by assumption) ?tq30
            case yq30 => (intro wz hSw; clear hSw; go_simp; try with_reducible rfl)
            simp only [Act.put, List.setIfInBounds_toArray, List.set_cons_zero, List.set_cons_succ]
            refine wpAnyH_take (i := 1) (oi := { dst := some 71, op := Op.move (Operand.tmp 70), type := 4, pos := "law.go:116", after := #[{ on := 0, ground := Ground.data }], guard := none }) (v := ?vq31) rfl (by kernel_rfl) (by kernel_rfl) (by kernel_rfl) (fun _ _ _ h => h) (Or.inl ⟨by rfl, ?yq31⟩) (by assumption) ?tq31
            case yq31 => (intro wz hSw; clear hSw; go_simp; try with_reducible rfl)
            simp only [Act.put, List.setIfInBounds_toArray, List.set_cons_zero, List.set_cons_succ]
            refine wpAnyH_take (i := 2) (oi := { dst := some 72, op := Op.load 23 (Operand.tmp 3), type := 23, pos := "law.go:116", after := #[{ on := 1, ground := Ground.guard }], guard := some (1, true) }) (v := factV A) rfl (by kernel_rfl) (by kernel_rfl) (by kernel_rfl) (fun _ _ _ h => h) (Or.inl ⟨by rfl, fun wz hSw => sem_load_fact _ rfl (W.heap.size) rfl A (hSw.1)⟩) (by assumption) ?tq32
            simp only [Act.put, List.setIfInBounds_toArray, List.set_cons_zero, List.set_cons_succ]
            refine wpAnyH_take (i := 4) (oi := { dst := some 74, op := Op.load 23 (Operand.tmp 4), type := 23, pos := "law.go:116", after := #[{ on := 1, ground := Ground.guard }], guard := some (1, true) }) (v := factV B2) rfl (by kernel_rfl) (by kernel_rfl) (by kernel_rfl) (fun _ _ _ h => h) (Or.inl ⟨by rfl, fun wz hSw => sem_load_fact _ rfl (W.heap.size + 1) rfl B2 (hSw.2.1)⟩) (by assumption) ?tq34
            simp only [Act.put, List.setIfInBounds_toArray, List.set_cons_zero, List.set_cons_succ]
            refine wpAnyH_take (i := 7) (oi := { dst := some 77, op := Op.move (Operand.tmp 10), type := 4, pos := "law.go:116", after := #[{ on := 1, ground := Ground.guard }], guard := some (1, true) }) (v := ?vq37) rfl (by kernel_rfl) (by kernel_rfl) (by kernel_rfl) (fun _ _ _ h => h) (Or.inl ⟨by rfl, ?yq37⟩) (by assumption) ?tq37
            case yq37 => (intro wz hSw; clear hSw; go_simp; try with_reducible rfl)
            simp only [Act.put, List.setIfInBounds_toArray, List.set_cons_zero, List.set_cons_succ]
            refine wpAnyH_ready (rs := [3]) (by kernel_rfl) (by simp) ?_
            refine AllReadyH.cons (o := { dst := some 73, op := Op.call { callee := Callee.value (Operand.func 18), args := #[Operand.tmp 72], argTypes := #[23] }, type := 9, pos := "law.go:116", after := #[{ on := 2, ground := Ground.data }, { on := 1, ground := Ground.chain }, { on := 1, ground := Ground.guard }], guard := some (1, true) }) rfl (fun K hK => ?_) AllReadyH.nil
            have HH := Lib.hid hHeld
            go_simp
            refine (HKa.out _ (HTW.out.below HH.out.2.2.2)).mono ?_; rintro e wz ⟨rfl, gz⟩
            have hz : wz.heap[W.heap.size]? = some (factObj A) ∧ wz.heap[W.heap.size + 1]? = some (factObj B2) ∧ wz.heap[Bk]? = some (.cells (rowK L) 3) ∧ Below W.heap.size W wz := ⟨box_below HH.out.1 gz, box_below HH.out.2.1 gz, box_below HH.out.2.2.1 gz, below_step HH.out.2.2.2 gz⟩
            clear gz HH
            refine hK.out _ _ (hz) (fun hHeld' => ?_)
            clear hK K hHeld
            have hHeld := hHeld'; clear hHeld'
            try simp only [Act.put, List.setIfInBounds_toArray, List.set_cons_zero, List.set_cons_succ]
            refine wpAnyH_ready (rs := [5]) (by kernel_rfl) (by simp) ?_
            refine AllReadyH.cons (o := { dst := some 75, op := Op.call { callee := Callee.value (Operand.func 18), args := #[Operand.tmp 74], argTypes := #[23] }, type := 9, pos := "law.go:116", after := #[{ on := 4, ground := Ground.data }, { on := 3, ground := Ground.chain }, { on := 1, ground := Ground.guard }], guard := some (1, true) }) rfl (fun K hK => ?_) AllReadyH.nil
            have HH := Lib.hid hHeld
            go_simp
            refine (HKb.out _ (HTW.out.below HH.out.2.2.2)).mono ?_; rintro e wz ⟨rfl, gz⟩
            have hz : wz.heap[W.heap.size]? = some (factObj A) ∧ wz.heap[W.heap.size + 1]? = some (factObj B2) ∧ wz.heap[Bk]? = some (.cells (rowK L) 3) ∧ Below W.heap.size W wz := ⟨box_below HH.out.1 gz, box_below HH.out.2.1 gz, box_below HH.out.2.2.1 gz, below_step HH.out.2.2.2 gz⟩
            clear gz HH
            refine hK.out _ _ (hz) (fun hHeld' => ?_)
            clear hK K hHeld
            have hHeld := hHeld'; clear hHeld'
            try simp only [Act.put, List.setIfInBounds_toArray, List.set_cons_zero, List.set_cons_succ]
            refine wpAnyH_take (i := 6) (oi := { dst := some 76, op := Op.binOp BinOp.eql 9 (Operand.tmp 73) (Operand.tmp 75) 9, type := 4, pos := "law.go:116", after := #[{ on := 3, ground := Ground.data }, { on := 5, ground := Ground.data }, { on := 1, ground := Ground.guard }], guard := some (1, true) }) (v := ?vq36) rfl (by kernel_rfl) (by kernel_rfl) (by kernel_rfl) (fun _ _ _ h => h) (Or.inl ⟨by rfl, ?yq36⟩) (by assumption) ?tq36
            case yq36 => (intro wz hSw; clear hSw; go_simp; try with_reducible rfl)
            simp only [Act.put, List.setIfInBounds_toArray, List.set_cons_zero, List.set_cons_succ]
            refine wpAnyH_take (i := 8) (oi := { dst := some 78, op := Op.binOp BinOp.eql 4 (Operand.tmp 76) (Operand.tmp 77) 4, type := 4, pos := "law.go:116", after := #[{ on := 6, ground := Ground.data }, { on := 7, ground := Ground.data }, { on := 1, ground := Ground.guard }], guard := some (1, true) }) (v := ?vq38) rfl (by kernel_rfl) (by kernel_rfl) (by kernel_rfl) (fun _ _ _ h => h) (Or.inl ⟨by rfl, ?yq38⟩) (by assumption) ?tq38
            case yq38 => (intro wz hSw; clear hSw; go_simp; try with_reducible rfl)
            simp only [Act.put, List.setIfInBounds_toArray, List.set_cons_zero, List.set_cons_succ]
            refine wpAnyH_take (i := 9) (oi := { dst := some 79, op := Op.pick (Operand.tmp 71) (Operand.tmp 78) (Operand.const (Value.bool false)), type := 4, pos := "law.go:116", after := #[{ on := 1, ground := Ground.data }, { on := 8, ground := Ground.data }], guard := none }) (v := ?vq39) rfl (by kernel_rfl) (by kernel_rfl) (by kernel_rfl) (fun _ _ _ h => h) (Or.inl ⟨by rfl, ?yq39⟩) (by assumption) ?tq39
            case yq39 => (intro wz hSw; clear hSw; go_simp; try with_reducible rfl)
            simp only [Act.put, List.setIfInBounds_toArray, List.set_cons_zero, List.set_cons_succ]
            refine wpAnyH_take (i := 10) (oi := { dst := some 6, op := Op.assign (Operand.tmp 79), type := 4, pos := "law.go:116", after := #[{ on := 9, ground := Ground.data }, { on := 5, ground := Ground.chain }, { on := 0, ground := Ground.phase }, { on := 1, ground := Ground.phase }, { on := 2, ground := Ground.phase }, { on := 3, ground := Ground.phase }, { on := 4, ground := Ground.phase }, { on := 5, ground := Ground.phase }, { on := 6, ground := Ground.phase }, { on := 7, ground := Ground.phase }, { on := 8, ground := Ground.phase }, { on := 9, ground := Ground.phase }], guard := none }) (v := ?vq310) rfl (by kernel_rfl) (by kernel_rfl) (by kernel_rfl) (fun _ _ _ h => h) (Or.inl ⟨by rfl, ?yq310⟩) (by assumption) ?tq310
            case yq310 => (intro wz hSw; clear hSw; go_simp; try with_reducible rfl)
            simp only [Act.put, List.setIfInBounds_toArray, List.set_cons_zero, List.set_cons_succ]
            refine wpAnyH_done (by kernel_rfl) ?_ _
            have HFin := Lib.hid hHeld
            go_wp2_with fail
            go_ret
            exact ⟨rfl, HFin.out.2.2.2⟩
end Go.Proofs.YtnmjcjkjdbkpnaaDoor
