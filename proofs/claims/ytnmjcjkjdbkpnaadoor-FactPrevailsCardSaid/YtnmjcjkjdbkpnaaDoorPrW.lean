/-
  The walk of FactPrevails: it returns true for all arguments. Condition: the table reads as the program's text lays it.
-/
import Derived.Test.YtnmjcjkjdbkpnaaDoorRtW
namespace Go.Proofs.YtnmjcjkjdbkpnaaDoor
open Go.RowKit Go.Shelf Fc
attribute [local go_sem] Oper.semAt_some
set_option maxRecDepth 100000 in
set_option maxHeartbeats 16000000 in
theorem prevails_walk (F G : Fact) (al : Bool) (W : World) (ht : Tab W) (hs : F.tx.size ≤ maxLen) (hs2 : G.tx.size ≤ maxLen) : Calls Tryd.prog 9 #[factV F, factV G, .bool al] W fun e w' => e = .returned (.bool true) ∧ Below W.heap.size W w' := by
  obtain ⟨W2, hW2⟩ : ∃ V, (W.alloc (factObj F)).alloc (factObj G) = V := ⟨_, rfl⟩
  have HTn := Lib.hid ht.1
  have hb2 : Below W.heap.size W W2 := by rw [← hW2]; exact below_step (below_new _ _) (below_new _ _)
  have HF := Lib.hid (show W2.heap[W.heap.size]? = some (factObj F) from by rw [← hW2]; exact box_below (heap_alloc_new _ _) (below_new _ _))
  have HG := Lib.hid (show W2.heap[W.heap.size + 1]? = some (factObj G) from by
    rw [← hW2]
    have := heap_alloc_new (W.alloc (factObj F)) (factObj G)
    rwa [World.size_alloc] at this)
  have HB := Lib.hid hb2
  have HT := Lib.hid (ht.below hb2)
  have HTW := Lib.hid ht
  have HS1 := Lib.hid hs
  have HS2 := Lib.hid hs2
  clear ht hs hs2 hb2
  go_enter Tryd.func9, Tryd.ntmps9
  go_upto_region 1 with (fail)
  clear hW2
  go_wp2_with fail
  refine (sane_any W2 HT.out).mono ?_; rintro e w2 ⟨rfl, g2⟩
  have HT2 := Lib.hid (HT.out.below g2)
  have HB2 := Lib.hid (below_step HB.out g2)
  have HF2 := Lib.hid (box_below HF.out g2)
  have HG2 := Lib.hid (box_below HG.out g2)
  clear g2 HT HB HF HG
  go_wp2_with (refine wpList_load_fact rfl _ rfl _ rfl F HF2.out ?_)
  refine (cut_any F w2 HS1.out).mono ?_; rintro e w3 ⟨rfl, g3⟩
  have HT3 := Lib.hid (HT2.out.below g3)
  have HB3 := Lib.hid (below_step HB2.out g3)
  have HF3 := Lib.hid (box_below HF2.out g3)
  have HG3 := Lib.hid (box_below HG2.out g3)
  clear g3 HT2 HB2 HF2 HG2
  have HF4 := Lib.hid (setRow_heap w3 W.heap.size _ (factC (cutF F)) _ _ HF3.out)
  have HC4 := row_ch w3 W.heap.size (factC (cutF F))
  have HG4 := Lib.hid ((HC4.block _ (lt_of_block HG3.out) (by omega)).trans HG3.out)
  have HB4 := Lib.hid (HB3.out.trans (HC4.below (B := W.heap.size) (Nat.le_of_lt (lt_of_block HF3.out)) (fun k e => by omega)))
  have HT4 := Lib.hid (HT3.out.ch HC4 (fun e => by have := HTn.out; omega))
  have HSF := Lib.hid (cutF_max F)
  clear HC4 HT3 HB3 HG3 HS1
  go_upto_region 3 with (refine wpList_store_at rfl rfl _ _ rfl W.heap.size (cutF F) rfl rfl _ HF3.out rfl ?_)
  clear HF3
  generalize w3.setRow W.heap.size (factC (cutF F)) = w4 at *
  generalize cutF F = A at *
  go_wp2_with (refine wpList_load_fact rfl _ rfl _ rfl G HG4.out ?_)
  refine (cut_any G w4 HS2.out).mono ?_; rintro e w5 ⟨rfl, g5⟩
  have HT5 := Lib.hid (HT4.out.below g5)
  have HB5 := Lib.hid (below_step HB4.out g5)
  have HF5 := Lib.hid (box_below HF4.out g5)
  have HG5 := Lib.hid (box_below HG4.out g5)
  clear g5 HT4 HB4 HF4 HG4
  have HG6 := Lib.hid (setRow_heap w5 (W.heap.size + 1) _ (factC (cutF G)) _ _ HG5.out)
  have HC6 := row_ch w5 (W.heap.size + 1) (factC (cutF G))
  have HF6 := Lib.hid ((HC6.block _ (lt_of_block HF5.out) (by omega)).trans HF5.out)
  have HB6 := Lib.hid (HB5.out.trans (HC6.below (B := W.heap.size) (Nat.le_of_lt (lt_of_block HF5.out)) (fun k e => by omega)))
  have HT6 := Lib.hid (HT5.out.ch HC6 (fun e => by have := HTn.out; omega))
  have HSG := Lib.hid (cutF_max G)
  clear HC6 HT5 HB5 HF5 HS2
  go_upto_region 4 with (refine wpList_store_at rfl rfl _ _ rfl (W.heap.size + 1) (cutF G) rfl rfl _ HG5.out rfl ?_)
  clear HG5
  generalize w5.setRow (W.heap.size + 1) (factC (cutF G)) = w6 at *
  generalize cutF G = B at *
  cases al with
  | false =>
    go_upto_region 11 with (fail)
    have HVa := Lib.hid (fun V h => valid_any A V h HSF.out)
    have HVb := Lib.hid (fun V h => valid_any B V h HSG.out)
    have HKa := Lib.hid (fun V h => key_any A V h HSF.out)
    have HKb := Lib.hid (fun V h => key_any B V h HSG.out)
    unfold BoolPost at HVa HVb
    unfold StrPost at HKa HKb
    have HP1 := Lib.hid (fun V h => prevails_any A B V h HSF.out HSG.out)
    have HP2 := Lib.hid (fun V h => prevails_any B A V h HSG.out HSF.out)
    unfold BoolPost at HP1 HP2
    go_wp2_with (first | (refine wpList_load_fact rfl _ rfl _ rfl A HF6.out ?_) | (refine wpList_load_fact rfl _ rfl _ rfl B HG6.out ?_))
    refine (HP1.out _ HT6.out).mono ?_; rintro e wa ⟨rfl, ga⟩
    have HTa := Lib.hid (HT6.out.below ga)
    have HBa := Lib.hid (below_step HB6.out ga)
    have HFa := Lib.hid (box_below HF6.out ga)
    have HGa := Lib.hid (box_below HG6.out ga)
    clear ga HT6 HB6 HF6 HG6
    go_wp2_with (first | (refine wpList_load_fact rfl _ rfl _ rfl A HFa.out ?_) | (refine wpList_load_fact rfl _ rfl _ rfl B HGa.out ?_))
    refine (HP2.out _ HTa.out).mono ?_; rintro e wb ⟨rfl, gb⟩
    have HTb := Lib.hid (HTa.out.below gb)
    have HBb := Lib.hid (below_step HBa.out gb)
    have HFb := Lib.hid (box_below HFa.out gb)
    have HGb := Lib.hid (box_below HGa.out gb)
    clear gb HTa HBa HFa HGa
    clear HP1 HP2
    go_wp2_with fail
    cases hva : validB A with
    | false =>
      have p1 : prevB A B = false := by
        cases h : prevB A B with
        | false => rfl
        | true => obtain ⟨x1, x2, x3, -⟩ := prev_iff.1 h; exact absurd x1 (by rw [hva]; simp)
      have p2 : prevB B A = false := by
        cases h : prevB B A with
        | false => rfl
        | true => obtain ⟨x1, x2, x3, -⟩ := prev_iff.1 h; exact absurd x2 (by rw [hva]; simp)
      rw [p1, p2]
      clear p1 p2
      rw [hva] at HVa
      clear hva
      refine wp_region_held_drew (S := (fun v => v.heap[W.heap.size]? = some (factObj A) ∧ v.heap[W.heap.size + 1]? = some (factObj B) ∧ Below W.heap.size W v)) (by kernel_rfl) (⟨HFb.out, HGb.out, HBb.out.drew⟩) (fun hHeld => ?_)
      have HBd := Lib.hid hHeld.2.2
      generalize wb.drew = wd at *
      refine wpAnyH_take (i := 0) (oi := { dst := some 37, op := Op.load 23 (Operand.tmp 3), type := 23, pos := "law.go:134", after := #[], guard := none }) (v := factV A) rfl (by kernel_rfl) (by kernel_rfl) (by kernel_rfl) (fun _ _ _ h => h) (Or.inl ⟨by rfl, fun wz hSw => sem_load_fact _ rfl (W.heap.size) rfl A (hSw.1)⟩) (by assumption) ?tp00
      simp only [Act.put, List.setIfInBounds_toArray, List.set_cons_zero, List.set_cons_succ]
      refine wpAnyH_ready (rs := [1]) (by kernel_rfl) (by simp) ?_
      refine AllReadyH.cons (o := { dst := some 38, op := Op.call { callee := Callee.value (Operand.func 16), args := #[Operand.tmp 37], argTypes := #[23] }, type := 4, pos := "law.go:134", after := #[{ on := 0, ground := Ground.data }], guard := none }) rfl (fun K hK => ?_) AllReadyH.nil
      have HH := Lib.hid hHeld
      go_simp
      refine (HVa.out wd (HTW.out.below HBd.out)).mono ?_; rintro e wz ⟨rfl, gz⟩
      have hz : wz.heap[W.heap.size]? = some (factObj A) ∧ wz.heap[W.heap.size + 1]? = some (factObj B) ∧ Below W.heap.size W wz := ⟨box_below HH.out.1 gz, box_below HH.out.2.1 gz, below_step HH.out.2.2 gz⟩
      clear gz HH
      refine hK.out _ _ (hz) (fun hHeld' => ?_)
      clear hK K hHeld
      have hHeld := hHeld'; clear hHeld'
      try simp only [Act.put, List.setIfInBounds_toArray, List.set_cons_zero, List.set_cons_succ]
      refine wpAnyH_take (i := 2) (oi := { dst := some 39, op := Op.unOp UnOp.not 4 (Operand.tmp 38), type := 4, pos := "law.go:134", after := #[{ on := 1, ground := Ground.data }], guard := none }) (v := ?vp02) rfl (by kernel_rfl) (by kernel_rfl) (by kernel_rfl) (fun _ _ _ h => h) (Or.inl ⟨by rfl, ?yp02⟩) (by assumption) ?tp02
      case yp02 => (intro wz hSw; clear hSw; go_simp; try with_reducible rfl)
      simp only [Act.put, List.setIfInBounds_toArray, List.set_cons_zero, List.set_cons_succ]
      refine wpAnyH_take (i := 3) (oi := { dst := some 40, op := Op.move (Operand.tmp 39), type := 4, pos := "law.go:134", after := #[{ on := 2, ground := Ground.data }, { on := 1, ground := Ground.chain }], guard := none }) (v := ?vp03) rfl (by kernel_rfl) (by kernel_rfl) (by kernel_rfl) (fun _ _ _ h => h) (Or.inl ⟨by rfl, ?yp03⟩) (by assumption) ?tp03
      case yp03 => (intro wz hSw; clear hSw; go_simp; try with_reducible rfl)
      simp only [Act.put, List.setIfInBounds_toArray, List.set_cons_zero, List.set_cons_succ]
      refine wpAnyH_take (i := 4) (oi := { dst := some 41, op := Op.load 23 (Operand.tmp 4), type := 23, pos := "law.go:134", after := #[{ on := 3, ground := Ground.guard }], guard := some (3, false) }) (v := undef) rfl (by kernel_rfl) (by kernel_rfl) (by kernel_rfl) (fun _ _ _ h => h) (Or.inr ⟨by rfl, rfl⟩) (by assumption) ?_
      simp only [Act.put, List.setIfInBounds_toArray, List.set_cons_zero, List.set_cons_succ]
      refine wpAnyH_take (i := 5) (oi := { dst := some 42, op := Op.call { callee := Callee.value (Operand.func 16), args := #[Operand.tmp 41], argTypes := #[23] }, type := 4, pos := "law.go:134", after := #[{ on := 4, ground := Ground.data }, { on := 3, ground := Ground.chain }, { on := 3, ground := Ground.guard }], guard := some (3, false) }) (v := undef) rfl (by kernel_rfl) (by kernel_rfl) (by kernel_rfl) (fun _ _ _ h => h) (Or.inr ⟨by rfl, rfl⟩) (by assumption) ?_
      simp only [Act.put, List.setIfInBounds_toArray, List.set_cons_zero, List.set_cons_succ]
      refine wpAnyH_take (i := 6) (oi := { dst := some 43, op := Op.unOp UnOp.not 4 (Operand.tmp 42), type := 4, pos := "law.go:134", after := #[{ on := 5, ground := Ground.data }, { on := 3, ground := Ground.guard }], guard := some (3, false) }) (v := undef) rfl (by kernel_rfl) (by kernel_rfl) (by kernel_rfl) (fun _ _ _ h => h) (Or.inr ⟨by rfl, rfl⟩) (by assumption) ?_
      simp only [Act.put, List.setIfInBounds_toArray, List.set_cons_zero, List.set_cons_succ]
      refine wpAnyH_take (i := 7) (oi := { dst := some 44, op := Op.pick (Operand.tmp 40) (Operand.const (Value.bool true)) (Operand.tmp 43), type := 4, pos := "law.go:134", after := #[{ on := 3, ground := Ground.data }, { on := 6, ground := Ground.data }], guard := none }) (v := ?vp07) rfl (by kernel_rfl) (by kernel_rfl) (by kernel_rfl) (fun _ _ _ h => h) (Or.inl ⟨by rfl, ?yp07⟩) (by assumption) ?tp07
      case yp07 => (intro wz hSw; clear hSw; go_simp; try with_reducible rfl)
      simp only [Act.put, List.setIfInBounds_toArray, List.set_cons_zero, List.set_cons_succ]
      refine wpAnyH_take (i := 8) (oi := { dst := some 45, op := Op.move (Operand.tmp 44), type := 4, pos := "law.go:134", after := #[{ on := 7, ground := Ground.data }, { on := 5, ground := Ground.chain }], guard := none }) (v := ?vp08) rfl (by kernel_rfl) (by kernel_rfl) (by kernel_rfl) (fun _ _ _ h => h) (Or.inl ⟨by rfl, ?yp08⟩) (by assumption) ?tp08
      case yp08 => (intro wz hSw; clear hSw; go_simp; try with_reducible rfl)
      simp only [Act.put, List.setIfInBounds_toArray, List.set_cons_zero, List.set_cons_succ]
      refine wpAnyH_take (i := 9) (oi := { dst := some 46, op := Op.load 23 (Operand.tmp 3), type := 23, pos := "law.go:134", after := #[{ on := 8, ground := Ground.guard }], guard := some (8, false) }) (v := undef) rfl (by kernel_rfl) (by kernel_rfl) (by kernel_rfl) (fun _ _ _ h => h) (Or.inr ⟨by rfl, rfl⟩) (by assumption) ?_
      simp only [Act.put, List.setIfInBounds_toArray, List.set_cons_zero, List.set_cons_succ]
      refine wpAnyH_take (i := 10) (oi := { dst := some 47, op := Op.call { callee := Callee.value (Operand.func 18), args := #[Operand.tmp 46], argTypes := #[23] }, type := 9, pos := "law.go:134", after := #[{ on := 9, ground := Ground.data }, { on := 8, ground := Ground.chain }, { on := 8, ground := Ground.guard }], guard := some (8, false) }) (v := undef) rfl (by kernel_rfl) (by kernel_rfl) (by kernel_rfl) (fun _ _ _ h => h) (Or.inr ⟨by rfl, rfl⟩) (by assumption) ?_
      simp only [Act.put, List.setIfInBounds_toArray, List.set_cons_zero, List.set_cons_succ]
      refine wpAnyH_take (i := 11) (oi := { dst := some 48, op := Op.load 23 (Operand.tmp 4), type := 23, pos := "law.go:134", after := #[{ on := 8, ground := Ground.guard }], guard := some (8, false) }) (v := undef) rfl (by kernel_rfl) (by kernel_rfl) (by kernel_rfl) (fun _ _ _ h => h) (Or.inr ⟨by rfl, rfl⟩) (by assumption) ?_
      simp only [Act.put, List.setIfInBounds_toArray, List.set_cons_zero, List.set_cons_succ]
      refine wpAnyH_take (i := 12) (oi := { dst := some 49, op := Op.call { callee := Callee.value (Operand.func 18), args := #[Operand.tmp 48], argTypes := #[23] }, type := 9, pos := "law.go:134", after := #[{ on := 11, ground := Ground.data }, { on := 10, ground := Ground.chain }, { on := 8, ground := Ground.guard }], guard := some (8, false) }) (v := undef) rfl (by kernel_rfl) (by kernel_rfl) (by kernel_rfl) (fun _ _ _ h => h) (Or.inr ⟨by rfl, rfl⟩) (by assumption) ?_
      simp only [Act.put, List.setIfInBounds_toArray, List.set_cons_zero, List.set_cons_succ]
      refine wpAnyH_take (i := 13) (oi := { dst := some 50, op := Op.binOp BinOp.neq 9 (Operand.tmp 47) (Operand.tmp 49) 9, type := 4, pos := "law.go:134", after := #[{ on := 10, ground := Ground.data }, { on := 12, ground := Ground.data }, { on := 8, ground := Ground.guard }], guard := some (8, false) }) (v := undef) rfl (by kernel_rfl) (by kernel_rfl) (by kernel_rfl) (fun _ _ _ h => h) (Or.inr ⟨by rfl, rfl⟩) (by assumption) ?_
      simp only [Act.put, List.setIfInBounds_toArray, List.set_cons_zero, List.set_cons_succ]
      refine wpAnyH_take (i := 14) (oi := { dst := some 51, op := Op.pick (Operand.tmp 45) (Operand.const (Value.bool true)) (Operand.tmp 50), type := 4, pos := "law.go:134", after := #[{ on := 8, ground := Ground.data }, { on := 13, ground := Ground.data }], guard := none }) (v := ?vp014) rfl (by kernel_rfl) (by kernel_rfl) (by kernel_rfl) (fun _ _ _ h => h) (Or.inl ⟨by rfl, ?yp014⟩) (by assumption) ?tp014
      case yp014 => (intro wz hSw; clear hSw; go_simp; try with_reducible rfl)
      simp only [Act.put, List.setIfInBounds_toArray, List.set_cons_zero, List.set_cons_succ]
      refine wpAnyH_take (i := 15) (oi := { dst := some 52, op := Op.move (Operand.tmp 51), type := 4, pos := "law.go:134", after := #[{ on := 14, ground := Ground.data }, { on := 12, ground := Ground.chain }], guard := none }) (v := ?vp015) rfl (by kernel_rfl) (by kernel_rfl) (by kernel_rfl) (fun _ _ _ h => h) (Or.inl ⟨by rfl, ?yp015⟩) (by assumption) ?tp015
      case yp015 => (intro wz hSw; clear hSw; go_simp; try with_reducible rfl)
      simp only [Act.put, List.setIfInBounds_toArray, List.set_cons_zero, List.set_cons_succ]
      refine wpAnyH_take (i := 16) (oi := { dst := some 53, op := Op.load 23 (Operand.tmp 3), type := 23, pos := "law.go:134", after := #[{ on := 15, ground := Ground.guard }], guard := some (15, false) }) (v := undef) rfl (by kernel_rfl) (by kernel_rfl) (by kernel_rfl) (fun _ _ _ h => h) (Or.inr ⟨by rfl, rfl⟩) (by assumption) ?_
      simp only [Act.put, List.setIfInBounds_toArray, List.set_cons_zero, List.set_cons_succ]
      refine wpAnyH_take (i := 17) (oi := { dst := some 54, op := Op.load 23 (Operand.tmp 4), type := 23, pos := "law.go:134", after := #[{ on := 15, ground := Ground.guard }], guard := some (15, false) }) (v := undef) rfl (by kernel_rfl) (by kernel_rfl) (by kernel_rfl) (fun _ _ _ h => h) (Or.inr ⟨by rfl, rfl⟩) (by assumption) ?_
      simp only [Act.put, List.setIfInBounds_toArray, List.set_cons_zero, List.set_cons_succ]
      refine wpAnyH_take (i := 18) (oi := { dst := some 55, op := Op.binOp BinOp.eql 23 (Operand.tmp 53) (Operand.tmp 54) 23, type := 4, pos := "law.go:134", after := #[{ on := 16, ground := Ground.data }, { on := 17, ground := Ground.data }, { on := 15, ground := Ground.guard }], guard := some (15, false) }) (v := undef) rfl (by kernel_rfl) (by kernel_rfl) (by kernel_rfl) (fun _ _ _ h => h) (Or.inr ⟨by rfl, rfl⟩) (by assumption) ?_
      simp only [Act.put, List.setIfInBounds_toArray, List.set_cons_zero, List.set_cons_succ]
      refine wpAnyH_take (i := 19) (oi := { dst := some 56, op := Op.pick (Operand.tmp 52) (Operand.const (Value.bool true)) (Operand.tmp 55), type := 4, pos := "law.go:134", after := #[{ on := 15, ground := Ground.data }, { on := 18, ground := Ground.data }], guard := none }) (v := ?vp019) rfl (by kernel_rfl) (by kernel_rfl) (by kernel_rfl) (fun _ _ _ h => h) (Or.inl ⟨by rfl, ?yp019⟩) (by assumption) ?tp019
      case yp019 => (intro wz hSw; clear hSw; go_simp; try with_reducible rfl)
      simp only [Act.put, List.setIfInBounds_toArray, List.set_cons_zero, List.set_cons_succ]
      refine wpAnyH_done (by kernel_rfl) ?_ _
      have HFin := Lib.hid hHeld
      go_wp2_with fail
      go_ret
      exact ⟨rfl, HFin.out.2.2⟩
    | true =>
    cases hvb : validB B with
    | false =>
      have p1 : prevB A B = false := by
        cases h : prevB A B with
        | false => rfl
        | true => obtain ⟨x1, x2, x3, -⟩ := prev_iff.1 h; exact absurd x2 (by rw [hvb]; simp)
      have p2 : prevB B A = false := by
        cases h : prevB B A with
        | false => rfl
        | true => obtain ⟨x1, x2, x3, -⟩ := prev_iff.1 h; exact absurd x1 (by rw [hvb]; simp)
      rw [p1, p2]
      clear p1 p2
      rw [hva] at HVa
      rw [hvb] at HVb
      clear hva hvb
      refine wp_region_held_drew (S := (fun v => v.heap[W.heap.size]? = some (factObj A) ∧ v.heap[W.heap.size + 1]? = some (factObj B) ∧ Below W.heap.size W v)) (by kernel_rfl) (⟨HFb.out, HGb.out, HBb.out.drew⟩) (fun hHeld => ?_)
      have HBd := Lib.hid hHeld.2.2
      generalize wb.drew = wd at *
      refine wpAnyH_take (i := 0) (oi := { dst := some 37, op := Op.load 23 (Operand.tmp 3), type := 23, pos := "law.go:134", after := #[], guard := none }) (v := factV A) rfl (by kernel_rfl) (by kernel_rfl) (by kernel_rfl) (fun _ _ _ h => h) (Or.inl ⟨by rfl, fun wz hSw => sem_load_fact _ rfl (W.heap.size) rfl A (hSw.1)⟩) (by assumption) ?tp10
      simp only [Act.put, List.setIfInBounds_toArray, List.set_cons_zero, List.set_cons_succ]
      refine wpAnyH_ready (rs := [1]) (by kernel_rfl) (by simp) ?_
      refine AllReadyH.cons (o := { dst := some 38, op := Op.call { callee := Callee.value (Operand.func 16), args := #[Operand.tmp 37], argTypes := #[23] }, type := 4, pos := "law.go:134", after := #[{ on := 0, ground := Ground.data }], guard := none }) rfl (fun K hK => ?_) AllReadyH.nil
      have HH := Lib.hid hHeld
      go_simp
      refine (HVa.out wd (HTW.out.below HBd.out)).mono ?_; rintro e wz ⟨rfl, gz⟩
      have hz : wz.heap[W.heap.size]? = some (factObj A) ∧ wz.heap[W.heap.size + 1]? = some (factObj B) ∧ Below W.heap.size W wz := ⟨box_below HH.out.1 gz, box_below HH.out.2.1 gz, below_step HH.out.2.2 gz⟩
      clear gz HH
      refine hK.out _ _ (hz) (fun hHeld' => ?_)
      clear hK K hHeld
      have hHeld := hHeld'; clear hHeld'
      try simp only [Act.put, List.setIfInBounds_toArray, List.set_cons_zero, List.set_cons_succ]
      refine wpAnyH_take (i := 2) (oi := { dst := some 39, op := Op.unOp UnOp.not 4 (Operand.tmp 38), type := 4, pos := "law.go:134", after := #[{ on := 1, ground := Ground.data }], guard := none }) (v := ?vp12) rfl (by kernel_rfl) (by kernel_rfl) (by kernel_rfl) (fun _ _ _ h => h) (Or.inl ⟨by rfl, ?yp12⟩) (by assumption) ?tp12
      case yp12 => (intro wz hSw; clear hSw; go_simp; try with_reducible rfl)
      simp only [Act.put, List.setIfInBounds_toArray, List.set_cons_zero, List.set_cons_succ]
      refine wpAnyH_take (i := 3) (oi := { dst := some 40, op := Op.move (Operand.tmp 39), type := 4, pos := "law.go:134", after := #[{ on := 2, ground := Ground.data }, { on := 1, ground := Ground.chain }], guard := none }) (v := ?vp13) rfl (by kernel_rfl) (by kernel_rfl) (by kernel_rfl) (fun _ _ _ h => h) (Or.inl ⟨by rfl, ?yp13⟩) (by assumption) ?tp13
      case yp13 => (intro wz hSw; clear hSw; go_simp; try with_reducible rfl)
      simp only [Act.put, List.setIfInBounds_toArray, List.set_cons_zero, List.set_cons_succ]
      refine wpAnyH_take (i := 4) (oi := { dst := some 41, op := Op.load 23 (Operand.tmp 4), type := 23, pos := "law.go:134", after := #[{ on := 3, ground := Ground.guard }], guard := some (3, false) }) (v := factV B) rfl (by kernel_rfl) (by kernel_rfl) (by kernel_rfl) (fun _ _ _ h => h) (Or.inl ⟨by rfl, fun wz hSw => sem_load_fact _ rfl (W.heap.size + 1) rfl B (hSw.2.1)⟩) (by assumption) ?tp14
      simp only [Act.put, List.setIfInBounds_toArray, List.set_cons_zero, List.set_cons_succ]
      refine wpAnyH_ready (rs := [5]) (by kernel_rfl) (by simp) ?_
      refine AllReadyH.cons (o := { dst := some 42, op := Op.call { callee := Callee.value (Operand.func 16), args := #[Operand.tmp 41], argTypes := #[23] }, type := 4, pos := "law.go:134", after := #[{ on := 4, ground := Ground.data }, { on := 3, ground := Ground.chain }, { on := 3, ground := Ground.guard }], guard := some (3, false) }) rfl (fun K hK => ?_) AllReadyH.nil
      have HH := Lib.hid hHeld
      go_simp
      refine (HVb.out _ (HTW.out.below HH.out.2.2)).mono ?_; rintro e wz ⟨rfl, gz⟩
      have hz : wz.heap[W.heap.size]? = some (factObj A) ∧ wz.heap[W.heap.size + 1]? = some (factObj B) ∧ Below W.heap.size W wz := ⟨box_below HH.out.1 gz, box_below HH.out.2.1 gz, below_step HH.out.2.2 gz⟩
      clear gz HH
      refine hK.out _ _ (hz) (fun hHeld' => ?_)
      clear hK K hHeld
      have hHeld := hHeld'; clear hHeld'
      try simp only [Act.put, List.setIfInBounds_toArray, List.set_cons_zero, List.set_cons_succ]
      refine wpAnyH_take (i := 6) (oi := { dst := some 43, op := Op.unOp UnOp.not 4 (Operand.tmp 42), type := 4, pos := "law.go:134", after := #[{ on := 5, ground := Ground.data }, { on := 3, ground := Ground.guard }], guard := some (3, false) }) (v := ?vp16) rfl (by kernel_rfl) (by kernel_rfl) (by kernel_rfl) (fun _ _ _ h => h) (Or.inl ⟨by rfl, ?yp16⟩) (by assumption) ?tp16
      case yp16 => (intro wz hSw; clear hSw; go_simp; try with_reducible rfl)
      simp only [Act.put, List.setIfInBounds_toArray, List.set_cons_zero, List.set_cons_succ]
      refine wpAnyH_take (i := 7) (oi := { dst := some 44, op := Op.pick (Operand.tmp 40) (Operand.const (Value.bool true)) (Operand.tmp 43), type := 4, pos := "law.go:134", after := #[{ on := 3, ground := Ground.data }, { on := 6, ground := Ground.data }], guard := none }) (v := ?vp17) rfl (by kernel_rfl) (by kernel_rfl) (by kernel_rfl) (fun _ _ _ h => h) (Or.inl ⟨by rfl, ?yp17⟩) (by assumption) ?tp17
      case yp17 => (intro wz hSw; clear hSw; go_simp; try with_reducible rfl)
      simp only [Act.put, List.setIfInBounds_toArray, List.set_cons_zero, List.set_cons_succ]
      refine wpAnyH_take (i := 8) (oi := { dst := some 45, op := Op.move (Operand.tmp 44), type := 4, pos := "law.go:134", after := #[{ on := 7, ground := Ground.data }, { on := 5, ground := Ground.chain }], guard := none }) (v := ?vp18) rfl (by kernel_rfl) (by kernel_rfl) (by kernel_rfl) (fun _ _ _ h => h) (Or.inl ⟨by rfl, ?yp18⟩) (by assumption) ?tp18
      case yp18 => (intro wz hSw; clear hSw; go_simp; try with_reducible rfl)
      simp only [Act.put, List.setIfInBounds_toArray, List.set_cons_zero, List.set_cons_succ]
      refine wpAnyH_take (i := 9) (oi := { dst := some 46, op := Op.load 23 (Operand.tmp 3), type := 23, pos := "law.go:134", after := #[{ on := 8, ground := Ground.guard }], guard := some (8, false) }) (v := undef) rfl (by kernel_rfl) (by kernel_rfl) (by kernel_rfl) (fun _ _ _ h => h) (Or.inr ⟨by rfl, rfl⟩) (by assumption) ?_
      simp only [Act.put, List.setIfInBounds_toArray, List.set_cons_zero, List.set_cons_succ]
      refine wpAnyH_take (i := 10) (oi := { dst := some 47, op := Op.call { callee := Callee.value (Operand.func 18), args := #[Operand.tmp 46], argTypes := #[23] }, type := 9, pos := "law.go:134", after := #[{ on := 9, ground := Ground.data }, { on := 8, ground := Ground.chain }, { on := 8, ground := Ground.guard }], guard := some (8, false) }) (v := undef) rfl (by kernel_rfl) (by kernel_rfl) (by kernel_rfl) (fun _ _ _ h => h) (Or.inr ⟨by rfl, rfl⟩) (by assumption) ?_
      simp only [Act.put, List.setIfInBounds_toArray, List.set_cons_zero, List.set_cons_succ]
      refine wpAnyH_take (i := 11) (oi := { dst := some 48, op := Op.load 23 (Operand.tmp 4), type := 23, pos := "law.go:134", after := #[{ on := 8, ground := Ground.guard }], guard := some (8, false) }) (v := undef) rfl (by kernel_rfl) (by kernel_rfl) (by kernel_rfl) (fun _ _ _ h => h) (Or.inr ⟨by rfl, rfl⟩) (by assumption) ?_
      simp only [Act.put, List.setIfInBounds_toArray, List.set_cons_zero, List.set_cons_succ]
      refine wpAnyH_take (i := 12) (oi := { dst := some 49, op := Op.call { callee := Callee.value (Operand.func 18), args := #[Operand.tmp 48], argTypes := #[23] }, type := 9, pos := "law.go:134", after := #[{ on := 11, ground := Ground.data }, { on := 10, ground := Ground.chain }, { on := 8, ground := Ground.guard }], guard := some (8, false) }) (v := undef) rfl (by kernel_rfl) (by kernel_rfl) (by kernel_rfl) (fun _ _ _ h => h) (Or.inr ⟨by rfl, rfl⟩) (by assumption) ?_
      simp only [Act.put, List.setIfInBounds_toArray, List.set_cons_zero, List.set_cons_succ]
      refine wpAnyH_take (i := 13) (oi := { dst := some 50, op := Op.binOp BinOp.neq 9 (Operand.tmp 47) (Operand.tmp 49) 9, type := 4, pos := "law.go:134", after := #[{ on := 10, ground := Ground.data }, { on := 12, ground := Ground.data }, { on := 8, ground := Ground.guard }], guard := some (8, false) }) (v := undef) rfl (by kernel_rfl) (by kernel_rfl) (by kernel_rfl) (fun _ _ _ h => h) (Or.inr ⟨by rfl, rfl⟩) (by assumption) ?_
      simp only [Act.put, List.setIfInBounds_toArray, List.set_cons_zero, List.set_cons_succ]
      refine wpAnyH_take (i := 14) (oi := { dst := some 51, op := Op.pick (Operand.tmp 45) (Operand.const (Value.bool true)) (Operand.tmp 50), type := 4, pos := "law.go:134", after := #[{ on := 8, ground := Ground.data }, { on := 13, ground := Ground.data }], guard := none }) (v := ?vp114) rfl (by kernel_rfl) (by kernel_rfl) (by kernel_rfl) (fun _ _ _ h => h) (Or.inl ⟨by rfl, ?yp114⟩) (by assumption) ?tp114
      case yp114 => (intro wz hSw; clear hSw; go_simp; try with_reducible rfl)
      simp only [Act.put, List.setIfInBounds_toArray, List.set_cons_zero, List.set_cons_succ]
      refine wpAnyH_take (i := 15) (oi := { dst := some 52, op := Op.move (Operand.tmp 51), type := 4, pos := "law.go:134", after := #[{ on := 14, ground := Ground.data }, { on := 12, ground := Ground.chain }], guard := none }) (v := ?vp115) rfl (by kernel_rfl) (by kernel_rfl) (by kernel_rfl) (fun _ _ _ h => h) (Or.inl ⟨by rfl, ?yp115⟩) (by assumption) ?tp115
      case yp115 => (intro wz hSw; clear hSw; go_simp; try with_reducible rfl)
      simp only [Act.put, List.setIfInBounds_toArray, List.set_cons_zero, List.set_cons_succ]
      refine wpAnyH_take (i := 16) (oi := { dst := some 53, op := Op.load 23 (Operand.tmp 3), type := 23, pos := "law.go:134", after := #[{ on := 15, ground := Ground.guard }], guard := some (15, false) }) (v := undef) rfl (by kernel_rfl) (by kernel_rfl) (by kernel_rfl) (fun _ _ _ h => h) (Or.inr ⟨by rfl, rfl⟩) (by assumption) ?_
      simp only [Act.put, List.setIfInBounds_toArray, List.set_cons_zero, List.set_cons_succ]
      refine wpAnyH_take (i := 17) (oi := { dst := some 54, op := Op.load 23 (Operand.tmp 4), type := 23, pos := "law.go:134", after := #[{ on := 15, ground := Ground.guard }], guard := some (15, false) }) (v := undef) rfl (by kernel_rfl) (by kernel_rfl) (by kernel_rfl) (fun _ _ _ h => h) (Or.inr ⟨by rfl, rfl⟩) (by assumption) ?_
      simp only [Act.put, List.setIfInBounds_toArray, List.set_cons_zero, List.set_cons_succ]
      refine wpAnyH_take (i := 18) (oi := { dst := some 55, op := Op.binOp BinOp.eql 23 (Operand.tmp 53) (Operand.tmp 54) 23, type := 4, pos := "law.go:134", after := #[{ on := 16, ground := Ground.data }, { on := 17, ground := Ground.data }, { on := 15, ground := Ground.guard }], guard := some (15, false) }) (v := undef) rfl (by kernel_rfl) (by kernel_rfl) (by kernel_rfl) (fun _ _ _ h => h) (Or.inr ⟨by rfl, rfl⟩) (by assumption) ?_
      simp only [Act.put, List.setIfInBounds_toArray, List.set_cons_zero, List.set_cons_succ]
      refine wpAnyH_take (i := 19) (oi := { dst := some 56, op := Op.pick (Operand.tmp 52) (Operand.const (Value.bool true)) (Operand.tmp 55), type := 4, pos := "law.go:134", after := #[{ on := 15, ground := Ground.data }, { on := 18, ground := Ground.data }], guard := none }) (v := ?vp119) rfl (by kernel_rfl) (by kernel_rfl) (by kernel_rfl) (fun _ _ _ h => h) (Or.inl ⟨by rfl, ?yp119⟩) (by assumption) ?tp119
      case yp119 => (intro wz hSw; clear hSw; go_simp; try with_reducible rfl)
      simp only [Act.put, List.setIfInBounds_toArray, List.set_cons_zero, List.set_cons_succ]
      refine wpAnyH_done (by kernel_rfl) ?_ _
      have HFin := Lib.hid hHeld
      go_wp2_with fail
      go_ret
      exact ⟨rfl, HFin.out.2.2⟩
    | true =>
    by_cases hk : keyB A = keyB B
    case neg =>
      have p1 : prevB A B = false := by
        cases h : prevB A B with
        | false => rfl
        | true => obtain ⟨x1, x2, x3, -⟩ := prev_iff.1 h; exact absurd x3 hk
      have p2 : prevB B A = false := by
        cases h : prevB B A with
        | false => rfl
        | true => obtain ⟨x1, x2, x3, -⟩ := prev_iff.1 h; exact absurd x3 (fun e => hk e.symm)
      rw [p1, p2]
      clear p1 p2
      have k1 : ((bs (keyB A)).toList == (bs (keyB B)).toList) = false := by rw [bs_list, bs_list]; exact beq_eq_false_iff_ne.2 hk
      have k2 : ¬ (bs (keyB A)).toList = (bs (keyB B)).toList := by rw [bs_list, bs_list]; exact hk
      rw [hva] at HVa
      rw [hvb] at HVb
      clear hva hvb hk
      generalize bs (keyB A) = KA at *
      generalize bs (keyB B) = KB at *
      refine wp_region_held_drew (S := (fun v => v.heap[W.heap.size]? = some (factObj A) ∧ v.heap[W.heap.size + 1]? = some (factObj B) ∧ Below W.heap.size W v)) (by kernel_rfl) (⟨HFb.out, HGb.out, HBb.out.drew⟩) (fun hHeld => ?_)
      have HBd := Lib.hid hHeld.2.2
      generalize wb.drew = wd at *
      refine wpAnyH_take (i := 0) (oi := { dst := some 37, op := Op.load 23 (Operand.tmp 3), type := 23, pos := "law.go:134", after := #[], guard := none }) (v := factV A) rfl (by kernel_rfl) (by kernel_rfl) (by kernel_rfl) (fun _ _ _ h => h) (Or.inl ⟨by rfl, fun wz hSw => sem_load_fact _ rfl (W.heap.size) rfl A (hSw.1)⟩) (by assumption) ?tp20
      simp only [Act.put, List.setIfInBounds_toArray, List.set_cons_zero, List.set_cons_succ]
      refine wpAnyH_ready (rs := [1]) (by kernel_rfl) (by simp) ?_
      refine AllReadyH.cons (o := { dst := some 38, op := Op.call { callee := Callee.value (Operand.func 16), args := #[Operand.tmp 37], argTypes := #[23] }, type := 4, pos := "law.go:134", after := #[{ on := 0, ground := Ground.data }], guard := none }) rfl (fun K hK => ?_) AllReadyH.nil
      have HH := Lib.hid hHeld
      go_simp
      refine (HVa.out wd (HTW.out.below HBd.out)).mono ?_; rintro e wz ⟨rfl, gz⟩
      have hz : wz.heap[W.heap.size]? = some (factObj A) ∧ wz.heap[W.heap.size + 1]? = some (factObj B) ∧ Below W.heap.size W wz := ⟨box_below HH.out.1 gz, box_below HH.out.2.1 gz, below_step HH.out.2.2 gz⟩
      clear gz HH
      refine hK.out _ _ (hz) (fun hHeld' => ?_)
      clear hK K hHeld
      have hHeld := hHeld'; clear hHeld'
      try simp only [Act.put, List.setIfInBounds_toArray, List.set_cons_zero, List.set_cons_succ]
      refine wpAnyH_take (i := 2) (oi := { dst := some 39, op := Op.unOp UnOp.not 4 (Operand.tmp 38), type := 4, pos := "law.go:134", after := #[{ on := 1, ground := Ground.data }], guard := none }) (v := ?vp22) rfl (by kernel_rfl) (by kernel_rfl) (by kernel_rfl) (fun _ _ _ h => h) (Or.inl ⟨by rfl, ?yp22⟩) (by assumption) ?tp22
      case yp22 => (intro wz hSw; clear hSw; go_simp; try with_reducible rfl)
      simp only [Act.put, List.setIfInBounds_toArray, List.set_cons_zero, List.set_cons_succ]
      refine wpAnyH_take (i := 3) (oi := { dst := some 40, op := Op.move (Operand.tmp 39), type := 4, pos := "law.go:134", after := #[{ on := 2, ground := Ground.data }, { on := 1, ground := Ground.chain }], guard := none }) (v := ?vp23) rfl (by kernel_rfl) (by kernel_rfl) (by kernel_rfl) (fun _ _ _ h => h) (Or.inl ⟨by rfl, ?yp23⟩) (by assumption) ?tp23
      case yp23 => (intro wz hSw; clear hSw; go_simp; try with_reducible rfl)
      simp only [Act.put, List.setIfInBounds_toArray, List.set_cons_zero, List.set_cons_succ]
      refine wpAnyH_take (i := 4) (oi := { dst := some 41, op := Op.load 23 (Operand.tmp 4), type := 23, pos := "law.go:134", after := #[{ on := 3, ground := Ground.guard }], guard := some (3, false) }) (v := factV B) rfl (by kernel_rfl) (by kernel_rfl) (by kernel_rfl) (fun _ _ _ h => h) (Or.inl ⟨by rfl, fun wz hSw => sem_load_fact _ rfl (W.heap.size + 1) rfl B (hSw.2.1)⟩) (by assumption) ?tp24
      simp only [Act.put, List.setIfInBounds_toArray, List.set_cons_zero, List.set_cons_succ]
      refine wpAnyH_ready (rs := [5]) (by kernel_rfl) (by simp) ?_
      refine AllReadyH.cons (o := { dst := some 42, op := Op.call { callee := Callee.value (Operand.func 16), args := #[Operand.tmp 41], argTypes := #[23] }, type := 4, pos := "law.go:134", after := #[{ on := 4, ground := Ground.data }, { on := 3, ground := Ground.chain }, { on := 3, ground := Ground.guard }], guard := some (3, false) }) rfl (fun K hK => ?_) AllReadyH.nil
      have HH := Lib.hid hHeld
      go_simp
      refine (HVb.out _ (HTW.out.below HH.out.2.2)).mono ?_; rintro e wz ⟨rfl, gz⟩
      have hz : wz.heap[W.heap.size]? = some (factObj A) ∧ wz.heap[W.heap.size + 1]? = some (factObj B) ∧ Below W.heap.size W wz := ⟨box_below HH.out.1 gz, box_below HH.out.2.1 gz, below_step HH.out.2.2 gz⟩
      clear gz HH
      refine hK.out _ _ (hz) (fun hHeld' => ?_)
      clear hK K hHeld
      have hHeld := hHeld'; clear hHeld'
      try simp only [Act.put, List.setIfInBounds_toArray, List.set_cons_zero, List.set_cons_succ]
      refine wpAnyH_take (i := 6) (oi := { dst := some 43, op := Op.unOp UnOp.not 4 (Operand.tmp 42), type := 4, pos := "law.go:134", after := #[{ on := 5, ground := Ground.data }, { on := 3, ground := Ground.guard }], guard := some (3, false) }) (v := ?vp26) rfl (by kernel_rfl) (by kernel_rfl) (by kernel_rfl) (fun _ _ _ h => h) (Or.inl ⟨by rfl, ?yp26⟩) (by assumption) ?tp26
      case yp26 => (intro wz hSw; clear hSw; go_simp; try with_reducible rfl)
      simp only [Act.put, List.setIfInBounds_toArray, List.set_cons_zero, List.set_cons_succ]
      refine wpAnyH_take (i := 7) (oi := { dst := some 44, op := Op.pick (Operand.tmp 40) (Operand.const (Value.bool true)) (Operand.tmp 43), type := 4, pos := "law.go:134", after := #[{ on := 3, ground := Ground.data }, { on := 6, ground := Ground.data }], guard := none }) (v := ?vp27) rfl (by kernel_rfl) (by kernel_rfl) (by kernel_rfl) (fun _ _ _ h => h) (Or.inl ⟨by rfl, ?yp27⟩) (by assumption) ?tp27
      case yp27 => (intro wz hSw; clear hSw; go_simp; try with_reducible rfl)
      simp only [Act.put, List.setIfInBounds_toArray, List.set_cons_zero, List.set_cons_succ]
      refine wpAnyH_take (i := 8) (oi := { dst := some 45, op := Op.move (Operand.tmp 44), type := 4, pos := "law.go:134", after := #[{ on := 7, ground := Ground.data }, { on := 5, ground := Ground.chain }], guard := none }) (v := ?vp28) rfl (by kernel_rfl) (by kernel_rfl) (by kernel_rfl) (fun _ _ _ h => h) (Or.inl ⟨by rfl, ?yp28⟩) (by assumption) ?tp28
      case yp28 => (intro wz hSw; clear hSw; go_simp; try with_reducible rfl)
      simp only [Act.put, List.setIfInBounds_toArray, List.set_cons_zero, List.set_cons_succ]
      refine wpAnyH_take (i := 9) (oi := { dst := some 46, op := Op.load 23 (Operand.tmp 3), type := 23, pos := "law.go:134", after := #[{ on := 8, ground := Ground.guard }], guard := some (8, false) }) (v := factV A) rfl (by kernel_rfl) (by kernel_rfl) (by kernel_rfl) (fun _ _ _ h => h) (Or.inl ⟨by rfl, fun wz hSw => sem_load_fact _ rfl (W.heap.size) rfl A (hSw.1)⟩) (by assumption) ?tp29
      simp only [Act.put, List.setIfInBounds_toArray, List.set_cons_zero, List.set_cons_succ]
      refine wpAnyH_take (i := 11) (oi := { dst := some 48, op := Op.load 23 (Operand.tmp 4), type := 23, pos := "law.go:134", after := #[{ on := 8, ground := Ground.guard }], guard := some (8, false) }) (v := factV B) rfl (by kernel_rfl) (by kernel_rfl) (by kernel_rfl) (fun _ _ _ h => h) (Or.inl ⟨by rfl, fun wz hSw => sem_load_fact _ rfl (W.heap.size + 1) rfl B (hSw.2.1)⟩) (by assumption) ?tp211
      simp only [Act.put, List.setIfInBounds_toArray, List.set_cons_zero, List.set_cons_succ]
      refine wpAnyH_ready (rs := [10]) (by kernel_rfl) (by simp) ?_
      refine AllReadyH.cons (o := { dst := some 47, op := Op.call { callee := Callee.value (Operand.func 18), args := #[Operand.tmp 46], argTypes := #[23] }, type := 9, pos := "law.go:134", after := #[{ on := 9, ground := Ground.data }, { on := 8, ground := Ground.chain }, { on := 8, ground := Ground.guard }], guard := some (8, false) }) rfl (fun K hK => ?_) AllReadyH.nil
      have HH := Lib.hid hHeld
      go_simp
      refine (HKa.out _ (HTW.out.below HH.out.2.2)).mono ?_; rintro e wz ⟨rfl, gz⟩
      have hz : wz.heap[W.heap.size]? = some (factObj A) ∧ wz.heap[W.heap.size + 1]? = some (factObj B) ∧ Below W.heap.size W wz := ⟨box_below HH.out.1 gz, box_below HH.out.2.1 gz, below_step HH.out.2.2 gz⟩
      clear gz HH
      refine hK.out _ _ (hz) (fun hHeld' => ?_)
      clear hK K hHeld
      have hHeld := hHeld'; clear hHeld'
      try simp only [Act.put, List.setIfInBounds_toArray, List.set_cons_zero, List.set_cons_succ]
      refine wpAnyH_ready (rs := [12]) (by kernel_rfl) (by simp) ?_
      refine AllReadyH.cons (o := { dst := some 49, op := Op.call { callee := Callee.value (Operand.func 18), args := #[Operand.tmp 48], argTypes := #[23] }, type := 9, pos := "law.go:134", after := #[{ on := 11, ground := Ground.data }, { on := 10, ground := Ground.chain }, { on := 8, ground := Ground.guard }], guard := some (8, false) }) rfl (fun K hK => ?_) AllReadyH.nil
      have HH := Lib.hid hHeld
      go_simp
      refine (HKb.out _ (HTW.out.below HH.out.2.2)).mono ?_; rintro e wz ⟨rfl, gz⟩
      have hz : wz.heap[W.heap.size]? = some (factObj A) ∧ wz.heap[W.heap.size + 1]? = some (factObj B) ∧ Below W.heap.size W wz := ⟨box_below HH.out.1 gz, box_below HH.out.2.1 gz, below_step HH.out.2.2 gz⟩
      clear gz HH
      refine hK.out _ _ (hz) (fun hHeld' => ?_)
      clear hK K hHeld
      have hHeld := hHeld'; clear hHeld'
      try simp only [Act.put, List.setIfInBounds_toArray, List.set_cons_zero, List.set_cons_succ]
      refine wpAnyH_take (i := 13) (oi := { dst := some 50, op := Op.binOp BinOp.neq 9 (Operand.tmp 47) (Operand.tmp 49) 9, type := 4, pos := "law.go:134", after := #[{ on := 10, ground := Ground.data }, { on := 12, ground := Ground.data }, { on := 8, ground := Ground.guard }], guard := some (8, false) }) (v := ?vp213) rfl (by kernel_rfl) (by kernel_rfl) (by kernel_rfl) (fun _ _ _ h => h) (Or.inl ⟨by rfl, ?yp213⟩) (by assumption) ?tp213
      case yp213 => (intro wz hSw; clear hSw; go_simp; try with_reducible rfl)
      simp only [Act.put, List.setIfInBounds_toArray, List.set_cons_zero, List.set_cons_succ]
      refine wpAnyH_take (i := 14) (oi := { dst := some 51, op := Op.pick (Operand.tmp 45) (Operand.const (Value.bool true)) (Operand.tmp 50), type := 4, pos := "law.go:134", after := #[{ on := 8, ground := Ground.data }, { on := 13, ground := Ground.data }], guard := none }) (v := ?vp214) rfl (by kernel_rfl) (by kernel_rfl) (by kernel_rfl) (fun _ _ _ h => h) (Or.inl ⟨by rfl, ?yp214⟩) (by assumption) ?tp214
      case yp214 => (intro wz hSw; clear hSw; go_simp; try with_reducible rfl)
      simp only [Act.put, List.setIfInBounds_toArray, List.set_cons_zero, List.set_cons_succ]
      refine wpAnyH_take (i := 15) (oi := { dst := some 52, op := Op.move (Operand.tmp 51), type := 4, pos := "law.go:134", after := #[{ on := 14, ground := Ground.data }, { on := 12, ground := Ground.chain }], guard := none }) (v := ?vp215) rfl (by kernel_rfl) (by kernel_rfl) (by kernel_rfl) (fun _ _ _ h => h) (Or.inl ⟨by rfl, ?yp215⟩) (by assumption) ?tp215
      case yp215 => (intro wz hSw; clear hSw; go_simp; try with_reducible rfl)
      simp only [Act.put, List.setIfInBounds_toArray, List.set_cons_zero, List.set_cons_succ]
      refine wpAnyH_take (i := 16) (oi := { dst := some 53, op := Op.load 23 (Operand.tmp 3), type := 23, pos := "law.go:134", after := #[{ on := 15, ground := Ground.guard }], guard := some (15, false) }) (v := undef) rfl (by kernel_rfl) (by kernel_rfl) (by kernel_rfl) (fun _ _ _ h => h) (Or.inr ⟨by rfl, rfl⟩) (by assumption) ?_
      simp only [Act.put, List.setIfInBounds_toArray, List.set_cons_zero, List.set_cons_succ]
      refine wpAnyH_take (i := 17) (oi := { dst := some 54, op := Op.load 23 (Operand.tmp 4), type := 23, pos := "law.go:134", after := #[{ on := 15, ground := Ground.guard }], guard := some (15, false) }) (v := undef) rfl (by kernel_rfl) (by kernel_rfl) (by kernel_rfl) (fun _ _ _ h => h) (Or.inr ⟨by rfl, rfl⟩) (by assumption) ?_
      simp only [Act.put, List.setIfInBounds_toArray, List.set_cons_zero, List.set_cons_succ]
      refine wpAnyH_take (i := 18) (oi := { dst := some 55, op := Op.binOp BinOp.eql 23 (Operand.tmp 53) (Operand.tmp 54) 23, type := 4, pos := "law.go:134", after := #[{ on := 16, ground := Ground.data }, { on := 17, ground := Ground.data }, { on := 15, ground := Ground.guard }], guard := some (15, false) }) (v := undef) rfl (by kernel_rfl) (by kernel_rfl) (by kernel_rfl) (fun _ _ _ h => h) (Or.inr ⟨by rfl, rfl⟩) (by assumption) ?_
      simp only [Act.put, List.setIfInBounds_toArray, List.set_cons_zero, List.set_cons_succ]
      refine wpAnyH_take (i := 19) (oi := { dst := some 56, op := Op.pick (Operand.tmp 52) (Operand.const (Value.bool true)) (Operand.tmp 55), type := 4, pos := "law.go:134", after := #[{ on := 15, ground := Ground.data }, { on := 18, ground := Ground.data }], guard := none }) (v := ?vp219) rfl (by kernel_rfl) (by kernel_rfl) (by kernel_rfl) (fun _ _ _ h => h) (Or.inl ⟨by rfl, ?yp219⟩) (by assumption) ?tp219
      case yp219 => (intro wz hSw; clear hSw; go_simp; try with_reducible rfl)
      simp only [Act.put, List.setIfInBounds_toArray, List.set_cons_zero, List.set_cons_succ]
      refine wpAnyH_done (by kernel_rfl) ?_ _
      have HFin := Lib.hid hHeld
      go_wp2_with fail
      go_ret
      exact ⟨rfl, HFin.out.2.2⟩
    by_cases he : A = B
    case pos =>
      subst he
      rw [prev_irrefl]
      have hEq := fun V => run_factEq A A V
      rw [decide_eq_true (rfl : A = A)] at hEq
      have hGu := run_factGuard
      rw [hva] at HVa
      rw [hvb] at HVb
      clear hva hvb hk
      generalize bs (keyB A) = KA at *
      refine wp_region_held_drew (S := (fun v => v.heap[W.heap.size]? = some (factObj A) ∧ v.heap[W.heap.size + 1]? = some (factObj A) ∧ Below W.heap.size W v)) (by kernel_rfl) (⟨HFb.out, HGb.out, HBb.out.drew⟩) (fun hHeld => ?_)
      have HBd := Lib.hid hHeld.2.2
      generalize wb.drew = wd at *
      refine wpAnyH_take (i := 0) (oi := { dst := some 37, op := Op.load 23 (Operand.tmp 3), type := 23, pos := "law.go:134", after := #[], guard := none }) (v := factV A) rfl (by kernel_rfl) (by kernel_rfl) (by kernel_rfl) (fun _ _ _ h => h) (Or.inl ⟨by rfl, fun wz hSw => sem_load_fact _ rfl (W.heap.size) rfl A (hSw.1)⟩) (by assumption) ?tp30
      simp only [Act.put, List.setIfInBounds_toArray, List.set_cons_zero, List.set_cons_succ]
      refine wpAnyH_ready (rs := [1]) (by kernel_rfl) (by simp) ?_
      refine AllReadyH.cons (o := { dst := some 38, op := Op.call { callee := Callee.value (Operand.func 16), args := #[Operand.tmp 37], argTypes := #[23] }, type := 4, pos := "law.go:134", after := #[{ on := 0, ground := Ground.data }], guard := none }) rfl (fun K hK => ?_) AllReadyH.nil
      have HH := Lib.hid hHeld
      go_simp
      refine (HVa.out wd (HTW.out.below HBd.out)).mono ?_; rintro e wz ⟨rfl, gz⟩
      have hz : wz.heap[W.heap.size]? = some (factObj A) ∧ wz.heap[W.heap.size + 1]? = some (factObj A) ∧ Below W.heap.size W wz := ⟨box_below HH.out.1 gz, box_below HH.out.2.1 gz, below_step HH.out.2.2 gz⟩
      clear gz HH
      refine hK.out _ _ (hz) (fun hHeld' => ?_)
      clear hK K hHeld
      have hHeld := hHeld'; clear hHeld'
      try simp only [Act.put, List.setIfInBounds_toArray, List.set_cons_zero, List.set_cons_succ]
      refine wpAnyH_take (i := 2) (oi := { dst := some 39, op := Op.unOp UnOp.not 4 (Operand.tmp 38), type := 4, pos := "law.go:134", after := #[{ on := 1, ground := Ground.data }], guard := none }) (v := ?vp32) rfl (by kernel_rfl) (by kernel_rfl) (by kernel_rfl) (fun _ _ _ h => h) (Or.inl ⟨by rfl, ?yp32⟩) (by assumption) ?tp32
      case yp32 => (intro wz hSw; clear hSw; go_simp; try with_reducible rfl)
      simp only [Act.put, List.setIfInBounds_toArray, List.set_cons_zero, List.set_cons_succ]
      refine wpAnyH_take (i := 3) (oi := { dst := some 40, op := Op.move (Operand.tmp 39), type := 4, pos := "law.go:134", after := #[{ on := 2, ground := Ground.data }, { on := 1, ground := Ground.chain }], guard := none }) (v := ?vp33) rfl (by kernel_rfl) (by kernel_rfl) (by kernel_rfl) (fun _ _ _ h => h) (Or.inl ⟨by rfl, ?yp33⟩) (by assumption) ?tp33
      case yp33 => (intro wz hSw; clear hSw; go_simp; try with_reducible rfl)
      simp only [Act.put, List.setIfInBounds_toArray, List.set_cons_zero, List.set_cons_succ]
      refine wpAnyH_take (i := 4) (oi := { dst := some 41, op := Op.load 23 (Operand.tmp 4), type := 23, pos := "law.go:134", after := #[{ on := 3, ground := Ground.guard }], guard := some (3, false) }) (v := factV A) rfl (by kernel_rfl) (by kernel_rfl) (by kernel_rfl) (fun _ _ _ h => h) (Or.inl ⟨by rfl, fun wz hSw => sem_load_fact _ rfl (W.heap.size + 1) rfl A (hSw.2.1)⟩) (by assumption) ?tp34
      simp only [Act.put, List.setIfInBounds_toArray, List.set_cons_zero, List.set_cons_succ]
      refine wpAnyH_ready (rs := [5]) (by kernel_rfl) (by simp) ?_
      refine AllReadyH.cons (o := { dst := some 42, op := Op.call { callee := Callee.value (Operand.func 16), args := #[Operand.tmp 41], argTypes := #[23] }, type := 4, pos := "law.go:134", after := #[{ on := 4, ground := Ground.data }, { on := 3, ground := Ground.chain }, { on := 3, ground := Ground.guard }], guard := some (3, false) }) rfl (fun K hK => ?_) AllReadyH.nil
      have HH := Lib.hid hHeld
      go_simp
      refine (HVb.out _ (HTW.out.below HH.out.2.2)).mono ?_; rintro e wz ⟨rfl, gz⟩
      have hz : wz.heap[W.heap.size]? = some (factObj A) ∧ wz.heap[W.heap.size + 1]? = some (factObj A) ∧ Below W.heap.size W wz := ⟨box_below HH.out.1 gz, box_below HH.out.2.1 gz, below_step HH.out.2.2 gz⟩
      clear gz HH
      refine hK.out _ _ (hz) (fun hHeld' => ?_)
      clear hK K hHeld
      have hHeld := hHeld'; clear hHeld'
      try simp only [Act.put, List.setIfInBounds_toArray, List.set_cons_zero, List.set_cons_succ]
      refine wpAnyH_take (i := 6) (oi := { dst := some 43, op := Op.unOp UnOp.not 4 (Operand.tmp 42), type := 4, pos := "law.go:134", after := #[{ on := 5, ground := Ground.data }, { on := 3, ground := Ground.guard }], guard := some (3, false) }) (v := ?vp36) rfl (by kernel_rfl) (by kernel_rfl) (by kernel_rfl) (fun _ _ _ h => h) (Or.inl ⟨by rfl, ?yp36⟩) (by assumption) ?tp36
      case yp36 => (intro wz hSw; clear hSw; go_simp; try with_reducible rfl)
      simp only [Act.put, List.setIfInBounds_toArray, List.set_cons_zero, List.set_cons_succ]
      refine wpAnyH_take (i := 7) (oi := { dst := some 44, op := Op.pick (Operand.tmp 40) (Operand.const (Value.bool true)) (Operand.tmp 43), type := 4, pos := "law.go:134", after := #[{ on := 3, ground := Ground.data }, { on := 6, ground := Ground.data }], guard := none }) (v := ?vp37) rfl (by kernel_rfl) (by kernel_rfl) (by kernel_rfl) (fun _ _ _ h => h) (Or.inl ⟨by rfl, ?yp37⟩) (by assumption) ?tp37
      case yp37 => (intro wz hSw; clear hSw; go_simp; try with_reducible rfl)
      simp only [Act.put, List.setIfInBounds_toArray, List.set_cons_zero, List.set_cons_succ]
      refine wpAnyH_take (i := 8) (oi := { dst := some 45, op := Op.move (Operand.tmp 44), type := 4, pos := "law.go:134", after := #[{ on := 7, ground := Ground.data }, { on := 5, ground := Ground.chain }], guard := none }) (v := ?vp38) rfl (by kernel_rfl) (by kernel_rfl) (by kernel_rfl) (fun _ _ _ h => h) (Or.inl ⟨by rfl, ?yp38⟩) (by assumption) ?tp38
      case yp38 => (intro wz hSw; clear hSw; go_simp; try with_reducible rfl)
      simp only [Act.put, List.setIfInBounds_toArray, List.set_cons_zero, List.set_cons_succ]
      refine wpAnyH_take (i := 9) (oi := { dst := some 46, op := Op.load 23 (Operand.tmp 3), type := 23, pos := "law.go:134", after := #[{ on := 8, ground := Ground.guard }], guard := some (8, false) }) (v := factV A) rfl (by kernel_rfl) (by kernel_rfl) (by kernel_rfl) (fun _ _ _ h => h) (Or.inl ⟨by rfl, fun wz hSw => sem_load_fact _ rfl (W.heap.size) rfl A (hSw.1)⟩) (by assumption) ?tp39
      simp only [Act.put, List.setIfInBounds_toArray, List.set_cons_zero, List.set_cons_succ]
      refine wpAnyH_take (i := 11) (oi := { dst := some 48, op := Op.load 23 (Operand.tmp 4), type := 23, pos := "law.go:134", after := #[{ on := 8, ground := Ground.guard }], guard := some (8, false) }) (v := factV A) rfl (by kernel_rfl) (by kernel_rfl) (by kernel_rfl) (fun _ _ _ h => h) (Or.inl ⟨by rfl, fun wz hSw => sem_load_fact _ rfl (W.heap.size + 1) rfl A (hSw.2.1)⟩) (by assumption) ?tp311
      simp only [Act.put, List.setIfInBounds_toArray, List.set_cons_zero, List.set_cons_succ]
      refine wpAnyH_ready (rs := [10]) (by kernel_rfl) (by simp) ?_
      refine AllReadyH.cons (o := { dst := some 47, op := Op.call { callee := Callee.value (Operand.func 18), args := #[Operand.tmp 46], argTypes := #[23] }, type := 9, pos := "law.go:134", after := #[{ on := 9, ground := Ground.data }, { on := 8, ground := Ground.chain }, { on := 8, ground := Ground.guard }], guard := some (8, false) }) rfl (fun K hK => ?_) AllReadyH.nil
      have HH := Lib.hid hHeld
      go_simp
      refine (HKa.out _ (HTW.out.below HH.out.2.2)).mono ?_; rintro e wz ⟨rfl, gz⟩
      have hz : wz.heap[W.heap.size]? = some (factObj A) ∧ wz.heap[W.heap.size + 1]? = some (factObj A) ∧ Below W.heap.size W wz := ⟨box_below HH.out.1 gz, box_below HH.out.2.1 gz, below_step HH.out.2.2 gz⟩
      clear gz HH
      refine hK.out _ _ (hz) (fun hHeld' => ?_)
      clear hK K hHeld
      have hHeld := hHeld'; clear hHeld'
      try simp only [Act.put, List.setIfInBounds_toArray, List.set_cons_zero, List.set_cons_succ]
      refine wpAnyH_ready (rs := [12]) (by kernel_rfl) (by simp) ?_
      refine AllReadyH.cons (o := { dst := some 49, op := Op.call { callee := Callee.value (Operand.func 18), args := #[Operand.tmp 48], argTypes := #[23] }, type := 9, pos := "law.go:134", after := #[{ on := 11, ground := Ground.data }, { on := 10, ground := Ground.chain }, { on := 8, ground := Ground.guard }], guard := some (8, false) }) rfl (fun K hK => ?_) AllReadyH.nil
      have HH := Lib.hid hHeld
      go_simp
      refine (HKb.out _ (HTW.out.below HH.out.2.2)).mono ?_; rintro e wz ⟨rfl, gz⟩
      have hz : wz.heap[W.heap.size]? = some (factObj A) ∧ wz.heap[W.heap.size + 1]? = some (factObj A) ∧ Below W.heap.size W wz := ⟨box_below HH.out.1 gz, box_below HH.out.2.1 gz, below_step HH.out.2.2 gz⟩
      clear gz HH
      refine hK.out _ _ (hz) (fun hHeld' => ?_)
      clear hK K hHeld
      have hHeld := hHeld'; clear hHeld'
      try simp only [Act.put, List.setIfInBounds_toArray, List.set_cons_zero, List.set_cons_succ]
      refine wpAnyH_take (i := 13) (oi := { dst := some 50, op := Op.binOp BinOp.neq 9 (Operand.tmp 47) (Operand.tmp 49) 9, type := 4, pos := "law.go:134", after := #[{ on := 10, ground := Ground.data }, { on := 12, ground := Ground.data }, { on := 8, ground := Ground.guard }], guard := some (8, false) }) (v := ?vp313) rfl (by kernel_rfl) (by kernel_rfl) (by kernel_rfl) (fun _ _ _ h => h) (Or.inl ⟨by rfl, ?yp313⟩) (by assumption) ?tp313
      case yp313 => (intro wz hSw; clear hSw; go_simp; try with_reducible rfl)
      simp only [Act.put, List.setIfInBounds_toArray, List.set_cons_zero, List.set_cons_succ]
      refine wpAnyH_take (i := 14) (oi := { dst := some 51, op := Op.pick (Operand.tmp 45) (Operand.const (Value.bool true)) (Operand.tmp 50), type := 4, pos := "law.go:134", after := #[{ on := 8, ground := Ground.data }, { on := 13, ground := Ground.data }], guard := none }) (v := ?vp314) rfl (by kernel_rfl) (by kernel_rfl) (by kernel_rfl) (fun _ _ _ h => h) (Or.inl ⟨by rfl, ?yp314⟩) (by assumption) ?tp314
      case yp314 => (intro wz hSw; clear hSw; go_simp; try with_reducible rfl)
      simp only [Act.put, List.setIfInBounds_toArray, List.set_cons_zero, List.set_cons_succ]
      refine wpAnyH_take (i := 15) (oi := { dst := some 52, op := Op.move (Operand.tmp 51), type := 4, pos := "law.go:134", after := #[{ on := 14, ground := Ground.data }, { on := 12, ground := Ground.chain }], guard := none }) (v := ?vp315) rfl (by kernel_rfl) (by kernel_rfl) (by kernel_rfl) (fun _ _ _ h => h) (Or.inl ⟨by rfl, ?yp315⟩) (by assumption) ?tp315
      case yp315 => (intro wz hSw; clear hSw; go_simp; try with_reducible rfl)
      simp only [Act.put, List.setIfInBounds_toArray, List.set_cons_zero, List.set_cons_succ]
      refine wpAnyH_take (i := 16) (oi := { dst := some 53, op := Op.load 23 (Operand.tmp 3), type := 23, pos := "law.go:134", after := #[{ on := 15, ground := Ground.guard }], guard := some (15, false) }) (v := factV A) rfl (by kernel_rfl) (by kernel_rfl) (by kernel_rfl) (fun _ _ _ h => h) (Or.inl ⟨by rfl, fun wz hSw => sem_load_fact _ rfl (W.heap.size) rfl A (hSw.1)⟩) (by assumption) ?tp316
      simp only [Act.put, List.setIfInBounds_toArray, List.set_cons_zero, List.set_cons_succ]
      refine wpAnyH_take (i := 17) (oi := { dst := some 54, op := Op.load 23 (Operand.tmp 4), type := 23, pos := "law.go:134", after := #[{ on := 15, ground := Ground.guard }], guard := some (15, false) }) (v := factV A) rfl (by kernel_rfl) (by kernel_rfl) (by kernel_rfl) (fun _ _ _ h => h) (Or.inl ⟨by rfl, fun wz hSw => sem_load_fact _ rfl (W.heap.size + 1) rfl A (hSw.2.1)⟩) (by assumption) ?tp317
      simp only [Act.put, List.setIfInBounds_toArray, List.set_cons_zero, List.set_cons_succ]
      refine wpAnyH_take (i := 18) (oi := { dst := some 55, op := Op.binOp BinOp.eql 23 (Operand.tmp 53) (Operand.tmp 54) 23, type := 4, pos := "law.go:134", after := #[{ on := 16, ground := Ground.data }, { on := 17, ground := Ground.data }, { on := 15, ground := Ground.guard }], guard := some (15, false) }) (v := ?vp318) rfl (by kernel_rfl) (by kernel_rfl) (by kernel_rfl) (fun _ _ _ h => h) (Or.inl ⟨by rfl, ?yp318⟩) (by assumption) ?tp318
      case yp318 => (intro wz hSw; clear hSw; go_simp; try with_reducible rfl)
      simp only [Act.put, List.setIfInBounds_toArray, List.set_cons_zero, List.set_cons_succ]
      refine wpAnyH_take (i := 19) (oi := { dst := some 56, op := Op.pick (Operand.tmp 52) (Operand.const (Value.bool true)) (Operand.tmp 55), type := 4, pos := "law.go:134", after := #[{ on := 15, ground := Ground.data }, { on := 18, ground := Ground.data }], guard := none }) (v := ?vp319) rfl (by kernel_rfl) (by kernel_rfl) (by kernel_rfl) (fun _ _ _ h => h) (Or.inl ⟨by rfl, ?yp319⟩) (by assumption) ?tp319
      case yp319 => (intro wz hSw; clear hSw; go_simp; try with_reducible rfl)
      simp only [Act.put, List.setIfInBounds_toArray, List.set_cons_zero, List.set_cons_succ]
      refine wpAnyH_done (by kernel_rfl) ?_ _
      have HFin := Lib.hid hHeld
      go_wp2_with fail
      go_ret
      exact ⟨rfl, HFin.out.2.2⟩
    have hone := prev_one hva hvb hk he
    have hver : A.v ≠ B.v → prevB A B = decide (A.v > B.v) := by
      intro hne; unfold prevB; rw [if_neg (by intro h; rcases h with h | h; exact key_ne hva h; exact h hk), if_pos hne]
    have hEq := fun V => run_factEq A B V
    rw [decide_eq_false he] at hEq
    have hGu := run_factGuard
    rw [hva] at HVa
    rw [hvb] at HVb
    rw [← hk] at HKb
    have HOne := Lib.hid hone
    have HVer := Lib.hid hver
    clear hva hvb hk he hone hver
    generalize bs (keyB A) = KA at *
    generalize prevB A B = P1 at *
    generalize prevB B A = P2 at *
    refine wp_region_held_drew (S := (fun v => v.heap[W.heap.size]? = some (factObj A) ∧ v.heap[W.heap.size + 1]? = some (factObj B) ∧ Below W.heap.size W v)) (by kernel_rfl) (⟨HFb.out, HGb.out, HBb.out.drew⟩) (fun hHeld => ?_)
    have HBd := Lib.hid hHeld.2.2
    generalize wb.drew = wd at *
    refine wpAnyH_take (i := 0) (oi := { dst := some 37, op := Op.load 23 (Operand.tmp 3), type := 23, pos := "law.go:134", after := #[], guard := none }) (v := factV A) rfl (by kernel_rfl) (by kernel_rfl) (by kernel_rfl) (fun _ _ _ h => h) (Or.inl ⟨by rfl, fun wz hSw => sem_load_fact _ rfl (W.heap.size) rfl A (hSw.1)⟩) (by assumption) ?tp40
    simp only [Act.put, List.setIfInBounds_toArray, List.set_cons_zero, List.set_cons_succ]
    refine wpAnyH_ready (rs := [1]) (by kernel_rfl) (by simp) ?_
    refine AllReadyH.cons (o := { dst := some 38, op := Op.call { callee := Callee.value (Operand.func 16), args := #[Operand.tmp 37], argTypes := #[23] }, type := 4, pos := "law.go:134", after := #[{ on := 0, ground := Ground.data }], guard := none }) rfl (fun K hK => ?_) AllReadyH.nil
    have HH := Lib.hid hHeld
    go_simp
    refine (HVa.out wd (HTW.out.below HBd.out)).mono ?_; rintro e wz ⟨rfl, gz⟩
    have hz : wz.heap[W.heap.size]? = some (factObj A) ∧ wz.heap[W.heap.size + 1]? = some (factObj B) ∧ Below W.heap.size W wz := ⟨box_below HH.out.1 gz, box_below HH.out.2.1 gz, below_step HH.out.2.2 gz⟩
    clear gz HH
    refine hK.out _ _ (hz) (fun hHeld' => ?_)
    clear hK K hHeld
    have hHeld := hHeld'; clear hHeld'
    try simp only [Act.put, List.setIfInBounds_toArray, List.set_cons_zero, List.set_cons_succ]
    refine wpAnyH_take (i := 2) (oi := { dst := some 39, op := Op.unOp UnOp.not 4 (Operand.tmp 38), type := 4, pos := "law.go:134", after := #[{ on := 1, ground := Ground.data }], guard := none }) (v := ?vp42) rfl (by kernel_rfl) (by kernel_rfl) (by kernel_rfl) (fun _ _ _ h => h) (Or.inl ⟨by rfl, ?yp42⟩) (by assumption) ?tp42
    case yp42 => (intro wz hSw; clear hSw; go_simp; try with_reducible rfl)
    simp only [Act.put, List.setIfInBounds_toArray, List.set_cons_zero, List.set_cons_succ]
    refine wpAnyH_take (i := 3) (oi := { dst := some 40, op := Op.move (Operand.tmp 39), type := 4, pos := "law.go:134", after := #[{ on := 2, ground := Ground.data }, { on := 1, ground := Ground.chain }], guard := none }) (v := ?vp43) rfl (by kernel_rfl) (by kernel_rfl) (by kernel_rfl) (fun _ _ _ h => h) (Or.inl ⟨by rfl, ?yp43⟩) (by assumption) ?tp43
    case yp43 => (intro wz hSw; clear hSw; go_simp; try with_reducible rfl)
    simp only [Act.put, List.setIfInBounds_toArray, List.set_cons_zero, List.set_cons_succ]
    refine wpAnyH_take (i := 4) (oi := { dst := some 41, op := Op.load 23 (Operand.tmp 4), type := 23, pos := "law.go:134", after := #[{ on := 3, ground := Ground.guard }], guard := some (3, false) }) (v := factV B) rfl (by kernel_rfl) (by kernel_rfl) (by kernel_rfl) (fun _ _ _ h => h) (Or.inl ⟨by rfl, fun wz hSw => sem_load_fact _ rfl (W.heap.size + 1) rfl B (hSw.2.1)⟩) (by assumption) ?tp44
    simp only [Act.put, List.setIfInBounds_toArray, List.set_cons_zero, List.set_cons_succ]
    refine wpAnyH_ready (rs := [5]) (by kernel_rfl) (by simp) ?_
    refine AllReadyH.cons (o := { dst := some 42, op := Op.call { callee := Callee.value (Operand.func 16), args := #[Operand.tmp 41], argTypes := #[23] }, type := 4, pos := "law.go:134", after := #[{ on := 4, ground := Ground.data }, { on := 3, ground := Ground.chain }, { on := 3, ground := Ground.guard }], guard := some (3, false) }) rfl (fun K hK => ?_) AllReadyH.nil
    have HH := Lib.hid hHeld
    go_simp
    refine (HVb.out _ (HTW.out.below HH.out.2.2)).mono ?_; rintro e wz ⟨rfl, gz⟩
    have hz : wz.heap[W.heap.size]? = some (factObj A) ∧ wz.heap[W.heap.size + 1]? = some (factObj B) ∧ Below W.heap.size W wz := ⟨box_below HH.out.1 gz, box_below HH.out.2.1 gz, below_step HH.out.2.2 gz⟩
    clear gz HH
    refine hK.out _ _ (hz) (fun hHeld' => ?_)
    clear hK K hHeld
    have hHeld := hHeld'; clear hHeld'
    try simp only [Act.put, List.setIfInBounds_toArray, List.set_cons_zero, List.set_cons_succ]
    refine wpAnyH_take (i := 6) (oi := { dst := some 43, op := Op.unOp UnOp.not 4 (Operand.tmp 42), type := 4, pos := "law.go:134", after := #[{ on := 5, ground := Ground.data }, { on := 3, ground := Ground.guard }], guard := some (3, false) }) (v := ?vp46) rfl (by kernel_rfl) (by kernel_rfl) (by kernel_rfl) (fun _ _ _ h => h) (Or.inl ⟨by rfl, ?yp46⟩) (by assumption) ?tp46
    case yp46 => (intro wz hSw; clear hSw; go_simp; try with_reducible rfl)
    simp only [Act.put, List.setIfInBounds_toArray, List.set_cons_zero, List.set_cons_succ]
    refine wpAnyH_take (i := 7) (oi := { dst := some 44, op := Op.pick (Operand.tmp 40) (Operand.const (Value.bool true)) (Operand.tmp 43), type := 4, pos := "law.go:134", after := #[{ on := 3, ground := Ground.data }, { on := 6, ground := Ground.data }], guard := none }) (v := ?vp47) rfl (by kernel_rfl) (by kernel_rfl) (by kernel_rfl) (fun _ _ _ h => h) (Or.inl ⟨by rfl, ?yp47⟩) (by assumption) ?tp47
    case yp47 => (intro wz hSw; clear hSw; go_simp; try with_reducible rfl)
    simp only [Act.put, List.setIfInBounds_toArray, List.set_cons_zero, List.set_cons_succ]
    refine wpAnyH_take (i := 8) (oi := { dst := some 45, op := Op.move (Operand.tmp 44), type := 4, pos := "law.go:134", after := #[{ on := 7, ground := Ground.data }, { on := 5, ground := Ground.chain }], guard := none }) (v := ?vp48) rfl (by kernel_rfl) (by kernel_rfl) (by kernel_rfl) (fun _ _ _ h => h) (Or.inl ⟨by rfl, ?yp48⟩) (by assumption) ?tp48
    case yp48 => (intro wz hSw; clear hSw; go_simp; try with_reducible rfl)
    simp only [Act.put, List.setIfInBounds_toArray, List.set_cons_zero, List.set_cons_succ]
    refine wpAnyH_take (i := 9) (oi := { dst := some 46, op := Op.load 23 (Operand.tmp 3), type := 23, pos := "law.go:134", after := #[{ on := 8, ground := Ground.guard }], guard := some (8, false) }) (v := factV A) rfl (by kernel_rfl) (by kernel_rfl) (by kernel_rfl) (fun _ _ _ h => h) (Or.inl ⟨by rfl, fun wz hSw => sem_load_fact _ rfl (W.heap.size) rfl A (hSw.1)⟩) (by assumption) ?tp49
    simp only [Act.put, List.setIfInBounds_toArray, List.set_cons_zero, List.set_cons_succ]
    refine wpAnyH_take (i := 11) (oi := { dst := some 48, op := Op.load 23 (Operand.tmp 4), type := 23, pos := "law.go:134", after := #[{ on := 8, ground := Ground.guard }], guard := some (8, false) }) (v := factV B) rfl (by kernel_rfl) (by kernel_rfl) (by kernel_rfl) (fun _ _ _ h => h) (Or.inl ⟨by rfl, fun wz hSw => sem_load_fact _ rfl (W.heap.size + 1) rfl B (hSw.2.1)⟩) (by assumption) ?tp411
    simp only [Act.put, List.setIfInBounds_toArray, List.set_cons_zero, List.set_cons_succ]
    refine wpAnyH_ready (rs := [10]) (by kernel_rfl) (by simp) ?_
    refine AllReadyH.cons (o := { dst := some 47, op := Op.call { callee := Callee.value (Operand.func 18), args := #[Operand.tmp 46], argTypes := #[23] }, type := 9, pos := "law.go:134", after := #[{ on := 9, ground := Ground.data }, { on := 8, ground := Ground.chain }, { on := 8, ground := Ground.guard }], guard := some (8, false) }) rfl (fun K hK => ?_) AllReadyH.nil
    have HH := Lib.hid hHeld
    go_simp
    refine (HKa.out _ (HTW.out.below HH.out.2.2)).mono ?_; rintro e wz ⟨rfl, gz⟩
    have hz : wz.heap[W.heap.size]? = some (factObj A) ∧ wz.heap[W.heap.size + 1]? = some (factObj B) ∧ Below W.heap.size W wz := ⟨box_below HH.out.1 gz, box_below HH.out.2.1 gz, below_step HH.out.2.2 gz⟩
    clear gz HH
    refine hK.out _ _ (hz) (fun hHeld' => ?_)
    clear hK K hHeld
    have hHeld := hHeld'; clear hHeld'
    try simp only [Act.put, List.setIfInBounds_toArray, List.set_cons_zero, List.set_cons_succ]
    refine wpAnyH_ready (rs := [12]) (by kernel_rfl) (by simp) ?_
    refine AllReadyH.cons (o := { dst := some 49, op := Op.call { callee := Callee.value (Operand.func 18), args := #[Operand.tmp 48], argTypes := #[23] }, type := 9, pos := "law.go:134", after := #[{ on := 11, ground := Ground.data }, { on := 10, ground := Ground.chain }, { on := 8, ground := Ground.guard }], guard := some (8, false) }) rfl (fun K hK => ?_) AllReadyH.nil
    have HH := Lib.hid hHeld
    go_simp
    refine (HKb.out _ (HTW.out.below HH.out.2.2)).mono ?_; rintro e wz ⟨rfl, gz⟩
    have hz : wz.heap[W.heap.size]? = some (factObj A) ∧ wz.heap[W.heap.size + 1]? = some (factObj B) ∧ Below W.heap.size W wz := ⟨box_below HH.out.1 gz, box_below HH.out.2.1 gz, below_step HH.out.2.2 gz⟩
    clear gz HH
    refine hK.out _ _ (hz) (fun hHeld' => ?_)
    clear hK K hHeld
    have hHeld := hHeld'; clear hHeld'
    try simp only [Act.put, List.setIfInBounds_toArray, List.set_cons_zero, List.set_cons_succ]
    refine wpAnyH_take (i := 13) (oi := { dst := some 50, op := Op.binOp BinOp.neq 9 (Operand.tmp 47) (Operand.tmp 49) 9, type := 4, pos := "law.go:134", after := #[{ on := 10, ground := Ground.data }, { on := 12, ground := Ground.data }, { on := 8, ground := Ground.guard }], guard := some (8, false) }) (v := ?vp413) rfl (by kernel_rfl) (by kernel_rfl) (by kernel_rfl) (fun _ _ _ h => h) (Or.inl ⟨by rfl, ?yp413⟩) (by assumption) ?tp413
    case yp413 => (intro wz hSw; clear hSw; go_simp; try with_reducible rfl)
    simp only [Act.put, List.setIfInBounds_toArray, List.set_cons_zero, List.set_cons_succ]
    refine wpAnyH_take (i := 14) (oi := { dst := some 51, op := Op.pick (Operand.tmp 45) (Operand.const (Value.bool true)) (Operand.tmp 50), type := 4, pos := "law.go:134", after := #[{ on := 8, ground := Ground.data }, { on := 13, ground := Ground.data }], guard := none }) (v := ?vp414) rfl (by kernel_rfl) (by kernel_rfl) (by kernel_rfl) (fun _ _ _ h => h) (Or.inl ⟨by rfl, ?yp414⟩) (by assumption) ?tp414
    case yp414 => (intro wz hSw; clear hSw; go_simp; try with_reducible rfl)
    simp only [Act.put, List.setIfInBounds_toArray, List.set_cons_zero, List.set_cons_succ]
    refine wpAnyH_take (i := 15) (oi := { dst := some 52, op := Op.move (Operand.tmp 51), type := 4, pos := "law.go:134", after := #[{ on := 14, ground := Ground.data }, { on := 12, ground := Ground.chain }], guard := none }) (v := ?vp415) rfl (by kernel_rfl) (by kernel_rfl) (by kernel_rfl) (fun _ _ _ h => h) (Or.inl ⟨by rfl, ?yp415⟩) (by assumption) ?tp415
    case yp415 => (intro wz hSw; clear hSw; go_simp; try with_reducible rfl)
    simp only [Act.put, List.setIfInBounds_toArray, List.set_cons_zero, List.set_cons_succ]
    refine wpAnyH_take (i := 16) (oi := { dst := some 53, op := Op.load 23 (Operand.tmp 3), type := 23, pos := "law.go:134", after := #[{ on := 15, ground := Ground.guard }], guard := some (15, false) }) (v := factV A) rfl (by kernel_rfl) (by kernel_rfl) (by kernel_rfl) (fun _ _ _ h => h) (Or.inl ⟨by rfl, fun wz hSw => sem_load_fact _ rfl (W.heap.size) rfl A (hSw.1)⟩) (by assumption) ?tp416
    simp only [Act.put, List.setIfInBounds_toArray, List.set_cons_zero, List.set_cons_succ]
    refine wpAnyH_take (i := 17) (oi := { dst := some 54, op := Op.load 23 (Operand.tmp 4), type := 23, pos := "law.go:134", after := #[{ on := 15, ground := Ground.guard }], guard := some (15, false) }) (v := factV B) rfl (by kernel_rfl) (by kernel_rfl) (by kernel_rfl) (fun _ _ _ h => h) (Or.inl ⟨by rfl, fun wz hSw => sem_load_fact _ rfl (W.heap.size + 1) rfl B (hSw.2.1)⟩) (by assumption) ?tp417
    simp only [Act.put, List.setIfInBounds_toArray, List.set_cons_zero, List.set_cons_succ]
    refine wpAnyH_take (i := 18) (oi := { dst := some 55, op := Op.binOp BinOp.eql 23 (Operand.tmp 53) (Operand.tmp 54) 23, type := 4, pos := "law.go:134", after := #[{ on := 16, ground := Ground.data }, { on := 17, ground := Ground.data }, { on := 15, ground := Ground.guard }], guard := some (15, false) }) (v := ?vp418) rfl (by kernel_rfl) (by kernel_rfl) (by kernel_rfl) (fun _ _ _ h => h) (Or.inl ⟨by rfl, ?yp418⟩) (by assumption) ?tp418
    case yp418 => (intro wz hSw; clear hSw; go_simp; try with_reducible rfl)
    simp only [Act.put, List.setIfInBounds_toArray, List.set_cons_zero, List.set_cons_succ]
    refine wpAnyH_take (i := 19) (oi := { dst := some 56, op := Op.pick (Operand.tmp 52) (Operand.const (Value.bool true)) (Operand.tmp 55), type := 4, pos := "law.go:134", after := #[{ on := 15, ground := Ground.data }, { on := 18, ground := Ground.data }], guard := none }) (v := ?vp419) rfl (by kernel_rfl) (by kernel_rfl) (by kernel_rfl) (fun _ _ _ h => h) (Or.inl ⟨by rfl, ?yp419⟩) (by assumption) ?tp419
    case yp419 => (intro wz hSw; clear hSw; go_simp; try with_reducible rfl)
    simp only [Act.put, List.setIfInBounds_toArray, List.set_cons_zero, List.set_cons_succ]
    refine wpAnyH_done (by kernel_rfl) ?_ _
    have HFin := Lib.hid hHeld
    have a2 := box_cell HFin.out.1 2 (.int .i64 A.v) rfl
    have b2 := box_cell HFin.out.2.1 2 (.int .i64 B.v) rfl
    cases P2 with
    | false =>
      obtain rfl : P1 = true := by rw [HOne.out]; rfl
      by_cases hv : A.v = B.v
      · have hv2 : (A.v == B.v) = true := by simpa using hv
        go_wp2_with fail
        go_ret
        exact ⟨rfl, HFin.out.2.2⟩
      · have hv2 : (A.v == B.v) = false := by simpa using hv
        have hv3 : A.v > B.v := by have := HVer.out hv; simpa using this.symm
        go_wp2_with fail
        go_ret
        exact ⟨rfl, HFin.out.2.2⟩
    | true =>
      obtain rfl : P1 = false := by rw [HOne.out]; rfl
      by_cases hv : A.v = B.v
      · have hv2 : (A.v == B.v) = true := by simpa using hv
        go_wp2_with fail
        go_ret
        exact ⟨rfl, HFin.out.2.2⟩
      · have hv2 : (A.v == B.v) = false := by simpa using hv
        have hv3 : ¬ A.v > B.v := by have := HVer.out hv; simpa using this.symm
        go_wp2_with fail
        go_ret
        exact ⟨rfl, HFin.out.2.2⟩
  | true =>
    have b2 := box_cell HG6.out 2 _ rfl
    have b3 := box_cell HG6.out 3 _ rfl
    have b4 := box_cell HG6.out 4 _ rfl
    have b16 := box_cell HG6.out 16 _ rfl
    have hg1 : W.heap.size + 1 < w6.heap.size := lt_of_block HG6.out
    have hg2 : ¬ W.heap.size + 1 = w6.heap.size := by omega
    go_upto_region 6 with (first | (refine wpList_load_fact rfl _ rfl _ rfl A HF6.out ?_) | (refine wpList_store_new rfl rfl _ _ rfl A rfl rfl _ rfl ?_))
    go_upto_region 7 with (fail)
    go_upto_region 8 with (fail)
    go_upto_region 9 with (fail)
    go_upto_region 10 with (fail)
    rw [show w6.alloc (.cells #[.int .i64 A.k, .int .i64 A.id, .int .i64 B.v, .int .i64 B.d, .bool B.gone, .int .i64 A.ti, .int .i64 A.un, .int .i64 A.w, .int .i64 A.ot, .int .i64 A.lo, .int .i64 A.pr, .int .i64 A.tl, .int .i64 A.ch, .int .i64 A.st, .int .i64 A.rc, .int .i64 A.rv, .int .i64 B.va, .int .i64 A.pa, .string A.tx] 23) = w6.alloc (factObj { A with v := B.v, d := B.d, gone := B.gone, va := B.va }) from rfl]
    clear b2 b3 b4 b16 hg1 hg2
    have HSC := Lib.hid (show ({ A with v := B.v, d := B.d, gone := B.gone, va := B.va } : Fact).tx.size ≤ maxLen from HSF.out)
    generalize ({ A with v := B.v, d := B.d, gone := B.gone, va := B.va } : Fact) = C at *
    have g7 := below_new w6 (factObj C)
    have HC7 := Lib.hid (heap_alloc_new w6 (factObj C))
    have HT7 := Lib.hid (HT6.out.below g7)
    have HB7 := Lib.hid (below_step HB6.out g7)
    have HF7 := Lib.hid (box_below HF6.out g7)
    have HG7 := Lib.hid (box_below HG6.out g7)
    clear g7 HT6 HB6 HF6 HG6
    generalize w6.alloc (factObj C) = w7 at *
    have HG8 := Lib.hid (setRow_heap w7 (W.heap.size + 1) _ (factC C) _ _ HG7.out)
    have HC8 := row_ch w7 (W.heap.size + 1) (factC C)
    have HF8 := Lib.hid ((HC8.block _ (lt_of_block HF7.out) (by omega)).trans HF7.out)
    have HB8 := Lib.hid (HB7.out.trans (HC8.below (B := W.heap.size) (Nat.le_of_lt (lt_of_block HF7.out)) (fun k e => by omega)))
    have HT8 := Lib.hid (HT7.out.ch HC8 (fun e => by have := HTn.out; omega))
    clear HC8 HT7 HB7 HF7 HSG
    go_upto_region 11 with (first | (refine wpList_load_fact rfl _ rfl _ rfl C HC7.out ?_) | (refine wpList_store_at rfl rfl _ _ rfl (W.heap.size + 1) C rfl rfl _ HG7.out rfl ?_))
    clear HG7 HC7
    generalize w7.setRow (W.heap.size + 1) (factC C) = w8 at *
    rename Fact => B2
    have HVa := Lib.hid (fun V h => valid_any A V h HSF.out)
    have HVb := Lib.hid (fun V h => valid_any B2 V h HSC.out)
    have HKa := Lib.hid (fun V h => key_any A V h HSF.out)
    have HKb := Lib.hid (fun V h => key_any B2 V h HSC.out)
    unfold BoolPost at HVa HVb
    unfold StrPost at HKa HKb
    have HP1 := Lib.hid (fun V h => prevails_any A B2 V h HSF.out HSC.out)
    have HP2 := Lib.hid (fun V h => prevails_any B2 A V h HSC.out HSF.out)
    unfold BoolPost at HP1 HP2
    go_wp2_with (first | (refine wpList_load_fact rfl _ rfl _ rfl A HF8.out ?_) | (refine wpList_load_fact rfl _ rfl _ rfl B2 HG8.out ?_))
    refine (HP1.out _ HT8.out).mono ?_; rintro e wa ⟨rfl, ga⟩
    have HTa := Lib.hid (HT8.out.below ga)
    have HBa := Lib.hid (below_step HB8.out ga)
    have HFa := Lib.hid (box_below HF8.out ga)
    have HGa := Lib.hid (box_below HG8.out ga)
    clear ga HT8 HB8 HF8 HG8
    go_wp2_with (first | (refine wpList_load_fact rfl _ rfl _ rfl A HFa.out ?_) | (refine wpList_load_fact rfl _ rfl _ rfl B2 HGa.out ?_))
    refine (HP2.out _ HTa.out).mono ?_; rintro e wb ⟨rfl, gb⟩
    have HTb := Lib.hid (HTa.out.below gb)
    have HBb := Lib.hid (below_step HBa.out gb)
    have HFb := Lib.hid (box_below HFa.out gb)
    have HGb := Lib.hid (box_below HGa.out gb)
    clear gb HTa HBa HFa HGa
    clear HP1 HP2
    go_wp2_with fail
    cases hva : validB A with
    | false =>
      have p1 : prevB A B2 = false := by
        cases h : prevB A B2 with
        | false => rfl
        | true => obtain ⟨x1, x2, x3, -⟩ := prev_iff.1 h; exact absurd x1 (by rw [hva]; simp)
      have p2 : prevB B2 A = false := by
        cases h : prevB B2 A with
        | false => rfl
        | true => obtain ⟨x1, x2, x3, -⟩ := prev_iff.1 h; exact absurd x2 (by rw [hva]; simp)
      rw [p1, p2]
      clear p1 p2
      rw [hva] at HVa
      clear hva
      refine wp_region_held_drew (S := (fun v => v.heap[W.heap.size]? = some (factObj A) ∧ v.heap[W.heap.size + 1]? = some (factObj B2) ∧ Below W.heap.size W v)) (by kernel_rfl) (⟨HFb.out, HGb.out, HBb.out.drew⟩) (fun hHeld => ?_)
      have HBd := Lib.hid hHeld.2.2
      generalize wb.drew = wd at *
      refine wpAnyH_take (i := 0) (oi := { dst := some 37, op := Op.load 23 (Operand.tmp 3), type := 23, pos := "law.go:134", after := #[], guard := none }) (v := factV A) rfl (by kernel_rfl) (by kernel_rfl) (by kernel_rfl) (fun _ _ _ h => h) (Or.inl ⟨by rfl, fun wz hSw => sem_load_fact _ rfl (W.heap.size) rfl A (hSw.1)⟩) (by assumption) ?tq00
      simp only [Act.put, List.setIfInBounds_toArray, List.set_cons_zero, List.set_cons_succ]
      refine wpAnyH_ready (rs := [1]) (by kernel_rfl) (by simp) ?_
      refine AllReadyH.cons (o := { dst := some 38, op := Op.call { callee := Callee.value (Operand.func 16), args := #[Operand.tmp 37], argTypes := #[23] }, type := 4, pos := "law.go:134", after := #[{ on := 0, ground := Ground.data }], guard := none }) rfl (fun K hK => ?_) AllReadyH.nil
      have HH := Lib.hid hHeld
      go_simp
      refine (HVa.out wd (HTW.out.below HBd.out)).mono ?_; rintro e wz ⟨rfl, gz⟩
      have hz : wz.heap[W.heap.size]? = some (factObj A) ∧ wz.heap[W.heap.size + 1]? = some (factObj B2) ∧ Below W.heap.size W wz := ⟨box_below HH.out.1 gz, box_below HH.out.2.1 gz, below_step HH.out.2.2 gz⟩
      clear gz HH
      refine hK.out _ _ (hz) (fun hHeld' => ?_)
      clear hK K hHeld
      have hHeld := hHeld'; clear hHeld'
      try simp only [Act.put, List.setIfInBounds_toArray, List.set_cons_zero, List.set_cons_succ]
      refine wpAnyH_take (i := 2) (oi := { dst := some 39, op := Op.unOp UnOp.not 4 (Operand.tmp 38), type := 4, pos := "law.go:134", after := #[{ on := 1, ground := Ground.data }], guard := none }) (v := ?vq02) rfl (by kernel_rfl) (by kernel_rfl) (by kernel_rfl) (fun _ _ _ h => h) (Or.inl ⟨by rfl, ?yq02⟩) (by assumption) ?tq02
      case yq02 => (intro wz hSw; clear hSw; go_simp; try with_reducible rfl)
      simp only [Act.put, List.setIfInBounds_toArray, List.set_cons_zero, List.set_cons_succ]
      refine wpAnyH_take (i := 3) (oi := { dst := some 40, op := Op.move (Operand.tmp 39), type := 4, pos := "law.go:134", after := #[{ on := 2, ground := Ground.data }, { on := 1, ground := Ground.chain }], guard := none }) (v := ?vq03) rfl (by kernel_rfl) (by kernel_rfl) (by kernel_rfl) (fun _ _ _ h => h) (Or.inl ⟨by rfl, ?yq03⟩) (by assumption) ?tq03
      case yq03 => (intro wz hSw; clear hSw; go_simp; try with_reducible rfl)
      simp only [Act.put, List.setIfInBounds_toArray, List.set_cons_zero, List.set_cons_succ]
      refine wpAnyH_take (i := 4) (oi := { dst := some 41, op := Op.load 23 (Operand.tmp 4), type := 23, pos := "law.go:134", after := #[{ on := 3, ground := Ground.guard }], guard := some (3, false) }) (v := undef) rfl (by kernel_rfl) (by kernel_rfl) (by kernel_rfl) (fun _ _ _ h => h) (Or.inr ⟨by rfl, rfl⟩) (by assumption) ?_
      simp only [Act.put, List.setIfInBounds_toArray, List.set_cons_zero, List.set_cons_succ]
      refine wpAnyH_take (i := 5) (oi := { dst := some 42, op := Op.call { callee := Callee.value (Operand.func 16), args := #[Operand.tmp 41], argTypes := #[23] }, type := 4, pos := "law.go:134", after := #[{ on := 4, ground := Ground.data }, { on := 3, ground := Ground.chain }, { on := 3, ground := Ground.guard }], guard := some (3, false) }) (v := undef) rfl (by kernel_rfl) (by kernel_rfl) (by kernel_rfl) (fun _ _ _ h => h) (Or.inr ⟨by rfl, rfl⟩) (by assumption) ?_
      simp only [Act.put, List.setIfInBounds_toArray, List.set_cons_zero, List.set_cons_succ]
      refine wpAnyH_take (i := 6) (oi := { dst := some 43, op := Op.unOp UnOp.not 4 (Operand.tmp 42), type := 4, pos := "law.go:134", after := #[{ on := 5, ground := Ground.data }, { on := 3, ground := Ground.guard }], guard := some (3, false) }) (v := undef) rfl (by kernel_rfl) (by kernel_rfl) (by kernel_rfl) (fun _ _ _ h => h) (Or.inr ⟨by rfl, rfl⟩) (by assumption) ?_
      simp only [Act.put, List.setIfInBounds_toArray, List.set_cons_zero, List.set_cons_succ]
      refine wpAnyH_take (i := 7) (oi := { dst := some 44, op := Op.pick (Operand.tmp 40) (Operand.const (Value.bool true)) (Operand.tmp 43), type := 4, pos := "law.go:134", after := #[{ on := 3, ground := Ground.data }, { on := 6, ground := Ground.data }], guard := none }) (v := ?vq07) rfl (by kernel_rfl) (by kernel_rfl) (by kernel_rfl) (fun _ _ _ h => h) (Or.inl ⟨by rfl, ?yq07⟩) (by assumption) ?tq07
      case yq07 => (intro wz hSw; clear hSw; go_simp; try with_reducible rfl)
      simp only [Act.put, List.setIfInBounds_toArray, List.set_cons_zero, List.set_cons_succ]
      refine wpAnyH_take (i := 8) (oi := { dst := some 45, op := Op.move (Operand.tmp 44), type := 4, pos := "law.go:134", after := #[{ on := 7, ground := Ground.data }, { on := 5, ground := Ground.chain }], guard := none }) (v := ?vq08) rfl (by kernel_rfl) (by kernel_rfl) (by kernel_rfl) (fun _ _ _ h => h) (Or.inl ⟨by rfl, ?yq08⟩) (by assumption) ?tq08
      case yq08 => (intro wz hSw; clear hSw; go_simp; try with_reducible rfl)
      simp only [Act.put, List.setIfInBounds_toArray, List.set_cons_zero, List.set_cons_succ]
      refine wpAnyH_take (i := 9) (oi := { dst := some 46, op := Op.load 23 (Operand.tmp 3), type := 23, pos := "law.go:134", after := #[{ on := 8, ground := Ground.guard }], guard := some (8, false) }) (v := undef) rfl (by kernel_rfl) (by kernel_rfl) (by kernel_rfl) (fun _ _ _ h => h) (Or.inr ⟨by rfl, rfl⟩) (by assumption) ?_
      simp only [Act.put, List.setIfInBounds_toArray, List.set_cons_zero, List.set_cons_succ]
      refine wpAnyH_take (i := 10) (oi := { dst := some 47, op := Op.call { callee := Callee.value (Operand.func 18), args := #[Operand.tmp 46], argTypes := #[23] }, type := 9, pos := "law.go:134", after := #[{ on := 9, ground := Ground.data }, { on := 8, ground := Ground.chain }, { on := 8, ground := Ground.guard }], guard := some (8, false) }) (v := undef) rfl (by kernel_rfl) (by kernel_rfl) (by kernel_rfl) (fun _ _ _ h => h) (Or.inr ⟨by rfl, rfl⟩) (by assumption) ?_
      simp only [Act.put, List.setIfInBounds_toArray, List.set_cons_zero, List.set_cons_succ]
      refine wpAnyH_take (i := 11) (oi := { dst := some 48, op := Op.load 23 (Operand.tmp 4), type := 23, pos := "law.go:134", after := #[{ on := 8, ground := Ground.guard }], guard := some (8, false) }) (v := undef) rfl (by kernel_rfl) (by kernel_rfl) (by kernel_rfl) (fun _ _ _ h => h) (Or.inr ⟨by rfl, rfl⟩) (by assumption) ?_
      simp only [Act.put, List.setIfInBounds_toArray, List.set_cons_zero, List.set_cons_succ]
      refine wpAnyH_take (i := 12) (oi := { dst := some 49, op := Op.call { callee := Callee.value (Operand.func 18), args := #[Operand.tmp 48], argTypes := #[23] }, type := 9, pos := "law.go:134", after := #[{ on := 11, ground := Ground.data }, { on := 10, ground := Ground.chain }, { on := 8, ground := Ground.guard }], guard := some (8, false) }) (v := undef) rfl (by kernel_rfl) (by kernel_rfl) (by kernel_rfl) (fun _ _ _ h => h) (Or.inr ⟨by rfl, rfl⟩) (by assumption) ?_
      simp only [Act.put, List.setIfInBounds_toArray, List.set_cons_zero, List.set_cons_succ]
      refine wpAnyH_take (i := 13) (oi := { dst := some 50, op := Op.binOp BinOp.neq 9 (Operand.tmp 47) (Operand.tmp 49) 9, type := 4, pos := "law.go:134", after := #[{ on := 10, ground := Ground.data }, { on := 12, ground := Ground.data }, { on := 8, ground := Ground.guard }], guard := some (8, false) }) (v := undef) rfl (by kernel_rfl) (by kernel_rfl) (by kernel_rfl) (fun _ _ _ h => h) (Or.inr ⟨by rfl, rfl⟩) (by assumption) ?_
      simp only [Act.put, List.setIfInBounds_toArray, List.set_cons_zero, List.set_cons_succ]
      refine wpAnyH_take (i := 14) (oi := { dst := some 51, op := Op.pick (Operand.tmp 45) (Operand.const (Value.bool true)) (Operand.tmp 50), type := 4, pos := "law.go:134", after := #[{ on := 8, ground := Ground.data }, { on := 13, ground := Ground.data }], guard := none }) (v := ?vq014) rfl (by kernel_rfl) (by kernel_rfl) (by kernel_rfl) (fun _ _ _ h => h) (Or.inl ⟨by rfl, ?yq014⟩) (by assumption) ?tq014
      case yq014 => (intro wz hSw; clear hSw; go_simp; try with_reducible rfl)
      simp only [Act.put, List.setIfInBounds_toArray, List.set_cons_zero, List.set_cons_succ]
      refine wpAnyH_take (i := 15) (oi := { dst := some 52, op := Op.move (Operand.tmp 51), type := 4, pos := "law.go:134", after := #[{ on := 14, ground := Ground.data }, { on := 12, ground := Ground.chain }], guard := none }) (v := ?vq015) rfl (by kernel_rfl) (by kernel_rfl) (by kernel_rfl) (fun _ _ _ h => h) (Or.inl ⟨by rfl, ?yq015⟩) (by assumption) ?tq015
      case yq015 => (intro wz hSw; clear hSw; go_simp; try with_reducible rfl)
      simp only [Act.put, List.setIfInBounds_toArray, List.set_cons_zero, List.set_cons_succ]
      refine wpAnyH_take (i := 16) (oi := { dst := some 53, op := Op.load 23 (Operand.tmp 3), type := 23, pos := "law.go:134", after := #[{ on := 15, ground := Ground.guard }], guard := some (15, false) }) (v := undef) rfl (by kernel_rfl) (by kernel_rfl) (by kernel_rfl) (fun _ _ _ h => h) (Or.inr ⟨by rfl, rfl⟩) (by assumption) ?_
      simp only [Act.put, List.setIfInBounds_toArray, List.set_cons_zero, List.set_cons_succ]
      refine wpAnyH_take (i := 17) (oi := { dst := some 54, op := Op.load 23 (Operand.tmp 4), type := 23, pos := "law.go:134", after := #[{ on := 15, ground := Ground.guard }], guard := some (15, false) }) (v := undef) rfl (by kernel_rfl) (by kernel_rfl) (by kernel_rfl) (fun _ _ _ h => h) (Or.inr ⟨by rfl, rfl⟩) (by assumption) ?_
      simp only [Act.put, List.setIfInBounds_toArray, List.set_cons_zero, List.set_cons_succ]
      refine wpAnyH_take (i := 18) (oi := { dst := some 55, op := Op.binOp BinOp.eql 23 (Operand.tmp 53) (Operand.tmp 54) 23, type := 4, pos := "law.go:134", after := #[{ on := 16, ground := Ground.data }, { on := 17, ground := Ground.data }, { on := 15, ground := Ground.guard }], guard := some (15, false) }) (v := undef) rfl (by kernel_rfl) (by kernel_rfl) (by kernel_rfl) (fun _ _ _ h => h) (Or.inr ⟨by rfl, rfl⟩) (by assumption) ?_
      simp only [Act.put, List.setIfInBounds_toArray, List.set_cons_zero, List.set_cons_succ]
      refine wpAnyH_take (i := 19) (oi := { dst := some 56, op := Op.pick (Operand.tmp 52) (Operand.const (Value.bool true)) (Operand.tmp 55), type := 4, pos := "law.go:134", after := #[{ on := 15, ground := Ground.data }, { on := 18, ground := Ground.data }], guard := none }) (v := ?vq019) rfl (by kernel_rfl) (by kernel_rfl) (by kernel_rfl) (fun _ _ _ h => h) (Or.inl ⟨by rfl, ?yq019⟩) (by assumption) ?tq019
      case yq019 => (intro wz hSw; clear hSw; go_simp; try with_reducible rfl)
      simp only [Act.put, List.setIfInBounds_toArray, List.set_cons_zero, List.set_cons_succ]
      refine wpAnyH_done (by kernel_rfl) ?_ _
      have HFin := Lib.hid hHeld
      go_wp2_with fail
      go_ret
      exact ⟨rfl, HFin.out.2.2⟩
    | true =>
    cases hvb : validB B2 with
    | false =>
      have p1 : prevB A B2 = false := by
        cases h : prevB A B2 with
        | false => rfl
        | true => obtain ⟨x1, x2, x3, -⟩ := prev_iff.1 h; exact absurd x2 (by rw [hvb]; simp)
      have p2 : prevB B2 A = false := by
        cases h : prevB B2 A with
        | false => rfl
        | true => obtain ⟨x1, x2, x3, -⟩ := prev_iff.1 h; exact absurd x1 (by rw [hvb]; simp)
      rw [p1, p2]
      clear p1 p2
      rw [hva] at HVa
      rw [hvb] at HVb
      clear hva hvb
      refine wp_region_held_drew (S := (fun v => v.heap[W.heap.size]? = some (factObj A) ∧ v.heap[W.heap.size + 1]? = some (factObj B2) ∧ Below W.heap.size W v)) (by kernel_rfl) (⟨HFb.out, HGb.out, HBb.out.drew⟩) (fun hHeld => ?_)
      have HBd := Lib.hid hHeld.2.2
      generalize wb.drew = wd at *
      refine wpAnyH_take (i := 0) (oi := { dst := some 37, op := Op.load 23 (Operand.tmp 3), type := 23, pos := "law.go:134", after := #[], guard := none }) (v := factV A) rfl (by kernel_rfl) (by kernel_rfl) (by kernel_rfl) (fun _ _ _ h => h) (Or.inl ⟨by rfl, fun wz hSw => sem_load_fact _ rfl (W.heap.size) rfl A (hSw.1)⟩) (by assumption) ?tq10
      simp only [Act.put, List.setIfInBounds_toArray, List.set_cons_zero, List.set_cons_succ]
      refine wpAnyH_ready (rs := [1]) (by kernel_rfl) (by simp) ?_
      refine AllReadyH.cons (o := { dst := some 38, op := Op.call { callee := Callee.value (Operand.func 16), args := #[Operand.tmp 37], argTypes := #[23] }, type := 4, pos := "law.go:134", after := #[{ on := 0, ground := Ground.data }], guard := none }) rfl (fun K hK => ?_) AllReadyH.nil
      have HH := Lib.hid hHeld
      go_simp
      refine (HVa.out wd (HTW.out.below HBd.out)).mono ?_; rintro e wz ⟨rfl, gz⟩
      have hz : wz.heap[W.heap.size]? = some (factObj A) ∧ wz.heap[W.heap.size + 1]? = some (factObj B2) ∧ Below W.heap.size W wz := ⟨box_below HH.out.1 gz, box_below HH.out.2.1 gz, below_step HH.out.2.2 gz⟩
      clear gz HH
      refine hK.out _ _ (hz) (fun hHeld' => ?_)
      clear hK K hHeld
      have hHeld := hHeld'; clear hHeld'
      try simp only [Act.put, List.setIfInBounds_toArray, List.set_cons_zero, List.set_cons_succ]
      refine wpAnyH_take (i := 2) (oi := { dst := some 39, op := Op.unOp UnOp.not 4 (Operand.tmp 38), type := 4, pos := "law.go:134", after := #[{ on := 1, ground := Ground.data }], guard := none }) (v := ?vq12) rfl (by kernel_rfl) (by kernel_rfl) (by kernel_rfl) (fun _ _ _ h => h) (Or.inl ⟨by rfl, ?yq12⟩) (by assumption) ?tq12
      case yq12 => (intro wz hSw; clear hSw; go_simp; try with_reducible rfl)
      simp only [Act.put, List.setIfInBounds_toArray, List.set_cons_zero, List.set_cons_succ]
      refine wpAnyH_take (i := 3) (oi := { dst := some 40, op := Op.move (Operand.tmp 39), type := 4, pos := "law.go:134", after := #[{ on := 2, ground := Ground.data }, { on := 1, ground := Ground.chain }], guard := none }) (v := ?vq13) rfl (by kernel_rfl) (by kernel_rfl) (by kernel_rfl) (fun _ _ _ h => h) (Or.inl ⟨by rfl, ?yq13⟩) (by assumption) ?tq13
      case yq13 => (intro wz hSw; clear hSw; go_simp; try with_reducible rfl)
      simp only [Act.put, List.setIfInBounds_toArray, List.set_cons_zero, List.set_cons_succ]
      refine wpAnyH_take (i := 4) (oi := { dst := some 41, op := Op.load 23 (Operand.tmp 4), type := 23, pos := "law.go:134", after := #[{ on := 3, ground := Ground.guard }], guard := some (3, false) }) (v := factV B2) rfl (by kernel_rfl) (by kernel_rfl) (by kernel_rfl) (fun _ _ _ h => h) (Or.inl ⟨by rfl, fun wz hSw => sem_load_fact _ rfl (W.heap.size + 1) rfl B2 (hSw.2.1)⟩) (by assumption) ?tq14
      simp only [Act.put, List.setIfInBounds_toArray, List.set_cons_zero, List.set_cons_succ]
      refine wpAnyH_ready (rs := [5]) (by kernel_rfl) (by simp) ?_
      refine AllReadyH.cons (o := { dst := some 42, op := Op.call { callee := Callee.value (Operand.func 16), args := #[Operand.tmp 41], argTypes := #[23] }, type := 4, pos := "law.go:134", after := #[{ on := 4, ground := Ground.data }, { on := 3, ground := Ground.chain }, { on := 3, ground := Ground.guard }], guard := some (3, false) }) rfl (fun K hK => ?_) AllReadyH.nil
      have HH := Lib.hid hHeld
      go_simp
      refine (HVb.out _ (HTW.out.below HH.out.2.2)).mono ?_; rintro e wz ⟨rfl, gz⟩
      have hz : wz.heap[W.heap.size]? = some (factObj A) ∧ wz.heap[W.heap.size + 1]? = some (factObj B2) ∧ Below W.heap.size W wz := ⟨box_below HH.out.1 gz, box_below HH.out.2.1 gz, below_step HH.out.2.2 gz⟩
      clear gz HH
      refine hK.out _ _ (hz) (fun hHeld' => ?_)
      clear hK K hHeld
      have hHeld := hHeld'; clear hHeld'
      try simp only [Act.put, List.setIfInBounds_toArray, List.set_cons_zero, List.set_cons_succ]
      refine wpAnyH_take (i := 6) (oi := { dst := some 43, op := Op.unOp UnOp.not 4 (Operand.tmp 42), type := 4, pos := "law.go:134", after := #[{ on := 5, ground := Ground.data }, { on := 3, ground := Ground.guard }], guard := some (3, false) }) (v := ?vq16) rfl (by kernel_rfl) (by kernel_rfl) (by kernel_rfl) (fun _ _ _ h => h) (Or.inl ⟨by rfl, ?yq16⟩) (by assumption) ?tq16
      case yq16 => (intro wz hSw; clear hSw; go_simp; try with_reducible rfl)
      simp only [Act.put, List.setIfInBounds_toArray, List.set_cons_zero, List.set_cons_succ]
      refine wpAnyH_take (i := 7) (oi := { dst := some 44, op := Op.pick (Operand.tmp 40) (Operand.const (Value.bool true)) (Operand.tmp 43), type := 4, pos := "law.go:134", after := #[{ on := 3, ground := Ground.data }, { on := 6, ground := Ground.data }], guard := none }) (v := ?vq17) rfl (by kernel_rfl) (by kernel_rfl) (by kernel_rfl) (fun _ _ _ h => h) (Or.inl ⟨by rfl, ?yq17⟩) (by assumption) ?tq17
      case yq17 => (intro wz hSw; clear hSw; go_simp; try with_reducible rfl)
      simp only [Act.put, List.setIfInBounds_toArray, List.set_cons_zero, List.set_cons_succ]
      refine wpAnyH_take (i := 8) (oi := { dst := some 45, op := Op.move (Operand.tmp 44), type := 4, pos := "law.go:134", after := #[{ on := 7, ground := Ground.data }, { on := 5, ground := Ground.chain }], guard := none }) (v := ?vq18) rfl (by kernel_rfl) (by kernel_rfl) (by kernel_rfl) (fun _ _ _ h => h) (Or.inl ⟨by rfl, ?yq18⟩) (by assumption) ?tq18
      case yq18 => (intro wz hSw; clear hSw; go_simp; try with_reducible rfl)
      simp only [Act.put, List.setIfInBounds_toArray, List.set_cons_zero, List.set_cons_succ]
      refine wpAnyH_take (i := 9) (oi := { dst := some 46, op := Op.load 23 (Operand.tmp 3), type := 23, pos := "law.go:134", after := #[{ on := 8, ground := Ground.guard }], guard := some (8, false) }) (v := undef) rfl (by kernel_rfl) (by kernel_rfl) (by kernel_rfl) (fun _ _ _ h => h) (Or.inr ⟨by rfl, rfl⟩) (by assumption) ?_
      simp only [Act.put, List.setIfInBounds_toArray, List.set_cons_zero, List.set_cons_succ]
      refine wpAnyH_take (i := 10) (oi := { dst := some 47, op := Op.call { callee := Callee.value (Operand.func 18), args := #[Operand.tmp 46], argTypes := #[23] }, type := 9, pos := "law.go:134", after := #[{ on := 9, ground := Ground.data }, { on := 8, ground := Ground.chain }, { on := 8, ground := Ground.guard }], guard := some (8, false) }) (v := undef) rfl (by kernel_rfl) (by kernel_rfl) (by kernel_rfl) (fun _ _ _ h => h) (Or.inr ⟨by rfl, rfl⟩) (by assumption) ?_
      simp only [Act.put, List.setIfInBounds_toArray, List.set_cons_zero, List.set_cons_succ]
      refine wpAnyH_take (i := 11) (oi := { dst := some 48, op := Op.load 23 (Operand.tmp 4), type := 23, pos := "law.go:134", after := #[{ on := 8, ground := Ground.guard }], guard := some (8, false) }) (v := undef) rfl (by kernel_rfl) (by kernel_rfl) (by kernel_rfl) (fun _ _ _ h => h) (Or.inr ⟨by rfl, rfl⟩) (by assumption) ?_
      simp only [Act.put, List.setIfInBounds_toArray, List.set_cons_zero, List.set_cons_succ]
      refine wpAnyH_take (i := 12) (oi := { dst := some 49, op := Op.call { callee := Callee.value (Operand.func 18), args := #[Operand.tmp 48], argTypes := #[23] }, type := 9, pos := "law.go:134", after := #[{ on := 11, ground := Ground.data }, { on := 10, ground := Ground.chain }, { on := 8, ground := Ground.guard }], guard := some (8, false) }) (v := undef) rfl (by kernel_rfl) (by kernel_rfl) (by kernel_rfl) (fun _ _ _ h => h) (Or.inr ⟨by rfl, rfl⟩) (by assumption) ?_
      simp only [Act.put, List.setIfInBounds_toArray, List.set_cons_zero, List.set_cons_succ]
      refine wpAnyH_take (i := 13) (oi := { dst := some 50, op := Op.binOp BinOp.neq 9 (Operand.tmp 47) (Operand.tmp 49) 9, type := 4, pos := "law.go:134", after := #[{ on := 10, ground := Ground.data }, { on := 12, ground := Ground.data }, { on := 8, ground := Ground.guard }], guard := some (8, false) }) (v := undef) rfl (by kernel_rfl) (by kernel_rfl) (by kernel_rfl) (fun _ _ _ h => h) (Or.inr ⟨by rfl, rfl⟩) (by assumption) ?_
      simp only [Act.put, List.setIfInBounds_toArray, List.set_cons_zero, List.set_cons_succ]
      refine wpAnyH_take (i := 14) (oi := { dst := some 51, op := Op.pick (Operand.tmp 45) (Operand.const (Value.bool true)) (Operand.tmp 50), type := 4, pos := "law.go:134", after := #[{ on := 8, ground := Ground.data }, { on := 13, ground := Ground.data }], guard := none }) (v := ?vq114) rfl (by kernel_rfl) (by kernel_rfl) (by kernel_rfl) (fun _ _ _ h => h) (Or.inl ⟨by rfl, ?yq114⟩) (by assumption) ?tq114
      case yq114 => (intro wz hSw; clear hSw; go_simp; try with_reducible rfl)
      simp only [Act.put, List.setIfInBounds_toArray, List.set_cons_zero, List.set_cons_succ]
      refine wpAnyH_take (i := 15) (oi := { dst := some 52, op := Op.move (Operand.tmp 51), type := 4, pos := "law.go:134", after := #[{ on := 14, ground := Ground.data }, { on := 12, ground := Ground.chain }], guard := none }) (v := ?vq115) rfl (by kernel_rfl) (by kernel_rfl) (by kernel_rfl) (fun _ _ _ h => h) (Or.inl ⟨by rfl, ?yq115⟩) (by assumption) ?tq115
      case yq115 => (intro wz hSw; clear hSw; go_simp; try with_reducible rfl)
      simp only [Act.put, List.setIfInBounds_toArray, List.set_cons_zero, List.set_cons_succ]
      refine wpAnyH_take (i := 16) (oi := { dst := some 53, op := Op.load 23 (Operand.tmp 3), type := 23, pos := "law.go:134", after := #[{ on := 15, ground := Ground.guard }], guard := some (15, false) }) (v := undef) rfl (by kernel_rfl) (by kernel_rfl) (by kernel_rfl) (fun _ _ _ h => h) (Or.inr ⟨by rfl, rfl⟩) (by assumption) ?_
      simp only [Act.put, List.setIfInBounds_toArray, List.set_cons_zero, List.set_cons_succ]
      refine wpAnyH_take (i := 17) (oi := { dst := some 54, op := Op.load 23 (Operand.tmp 4), type := 23, pos := "law.go:134", after := #[{ on := 15, ground := Ground.guard }], guard := some (15, false) }) (v := undef) rfl (by kernel_rfl) (by kernel_rfl) (by kernel_rfl) (fun _ _ _ h => h) (Or.inr ⟨by rfl, rfl⟩) (by assumption) ?_
      simp only [Act.put, List.setIfInBounds_toArray, List.set_cons_zero, List.set_cons_succ]
      refine wpAnyH_take (i := 18) (oi := { dst := some 55, op := Op.binOp BinOp.eql 23 (Operand.tmp 53) (Operand.tmp 54) 23, type := 4, pos := "law.go:134", after := #[{ on := 16, ground := Ground.data }, { on := 17, ground := Ground.data }, { on := 15, ground := Ground.guard }], guard := some (15, false) }) (v := undef) rfl (by kernel_rfl) (by kernel_rfl) (by kernel_rfl) (fun _ _ _ h => h) (Or.inr ⟨by rfl, rfl⟩) (by assumption) ?_
      simp only [Act.put, List.setIfInBounds_toArray, List.set_cons_zero, List.set_cons_succ]
      refine wpAnyH_take (i := 19) (oi := { dst := some 56, op := Op.pick (Operand.tmp 52) (Operand.const (Value.bool true)) (Operand.tmp 55), type := 4, pos := "law.go:134", after := #[{ on := 15, ground := Ground.data }, { on := 18, ground := Ground.data }], guard := none }) (v := ?vq119) rfl (by kernel_rfl) (by kernel_rfl) (by kernel_rfl) (fun _ _ _ h => h) (Or.inl ⟨by rfl, ?yq119⟩) (by assumption) ?tq119
      case yq119 => (intro wz hSw; clear hSw; go_simp; try with_reducible rfl)
      simp only [Act.put, List.setIfInBounds_toArray, List.set_cons_zero, List.set_cons_succ]
      refine wpAnyH_done (by kernel_rfl) ?_ _
      have HFin := Lib.hid hHeld
      go_wp2_with fail
      go_ret
      exact ⟨rfl, HFin.out.2.2⟩
    | true =>
    by_cases hk : keyB A = keyB B2
    case neg =>
      have p1 : prevB A B2 = false := by
        cases h : prevB A B2 with
        | false => rfl
        | true => obtain ⟨x1, x2, x3, -⟩ := prev_iff.1 h; exact absurd x3 hk
      have p2 : prevB B2 A = false := by
        cases h : prevB B2 A with
        | false => rfl
        | true => obtain ⟨x1, x2, x3, -⟩ := prev_iff.1 h; exact absurd x3 (fun e => hk e.symm)
      rw [p1, p2]
      clear p1 p2
      have k1 : ((bs (keyB A)).toList == (bs (keyB B2)).toList) = false := by rw [bs_list, bs_list]; exact beq_eq_false_iff_ne.2 hk
      have k2 : ¬ (bs (keyB A)).toList = (bs (keyB B2)).toList := by rw [bs_list, bs_list]; exact hk
      rw [hva] at HVa
      rw [hvb] at HVb
      clear hva hvb hk
      generalize bs (keyB A) = KA at *
      generalize bs (keyB B2) = KB at *
      refine wp_region_held_drew (S := (fun v => v.heap[W.heap.size]? = some (factObj A) ∧ v.heap[W.heap.size + 1]? = some (factObj B2) ∧ Below W.heap.size W v)) (by kernel_rfl) (⟨HFb.out, HGb.out, HBb.out.drew⟩) (fun hHeld => ?_)
      have HBd := Lib.hid hHeld.2.2
      generalize wb.drew = wd at *
      refine wpAnyH_take (i := 0) (oi := { dst := some 37, op := Op.load 23 (Operand.tmp 3), type := 23, pos := "law.go:134", after := #[], guard := none }) (v := factV A) rfl (by kernel_rfl) (by kernel_rfl) (by kernel_rfl) (fun _ _ _ h => h) (Or.inl ⟨by rfl, fun wz hSw => sem_load_fact _ rfl (W.heap.size) rfl A (hSw.1)⟩) (by assumption) ?tq20
      simp only [Act.put, List.setIfInBounds_toArray, List.set_cons_zero, List.set_cons_succ]
      refine wpAnyH_ready (rs := [1]) (by kernel_rfl) (by simp) ?_
      refine AllReadyH.cons (o := { dst := some 38, op := Op.call { callee := Callee.value (Operand.func 16), args := #[Operand.tmp 37], argTypes := #[23] }, type := 4, pos := "law.go:134", after := #[{ on := 0, ground := Ground.data }], guard := none }) rfl (fun K hK => ?_) AllReadyH.nil
      have HH := Lib.hid hHeld
      go_simp
      refine (HVa.out wd (HTW.out.below HBd.out)).mono ?_; rintro e wz ⟨rfl, gz⟩
      have hz : wz.heap[W.heap.size]? = some (factObj A) ∧ wz.heap[W.heap.size + 1]? = some (factObj B2) ∧ Below W.heap.size W wz := ⟨box_below HH.out.1 gz, box_below HH.out.2.1 gz, below_step HH.out.2.2 gz⟩
      clear gz HH
      refine hK.out _ _ (hz) (fun hHeld' => ?_)
      clear hK K hHeld
      have hHeld := hHeld'; clear hHeld'
      try simp only [Act.put, List.setIfInBounds_toArray, List.set_cons_zero, List.set_cons_succ]
      refine wpAnyH_take (i := 2) (oi := { dst := some 39, op := Op.unOp UnOp.not 4 (Operand.tmp 38), type := 4, pos := "law.go:134", after := #[{ on := 1, ground := Ground.data }], guard := none }) (v := ?vq22) rfl (by kernel_rfl) (by kernel_rfl) (by kernel_rfl) (fun _ _ _ h => h) (Or.inl ⟨by rfl, ?yq22⟩) (by assumption) ?tq22
      case yq22 => (intro wz hSw; clear hSw; go_simp; try with_reducible rfl)
      simp only [Act.put, List.setIfInBounds_toArray, List.set_cons_zero, List.set_cons_succ]
      refine wpAnyH_take (i := 3) (oi := { dst := some 40, op := Op.move (Operand.tmp 39), type := 4, pos := "law.go:134", after := #[{ on := 2, ground := Ground.data }, { on := 1, ground := Ground.chain }], guard := none }) (v := ?vq23) rfl (by kernel_rfl) (by kernel_rfl) (by kernel_rfl) (fun _ _ _ h => h) (Or.inl ⟨by rfl, ?yq23⟩) (by assumption) ?tq23
      case yq23 => (intro wz hSw; clear hSw; go_simp; try with_reducible rfl)
      simp only [Act.put, List.setIfInBounds_toArray, List.set_cons_zero, List.set_cons_succ]
      refine wpAnyH_take (i := 4) (oi := { dst := some 41, op := Op.load 23 (Operand.tmp 4), type := 23, pos := "law.go:134", after := #[{ on := 3, ground := Ground.guard }], guard := some (3, false) }) (v := factV B2) rfl (by kernel_rfl) (by kernel_rfl) (by kernel_rfl) (fun _ _ _ h => h) (Or.inl ⟨by rfl, fun wz hSw => sem_load_fact _ rfl (W.heap.size + 1) rfl B2 (hSw.2.1)⟩) (by assumption) ?tq24
      simp only [Act.put, List.setIfInBounds_toArray, List.set_cons_zero, List.set_cons_succ]
      refine wpAnyH_ready (rs := [5]) (by kernel_rfl) (by simp) ?_
      refine AllReadyH.cons (o := { dst := some 42, op := Op.call { callee := Callee.value (Operand.func 16), args := #[Operand.tmp 41], argTypes := #[23] }, type := 4, pos := "law.go:134", after := #[{ on := 4, ground := Ground.data }, { on := 3, ground := Ground.chain }, { on := 3, ground := Ground.guard }], guard := some (3, false) }) rfl (fun K hK => ?_) AllReadyH.nil
      have HH := Lib.hid hHeld
      go_simp
      refine (HVb.out _ (HTW.out.below HH.out.2.2)).mono ?_; rintro e wz ⟨rfl, gz⟩
      have hz : wz.heap[W.heap.size]? = some (factObj A) ∧ wz.heap[W.heap.size + 1]? = some (factObj B2) ∧ Below W.heap.size W wz := ⟨box_below HH.out.1 gz, box_below HH.out.2.1 gz, below_step HH.out.2.2 gz⟩
      clear gz HH
      refine hK.out _ _ (hz) (fun hHeld' => ?_)
      clear hK K hHeld
      have hHeld := hHeld'; clear hHeld'
      try simp only [Act.put, List.setIfInBounds_toArray, List.set_cons_zero, List.set_cons_succ]
      refine wpAnyH_take (i := 6) (oi := { dst := some 43, op := Op.unOp UnOp.not 4 (Operand.tmp 42), type := 4, pos := "law.go:134", after := #[{ on := 5, ground := Ground.data }, { on := 3, ground := Ground.guard }], guard := some (3, false) }) (v := ?vq26) rfl (by kernel_rfl) (by kernel_rfl) (by kernel_rfl) (fun _ _ _ h => h) (Or.inl ⟨by rfl, ?yq26⟩) (by assumption) ?tq26
      case yq26 => (intro wz hSw; clear hSw; go_simp; try with_reducible rfl)
      simp only [Act.put, List.setIfInBounds_toArray, List.set_cons_zero, List.set_cons_succ]
      refine wpAnyH_take (i := 7) (oi := { dst := some 44, op := Op.pick (Operand.tmp 40) (Operand.const (Value.bool true)) (Operand.tmp 43), type := 4, pos := "law.go:134", after := #[{ on := 3, ground := Ground.data }, { on := 6, ground := Ground.data }], guard := none }) (v := ?vq27) rfl (by kernel_rfl) (by kernel_rfl) (by kernel_rfl) (fun _ _ _ h => h) (Or.inl ⟨by rfl, ?yq27⟩) (by assumption) ?tq27
      case yq27 => (intro wz hSw; clear hSw; go_simp; try with_reducible rfl)
      simp only [Act.put, List.setIfInBounds_toArray, List.set_cons_zero, List.set_cons_succ]
      refine wpAnyH_take (i := 8) (oi := { dst := some 45, op := Op.move (Operand.tmp 44), type := 4, pos := "law.go:134", after := #[{ on := 7, ground := Ground.data }, { on := 5, ground := Ground.chain }], guard := none }) (v := ?vq28) rfl (by kernel_rfl) (by kernel_rfl) (by kernel_rfl) (fun _ _ _ h => h) (Or.inl ⟨by rfl, ?yq28⟩) (by assumption) ?tq28
      case yq28 => (intro wz hSw; clear hSw; go_simp; try with_reducible rfl)
      simp only [Act.put, List.setIfInBounds_toArray, List.set_cons_zero, List.set_cons_succ]
      refine wpAnyH_take (i := 9) (oi := { dst := some 46, op := Op.load 23 (Operand.tmp 3), type := 23, pos := "law.go:134", after := #[{ on := 8, ground := Ground.guard }], guard := some (8, false) }) (v := factV A) rfl (by kernel_rfl) (by kernel_rfl) (by kernel_rfl) (fun _ _ _ h => h) (Or.inl ⟨by rfl, fun wz hSw => sem_load_fact _ rfl (W.heap.size) rfl A (hSw.1)⟩) (by assumption) ?tq29
      simp only [Act.put, List.setIfInBounds_toArray, List.set_cons_zero, List.set_cons_succ]
      refine wpAnyH_take (i := 11) (oi := { dst := some 48, op := Op.load 23 (Operand.tmp 4), type := 23, pos := "law.go:134", after := #[{ on := 8, ground := Ground.guard }], guard := some (8, false) }) (v := factV B2) rfl (by kernel_rfl) (by kernel_rfl) (by kernel_rfl) (fun _ _ _ h => h) (Or.inl ⟨by rfl, fun wz hSw => sem_load_fact _ rfl (W.heap.size + 1) rfl B2 (hSw.2.1)⟩) (by assumption) ?tq211
      simp only [Act.put, List.setIfInBounds_toArray, List.set_cons_zero, List.set_cons_succ]
      refine wpAnyH_ready (rs := [10]) (by kernel_rfl) (by simp) ?_
      refine AllReadyH.cons (o := { dst := some 47, op := Op.call { callee := Callee.value (Operand.func 18), args := #[Operand.tmp 46], argTypes := #[23] }, type := 9, pos := "law.go:134", after := #[{ on := 9, ground := Ground.data }, { on := 8, ground := Ground.chain }, { on := 8, ground := Ground.guard }], guard := some (8, false) }) rfl (fun K hK => ?_) AllReadyH.nil
      have HH := Lib.hid hHeld
      go_simp
      refine (HKa.out _ (HTW.out.below HH.out.2.2)).mono ?_; rintro e wz ⟨rfl, gz⟩
      have hz : wz.heap[W.heap.size]? = some (factObj A) ∧ wz.heap[W.heap.size + 1]? = some (factObj B2) ∧ Below W.heap.size W wz := ⟨box_below HH.out.1 gz, box_below HH.out.2.1 gz, below_step HH.out.2.2 gz⟩
      clear gz HH
      refine hK.out _ _ (hz) (fun hHeld' => ?_)
      clear hK K hHeld
      have hHeld := hHeld'; clear hHeld'
      try simp only [Act.put, List.setIfInBounds_toArray, List.set_cons_zero, List.set_cons_succ]
      refine wpAnyH_ready (rs := [12]) (by kernel_rfl) (by simp) ?_
      refine AllReadyH.cons (o := { dst := some 49, op := Op.call { callee := Callee.value (Operand.func 18), args := #[Operand.tmp 48], argTypes := #[23] }, type := 9, pos := "law.go:134", after := #[{ on := 11, ground := Ground.data }, { on := 10, ground := Ground.chain }, { on := 8, ground := Ground.guard }], guard := some (8, false) }) rfl (fun K hK => ?_) AllReadyH.nil
      have HH := Lib.hid hHeld
      go_simp
      refine (HKb.out _ (HTW.out.below HH.out.2.2)).mono ?_; rintro e wz ⟨rfl, gz⟩
      have hz : wz.heap[W.heap.size]? = some (factObj A) ∧ wz.heap[W.heap.size + 1]? = some (factObj B2) ∧ Below W.heap.size W wz := ⟨box_below HH.out.1 gz, box_below HH.out.2.1 gz, below_step HH.out.2.2 gz⟩
      clear gz HH
      refine hK.out _ _ (hz) (fun hHeld' => ?_)
      clear hK K hHeld
      have hHeld := hHeld'; clear hHeld'
      try simp only [Act.put, List.setIfInBounds_toArray, List.set_cons_zero, List.set_cons_succ]
      refine wpAnyH_take (i := 13) (oi := { dst := some 50, op := Op.binOp BinOp.neq 9 (Operand.tmp 47) (Operand.tmp 49) 9, type := 4, pos := "law.go:134", after := #[{ on := 10, ground := Ground.data }, { on := 12, ground := Ground.data }, { on := 8, ground := Ground.guard }], guard := some (8, false) }) (v := ?vq213) rfl (by kernel_rfl) (by kernel_rfl) (by kernel_rfl) (fun _ _ _ h => h) (Or.inl ⟨by rfl, ?yq213⟩) (by assumption) ?tq213
      case yq213 => (intro wz hSw; clear hSw; go_simp; try with_reducible rfl)
      simp only [Act.put, List.setIfInBounds_toArray, List.set_cons_zero, List.set_cons_succ]
      refine wpAnyH_take (i := 14) (oi := { dst := some 51, op := Op.pick (Operand.tmp 45) (Operand.const (Value.bool true)) (Operand.tmp 50), type := 4, pos := "law.go:134", after := #[{ on := 8, ground := Ground.data }, { on := 13, ground := Ground.data }], guard := none }) (v := ?vq214) rfl (by kernel_rfl) (by kernel_rfl) (by kernel_rfl) (fun _ _ _ h => h) (Or.inl ⟨by rfl, ?yq214⟩) (by assumption) ?tq214
      case yq214 => (intro wz hSw; clear hSw; go_simp; try with_reducible rfl)
      simp only [Act.put, List.setIfInBounds_toArray, List.set_cons_zero, List.set_cons_succ]
      refine wpAnyH_take (i := 15) (oi := { dst := some 52, op := Op.move (Operand.tmp 51), type := 4, pos := "law.go:134", after := #[{ on := 14, ground := Ground.data }, { on := 12, ground := Ground.chain }], guard := none }) (v := ?vq215) rfl (by kernel_rfl) (by kernel_rfl) (by kernel_rfl) (fun _ _ _ h => h) (Or.inl ⟨by rfl, ?yq215⟩) (by assumption) ?tq215
      case yq215 => (intro wz hSw; clear hSw; go_simp; try with_reducible rfl)
      simp only [Act.put, List.setIfInBounds_toArray, List.set_cons_zero, List.set_cons_succ]
      refine wpAnyH_take (i := 16) (oi := { dst := some 53, op := Op.load 23 (Operand.tmp 3), type := 23, pos := "law.go:134", after := #[{ on := 15, ground := Ground.guard }], guard := some (15, false) }) (v := undef) rfl (by kernel_rfl) (by kernel_rfl) (by kernel_rfl) (fun _ _ _ h => h) (Or.inr ⟨by rfl, rfl⟩) (by assumption) ?_
      simp only [Act.put, List.setIfInBounds_toArray, List.set_cons_zero, List.set_cons_succ]
      refine wpAnyH_take (i := 17) (oi := { dst := some 54, op := Op.load 23 (Operand.tmp 4), type := 23, pos := "law.go:134", after := #[{ on := 15, ground := Ground.guard }], guard := some (15, false) }) (v := undef) rfl (by kernel_rfl) (by kernel_rfl) (by kernel_rfl) (fun _ _ _ h => h) (Or.inr ⟨by rfl, rfl⟩) (by assumption) ?_
      simp only [Act.put, List.setIfInBounds_toArray, List.set_cons_zero, List.set_cons_succ]
      refine wpAnyH_take (i := 18) (oi := { dst := some 55, op := Op.binOp BinOp.eql 23 (Operand.tmp 53) (Operand.tmp 54) 23, type := 4, pos := "law.go:134", after := #[{ on := 16, ground := Ground.data }, { on := 17, ground := Ground.data }, { on := 15, ground := Ground.guard }], guard := some (15, false) }) (v := undef) rfl (by kernel_rfl) (by kernel_rfl) (by kernel_rfl) (fun _ _ _ h => h) (Or.inr ⟨by rfl, rfl⟩) (by assumption) ?_
      simp only [Act.put, List.setIfInBounds_toArray, List.set_cons_zero, List.set_cons_succ]
      refine wpAnyH_take (i := 19) (oi := { dst := some 56, op := Op.pick (Operand.tmp 52) (Operand.const (Value.bool true)) (Operand.tmp 55), type := 4, pos := "law.go:134", after := #[{ on := 15, ground := Ground.data }, { on := 18, ground := Ground.data }], guard := none }) (v := ?vq219) rfl (by kernel_rfl) (by kernel_rfl) (by kernel_rfl) (fun _ _ _ h => h) (Or.inl ⟨by rfl, ?yq219⟩) (by assumption) ?tq219
      case yq219 => (intro wz hSw; clear hSw; go_simp; try with_reducible rfl)
      simp only [Act.put, List.setIfInBounds_toArray, List.set_cons_zero, List.set_cons_succ]
      refine wpAnyH_done (by kernel_rfl) ?_ _
      have HFin := Lib.hid hHeld
      go_wp2_with fail
      go_ret
      exact ⟨rfl, HFin.out.2.2⟩
    by_cases he : A = B2
    case pos =>
      subst he
      rw [prev_irrefl]
      have hEq := fun V => run_factEq A A V
      rw [decide_eq_true (rfl : A = A)] at hEq
      have hGu := run_factGuard
      rw [hva] at HVa
      rw [hvb] at HVb
      clear hva hvb hk
      generalize bs (keyB A) = KA at *
      refine wp_region_held_drew (S := (fun v => v.heap[W.heap.size]? = some (factObj A) ∧ v.heap[W.heap.size + 1]? = some (factObj A) ∧ Below W.heap.size W v)) (by kernel_rfl) (⟨HFb.out, HGb.out, HBb.out.drew⟩) (fun hHeld => ?_)
      have HBd := Lib.hid hHeld.2.2
      generalize wb.drew = wd at *
      refine wpAnyH_take (i := 0) (oi := { dst := some 37, op := Op.load 23 (Operand.tmp 3), type := 23, pos := "law.go:134", after := #[], guard := none }) (v := factV A) rfl (by kernel_rfl) (by kernel_rfl) (by kernel_rfl) (fun _ _ _ h => h) (Or.inl ⟨by rfl, fun wz hSw => sem_load_fact _ rfl (W.heap.size) rfl A (hSw.1)⟩) (by assumption) ?tq30
      simp only [Act.put, List.setIfInBounds_toArray, List.set_cons_zero, List.set_cons_succ]
      refine wpAnyH_ready (rs := [1]) (by kernel_rfl) (by simp) ?_
      refine AllReadyH.cons (o := { dst := some 38, op := Op.call { callee := Callee.value (Operand.func 16), args := #[Operand.tmp 37], argTypes := #[23] }, type := 4, pos := "law.go:134", after := #[{ on := 0, ground := Ground.data }], guard := none }) rfl (fun K hK => ?_) AllReadyH.nil
      have HH := Lib.hid hHeld
      go_simp
      refine (HVa.out wd (HTW.out.below HBd.out)).mono ?_; rintro e wz ⟨rfl, gz⟩
      have hz : wz.heap[W.heap.size]? = some (factObj A) ∧ wz.heap[W.heap.size + 1]? = some (factObj A) ∧ Below W.heap.size W wz := ⟨box_below HH.out.1 gz, box_below HH.out.2.1 gz, below_step HH.out.2.2 gz⟩
      clear gz HH
      refine hK.out _ _ (hz) (fun hHeld' => ?_)
      clear hK K hHeld
      have hHeld := hHeld'; clear hHeld'
      try simp only [Act.put, List.setIfInBounds_toArray, List.set_cons_zero, List.set_cons_succ]
      refine wpAnyH_take (i := 2) (oi := { dst := some 39, op := Op.unOp UnOp.not 4 (Operand.tmp 38), type := 4, pos := "law.go:134", after := #[{ on := 1, ground := Ground.data }], guard := none }) (v := ?vq32) rfl (by kernel_rfl) (by kernel_rfl) (by kernel_rfl) (fun _ _ _ h => h) (Or.inl ⟨by rfl, ?yq32⟩) (by assumption) ?tq32
      case yq32 => (intro wz hSw; clear hSw; go_simp; try with_reducible rfl)
      simp only [Act.put, List.setIfInBounds_toArray, List.set_cons_zero, List.set_cons_succ]
      refine wpAnyH_take (i := 3) (oi := { dst := some 40, op := Op.move (Operand.tmp 39), type := 4, pos := "law.go:134", after := #[{ on := 2, ground := Ground.data }, { on := 1, ground := Ground.chain }], guard := none }) (v := ?vq33) rfl (by kernel_rfl) (by kernel_rfl) (by kernel_rfl) (fun _ _ _ h => h) (Or.inl ⟨by rfl, ?yq33⟩) (by assumption) ?tq33
      case yq33 => (intro wz hSw; clear hSw; go_simp; try with_reducible rfl)
      simp only [Act.put, List.setIfInBounds_toArray, List.set_cons_zero, List.set_cons_succ]
      refine wpAnyH_take (i := 4) (oi := { dst := some 41, op := Op.load 23 (Operand.tmp 4), type := 23, pos := "law.go:134", after := #[{ on := 3, ground := Ground.guard }], guard := some (3, false) }) (v := factV A) rfl (by kernel_rfl) (by kernel_rfl) (by kernel_rfl) (fun _ _ _ h => h) (Or.inl ⟨by rfl, fun wz hSw => sem_load_fact _ rfl (W.heap.size + 1) rfl A (hSw.2.1)⟩) (by assumption) ?tq34
      simp only [Act.put, List.setIfInBounds_toArray, List.set_cons_zero, List.set_cons_succ]
      refine wpAnyH_ready (rs := [5]) (by kernel_rfl) (by simp) ?_
      refine AllReadyH.cons (o := { dst := some 42, op := Op.call { callee := Callee.value (Operand.func 16), args := #[Operand.tmp 41], argTypes := #[23] }, type := 4, pos := "law.go:134", after := #[{ on := 4, ground := Ground.data }, { on := 3, ground := Ground.chain }, { on := 3, ground := Ground.guard }], guard := some (3, false) }) rfl (fun K hK => ?_) AllReadyH.nil
      have HH := Lib.hid hHeld
      go_simp
      refine (HVb.out _ (HTW.out.below HH.out.2.2)).mono ?_; rintro e wz ⟨rfl, gz⟩
      have hz : wz.heap[W.heap.size]? = some (factObj A) ∧ wz.heap[W.heap.size + 1]? = some (factObj A) ∧ Below W.heap.size W wz := ⟨box_below HH.out.1 gz, box_below HH.out.2.1 gz, below_step HH.out.2.2 gz⟩
      clear gz HH
      refine hK.out _ _ (hz) (fun hHeld' => ?_)
      clear hK K hHeld
      have hHeld := hHeld'; clear hHeld'
      try simp only [Act.put, List.setIfInBounds_toArray, List.set_cons_zero, List.set_cons_succ]
      refine wpAnyH_take (i := 6) (oi := { dst := some 43, op := Op.unOp UnOp.not 4 (Operand.tmp 42), type := 4, pos := "law.go:134", after := #[{ on := 5, ground := Ground.data }, { on := 3, ground := Ground.guard }], guard := some (3, false) }) (v := ?vq36) rfl (by kernel_rfl) (by kernel_rfl) (by kernel_rfl) (fun _ _ _ h => h) (Or.inl ⟨by rfl, ?yq36⟩) (by assumption) ?tq36
      case yq36 => (intro wz hSw; clear hSw; go_simp; try with_reducible rfl)
      simp only [Act.put, List.setIfInBounds_toArray, List.set_cons_zero, List.set_cons_succ]
      refine wpAnyH_take (i := 7) (oi := { dst := some 44, op := Op.pick (Operand.tmp 40) (Operand.const (Value.bool true)) (Operand.tmp 43), type := 4, pos := "law.go:134", after := #[{ on := 3, ground := Ground.data }, { on := 6, ground := Ground.data }], guard := none }) (v := ?vq37) rfl (by kernel_rfl) (by kernel_rfl) (by kernel_rfl) (fun _ _ _ h => h) (Or.inl ⟨by rfl, ?yq37⟩) (by assumption) ?tq37
      case yq37 => (intro wz hSw; clear hSw; go_simp; try with_reducible rfl)
      simp only [Act.put, List.setIfInBounds_toArray, List.set_cons_zero, List.set_cons_succ]
      refine wpAnyH_take (i := 8) (oi := { dst := some 45, op := Op.move (Operand.tmp 44), type := 4, pos := "law.go:134", after := #[{ on := 7, ground := Ground.data }, { on := 5, ground := Ground.chain }], guard := none }) (v := ?vq38) rfl (by kernel_rfl) (by kernel_rfl) (by kernel_rfl) (fun _ _ _ h => h) (Or.inl ⟨by rfl, ?yq38⟩) (by assumption) ?tq38
      case yq38 => (intro wz hSw; clear hSw; go_simp; try with_reducible rfl)
      simp only [Act.put, List.setIfInBounds_toArray, List.set_cons_zero, List.set_cons_succ]
      refine wpAnyH_take (i := 9) (oi := { dst := some 46, op := Op.load 23 (Operand.tmp 3), type := 23, pos := "law.go:134", after := #[{ on := 8, ground := Ground.guard }], guard := some (8, false) }) (v := factV A) rfl (by kernel_rfl) (by kernel_rfl) (by kernel_rfl) (fun _ _ _ h => h) (Or.inl ⟨by rfl, fun wz hSw => sem_load_fact _ rfl (W.heap.size) rfl A (hSw.1)⟩) (by assumption) ?tq39
      simp only [Act.put, List.setIfInBounds_toArray, List.set_cons_zero, List.set_cons_succ]
      refine wpAnyH_take (i := 11) (oi := { dst := some 48, op := Op.load 23 (Operand.tmp 4), type := 23, pos := "law.go:134", after := #[{ on := 8, ground := Ground.guard }], guard := some (8, false) }) (v := factV A) rfl (by kernel_rfl) (by kernel_rfl) (by kernel_rfl) (fun _ _ _ h => h) (Or.inl ⟨by rfl, fun wz hSw => sem_load_fact _ rfl (W.heap.size + 1) rfl A (hSw.2.1)⟩) (by assumption) ?tq311
      simp only [Act.put, List.setIfInBounds_toArray, List.set_cons_zero, List.set_cons_succ]
      refine wpAnyH_ready (rs := [10]) (by kernel_rfl) (by simp) ?_
      refine AllReadyH.cons (o := { dst := some 47, op := Op.call { callee := Callee.value (Operand.func 18), args := #[Operand.tmp 46], argTypes := #[23] }, type := 9, pos := "law.go:134", after := #[{ on := 9, ground := Ground.data }, { on := 8, ground := Ground.chain }, { on := 8, ground := Ground.guard }], guard := some (8, false) }) rfl (fun K hK => ?_) AllReadyH.nil
      have HH := Lib.hid hHeld
      go_simp
      refine (HKa.out _ (HTW.out.below HH.out.2.2)).mono ?_; rintro e wz ⟨rfl, gz⟩
      have hz : wz.heap[W.heap.size]? = some (factObj A) ∧ wz.heap[W.heap.size + 1]? = some (factObj A) ∧ Below W.heap.size W wz := ⟨box_below HH.out.1 gz, box_below HH.out.2.1 gz, below_step HH.out.2.2 gz⟩
      clear gz HH
      refine hK.out _ _ (hz) (fun hHeld' => ?_)
      clear hK K hHeld
      have hHeld := hHeld'; clear hHeld'
      try simp only [Act.put, List.setIfInBounds_toArray, List.set_cons_zero, List.set_cons_succ]
      refine wpAnyH_ready (rs := [12]) (by kernel_rfl) (by simp) ?_
      refine AllReadyH.cons (o := { dst := some 49, op := Op.call { callee := Callee.value (Operand.func 18), args := #[Operand.tmp 48], argTypes := #[23] }, type := 9, pos := "law.go:134", after := #[{ on := 11, ground := Ground.data }, { on := 10, ground := Ground.chain }, { on := 8, ground := Ground.guard }], guard := some (8, false) }) rfl (fun K hK => ?_) AllReadyH.nil
      have HH := Lib.hid hHeld
      go_simp
      refine (HKb.out _ (HTW.out.below HH.out.2.2)).mono ?_; rintro e wz ⟨rfl, gz⟩
      have hz : wz.heap[W.heap.size]? = some (factObj A) ∧ wz.heap[W.heap.size + 1]? = some (factObj A) ∧ Below W.heap.size W wz := ⟨box_below HH.out.1 gz, box_below HH.out.2.1 gz, below_step HH.out.2.2 gz⟩
      clear gz HH
      refine hK.out _ _ (hz) (fun hHeld' => ?_)
      clear hK K hHeld
      have hHeld := hHeld'; clear hHeld'
      try simp only [Act.put, List.setIfInBounds_toArray, List.set_cons_zero, List.set_cons_succ]
      refine wpAnyH_take (i := 13) (oi := { dst := some 50, op := Op.binOp BinOp.neq 9 (Operand.tmp 47) (Operand.tmp 49) 9, type := 4, pos := "law.go:134", after := #[{ on := 10, ground := Ground.data }, { on := 12, ground := Ground.data }, { on := 8, ground := Ground.guard }], guard := some (8, false) }) (v := ?vq313) rfl (by kernel_rfl) (by kernel_rfl) (by kernel_rfl) (fun _ _ _ h => h) (Or.inl ⟨by rfl, ?yq313⟩) (by assumption) ?tq313
      case yq313 => (intro wz hSw; clear hSw; go_simp; try with_reducible rfl)
      simp only [Act.put, List.setIfInBounds_toArray, List.set_cons_zero, List.set_cons_succ]
      refine wpAnyH_take (i := 14) (oi := { dst := some 51, op := Op.pick (Operand.tmp 45) (Operand.const (Value.bool true)) (Operand.tmp 50), type := 4, pos := "law.go:134", after := #[{ on := 8, ground := Ground.data }, { on := 13, ground := Ground.data }], guard := none }) (v := ?vq314) rfl (by kernel_rfl) (by kernel_rfl) (by kernel_rfl) (fun _ _ _ h => h) (Or.inl ⟨by rfl, ?yq314⟩) (by assumption) ?tq314
      case yq314 => (intro wz hSw; clear hSw; go_simp; try with_reducible rfl)
      simp only [Act.put, List.setIfInBounds_toArray, List.set_cons_zero, List.set_cons_succ]
      refine wpAnyH_take (i := 15) (oi := { dst := some 52, op := Op.move (Operand.tmp 51), type := 4, pos := "law.go:134", after := #[{ on := 14, ground := Ground.data }, { on := 12, ground := Ground.chain }], guard := none }) (v := ?vq315) rfl (by kernel_rfl) (by kernel_rfl) (by kernel_rfl) (fun _ _ _ h => h) (Or.inl ⟨by rfl, ?yq315⟩) (by assumption) ?tq315
      case yq315 => (intro wz hSw; clear hSw; go_simp; try with_reducible rfl)
      simp only [Act.put, List.setIfInBounds_toArray, List.set_cons_zero, List.set_cons_succ]
      refine wpAnyH_take (i := 16) (oi := { dst := some 53, op := Op.load 23 (Operand.tmp 3), type := 23, pos := "law.go:134", after := #[{ on := 15, ground := Ground.guard }], guard := some (15, false) }) (v := factV A) rfl (by kernel_rfl) (by kernel_rfl) (by kernel_rfl) (fun _ _ _ h => h) (Or.inl ⟨by rfl, fun wz hSw => sem_load_fact _ rfl (W.heap.size) rfl A (hSw.1)⟩) (by assumption) ?tq316
      simp only [Act.put, List.setIfInBounds_toArray, List.set_cons_zero, List.set_cons_succ]
      refine wpAnyH_take (i := 17) (oi := { dst := some 54, op := Op.load 23 (Operand.tmp 4), type := 23, pos := "law.go:134", after := #[{ on := 15, ground := Ground.guard }], guard := some (15, false) }) (v := factV A) rfl (by kernel_rfl) (by kernel_rfl) (by kernel_rfl) (fun _ _ _ h => h) (Or.inl ⟨by rfl, fun wz hSw => sem_load_fact _ rfl (W.heap.size + 1) rfl A (hSw.2.1)⟩) (by assumption) ?tq317
      simp only [Act.put, List.setIfInBounds_toArray, List.set_cons_zero, List.set_cons_succ]
      refine wpAnyH_take (i := 18) (oi := { dst := some 55, op := Op.binOp BinOp.eql 23 (Operand.tmp 53) (Operand.tmp 54) 23, type := 4, pos := "law.go:134", after := #[{ on := 16, ground := Ground.data }, { on := 17, ground := Ground.data }, { on := 15, ground := Ground.guard }], guard := some (15, false) }) (v := ?vq318) rfl (by kernel_rfl) (by kernel_rfl) (by kernel_rfl) (fun _ _ _ h => h) (Or.inl ⟨by rfl, ?yq318⟩) (by assumption) ?tq318
      case yq318 => (intro wz hSw; clear hSw; go_simp; try with_reducible rfl)
      simp only [Act.put, List.setIfInBounds_toArray, List.set_cons_zero, List.set_cons_succ]
      refine wpAnyH_take (i := 19) (oi := { dst := some 56, op := Op.pick (Operand.tmp 52) (Operand.const (Value.bool true)) (Operand.tmp 55), type := 4, pos := "law.go:134", after := #[{ on := 15, ground := Ground.data }, { on := 18, ground := Ground.data }], guard := none }) (v := ?vq319) rfl (by kernel_rfl) (by kernel_rfl) (by kernel_rfl) (fun _ _ _ h => h) (Or.inl ⟨by rfl, ?yq319⟩) (by assumption) ?tq319
      case yq319 => (intro wz hSw; clear hSw; go_simp; try with_reducible rfl)
      simp only [Act.put, List.setIfInBounds_toArray, List.set_cons_zero, List.set_cons_succ]
      refine wpAnyH_done (by kernel_rfl) ?_ _
      have HFin := Lib.hid hHeld
      go_wp2_with fail
      go_ret
      exact ⟨rfl, HFin.out.2.2⟩
    have hone := prev_one hva hvb hk he
    have hver : A.v ≠ B2.v → prevB A B2 = decide (A.v > B2.v) := by
      intro hne; unfold prevB; rw [if_neg (by intro h; rcases h with h | h; exact key_ne hva h; exact h hk), if_pos hne]
    have hEq := fun V => run_factEq A B2 V
    rw [decide_eq_false he] at hEq
    have hGu := run_factGuard
    rw [hva] at HVa
    rw [hvb] at HVb
    rw [← hk] at HKb
    have HOne := Lib.hid hone
    have HVer := Lib.hid hver
    clear hva hvb hk he hone hver
    generalize bs (keyB A) = KA at *
    generalize prevB A B2 = P1 at *
    generalize prevB B2 A = P2 at *
    refine wp_region_held_drew (S := (fun v => v.heap[W.heap.size]? = some (factObj A) ∧ v.heap[W.heap.size + 1]? = some (factObj B2) ∧ Below W.heap.size W v)) (by kernel_rfl) (⟨HFb.out, HGb.out, HBb.out.drew⟩) (fun hHeld => ?_)
    have HBd := Lib.hid hHeld.2.2
    generalize wb.drew = wd at *
    refine wpAnyH_take (i := 0) (oi := { dst := some 37, op := Op.load 23 (Operand.tmp 3), type := 23, pos := "law.go:134", after := #[], guard := none }) (v := factV A) rfl (by kernel_rfl) (by kernel_rfl) (by kernel_rfl) (fun _ _ _ h => h) (Or.inl ⟨by rfl, fun wz hSw => sem_load_fact _ rfl (W.heap.size) rfl A (hSw.1)⟩) (by assumption) ?tq40
    simp only [Act.put, List.setIfInBounds_toArray, List.set_cons_zero, List.set_cons_succ]
    refine wpAnyH_ready (rs := [1]) (by kernel_rfl) (by simp) ?_
    refine AllReadyH.cons (o := { dst := some 38, op := Op.call { callee := Callee.value (Operand.func 16), args := #[Operand.tmp 37], argTypes := #[23] }, type := 4, pos := "law.go:134", after := #[{ on := 0, ground := Ground.data }], guard := none }) rfl (fun K hK => ?_) AllReadyH.nil
    have HH := Lib.hid hHeld
    go_simp
    refine (HVa.out wd (HTW.out.below HBd.out)).mono ?_; rintro e wz ⟨rfl, gz⟩
    have hz : wz.heap[W.heap.size]? = some (factObj A) ∧ wz.heap[W.heap.size + 1]? = some (factObj B2) ∧ Below W.heap.size W wz := ⟨box_below HH.out.1 gz, box_below HH.out.2.1 gz, below_step HH.out.2.2 gz⟩
    clear gz HH
    refine hK.out _ _ (hz) (fun hHeld' => ?_)
    clear hK K hHeld
    have hHeld := hHeld'; clear hHeld'
    try simp only [Act.put, List.setIfInBounds_toArray, List.set_cons_zero, List.set_cons_succ]
    refine wpAnyH_take (i := 2) (oi := { dst := some 39, op := Op.unOp UnOp.not 4 (Operand.tmp 38), type := 4, pos := "law.go:134", after := #[{ on := 1, ground := Ground.data }], guard := none }) (v := ?vq42) rfl (by kernel_rfl) (by kernel_rfl) (by kernel_rfl) (fun _ _ _ h => h) (Or.inl ⟨by rfl, ?yq42⟩) (by assumption) ?tq42
    case yq42 => (intro wz hSw; clear hSw; go_simp; try with_reducible rfl)
    simp only [Act.put, List.setIfInBounds_toArray, List.set_cons_zero, List.set_cons_succ]
    refine wpAnyH_take (i := 3) (oi := { dst := some 40, op := Op.move (Operand.tmp 39), type := 4, pos := "law.go:134", after := #[{ on := 2, ground := Ground.data }, { on := 1, ground := Ground.chain }], guard := none }) (v := ?vq43) rfl (by kernel_rfl) (by kernel_rfl) (by kernel_rfl) (fun _ _ _ h => h) (Or.inl ⟨by rfl, ?yq43⟩) (by assumption) ?tq43
    case yq43 => (intro wz hSw; clear hSw; go_simp; try with_reducible rfl)
    simp only [Act.put, List.setIfInBounds_toArray, List.set_cons_zero, List.set_cons_succ]
    refine wpAnyH_take (i := 4) (oi := { dst := some 41, op := Op.load 23 (Operand.tmp 4), type := 23, pos := "law.go:134", after := #[{ on := 3, ground := Ground.guard }], guard := some (3, false) }) (v := factV B2) rfl (by kernel_rfl) (by kernel_rfl) (by kernel_rfl) (fun _ _ _ h => h) (Or.inl ⟨by rfl, fun wz hSw => sem_load_fact _ rfl (W.heap.size + 1) rfl B2 (hSw.2.1)⟩) (by assumption) ?tq44
    simp only [Act.put, List.setIfInBounds_toArray, List.set_cons_zero, List.set_cons_succ]
    refine wpAnyH_ready (rs := [5]) (by kernel_rfl) (by simp) ?_
    refine AllReadyH.cons (o := { dst := some 42, op := Op.call { callee := Callee.value (Operand.func 16), args := #[Operand.tmp 41], argTypes := #[23] }, type := 4, pos := "law.go:134", after := #[{ on := 4, ground := Ground.data }, { on := 3, ground := Ground.chain }, { on := 3, ground := Ground.guard }], guard := some (3, false) }) rfl (fun K hK => ?_) AllReadyH.nil
    have HH := Lib.hid hHeld
    go_simp
    refine (HVb.out _ (HTW.out.below HH.out.2.2)).mono ?_; rintro e wz ⟨rfl, gz⟩
    have hz : wz.heap[W.heap.size]? = some (factObj A) ∧ wz.heap[W.heap.size + 1]? = some (factObj B2) ∧ Below W.heap.size W wz := ⟨box_below HH.out.1 gz, box_below HH.out.2.1 gz, below_step HH.out.2.2 gz⟩
    clear gz HH
    refine hK.out _ _ (hz) (fun hHeld' => ?_)
    clear hK K hHeld
    have hHeld := hHeld'; clear hHeld'
    try simp only [Act.put, List.setIfInBounds_toArray, List.set_cons_zero, List.set_cons_succ]
    refine wpAnyH_take (i := 6) (oi := { dst := some 43, op := Op.unOp UnOp.not 4 (Operand.tmp 42), type := 4, pos := "law.go:134", after := #[{ on := 5, ground := Ground.data }, { on := 3, ground := Ground.guard }], guard := some (3, false) }) (v := ?vq46) rfl (by kernel_rfl) (by kernel_rfl) (by kernel_rfl) (fun _ _ _ h => h) (Or.inl ⟨by rfl, ?yq46⟩) (by assumption) ?tq46
    case yq46 => (intro wz hSw; clear hSw; go_simp; try with_reducible rfl)
    simp only [Act.put, List.setIfInBounds_toArray, List.set_cons_zero, List.set_cons_succ]
    refine wpAnyH_take (i := 7) (oi := { dst := some 44, op := Op.pick (Operand.tmp 40) (Operand.const (Value.bool true)) (Operand.tmp 43), type := 4, pos := "law.go:134", after := #[{ on := 3, ground := Ground.data }, { on := 6, ground := Ground.data }], guard := none }) (v := ?vq47) rfl (by kernel_rfl) (by kernel_rfl) (by kernel_rfl) (fun _ _ _ h => h) (Or.inl ⟨by rfl, ?yq47⟩) (by assumption) ?tq47
    case yq47 => (intro wz hSw; clear hSw; go_simp; try with_reducible rfl)
    simp only [Act.put, List.setIfInBounds_toArray, List.set_cons_zero, List.set_cons_succ]
    refine wpAnyH_take (i := 8) (oi := { dst := some 45, op := Op.move (Operand.tmp 44), type := 4, pos := "law.go:134", after := #[{ on := 7, ground := Ground.data }, { on := 5, ground := Ground.chain }], guard := none }) (v := ?vq48) rfl (by kernel_rfl) (by kernel_rfl) (by kernel_rfl) (fun _ _ _ h => h) (Or.inl ⟨by rfl, ?yq48⟩) (by assumption) ?tq48
    case yq48 => (intro wz hSw; clear hSw; go_simp; try with_reducible rfl)
    simp only [Act.put, List.setIfInBounds_toArray, List.set_cons_zero, List.set_cons_succ]
    refine wpAnyH_take (i := 9) (oi := { dst := some 46, op := Op.load 23 (Operand.tmp 3), type := 23, pos := "law.go:134", after := #[{ on := 8, ground := Ground.guard }], guard := some (8, false) }) (v := factV A) rfl (by kernel_rfl) (by kernel_rfl) (by kernel_rfl) (fun _ _ _ h => h) (Or.inl ⟨by rfl, fun wz hSw => sem_load_fact _ rfl (W.heap.size) rfl A (hSw.1)⟩) (by assumption) ?tq49
    simp only [Act.put, List.setIfInBounds_toArray, List.set_cons_zero, List.set_cons_succ]
    refine wpAnyH_take (i := 11) (oi := { dst := some 48, op := Op.load 23 (Operand.tmp 4), type := 23, pos := "law.go:134", after := #[{ on := 8, ground := Ground.guard }], guard := some (8, false) }) (v := factV B2) rfl (by kernel_rfl) (by kernel_rfl) (by kernel_rfl) (fun _ _ _ h => h) (Or.inl ⟨by rfl, fun wz hSw => sem_load_fact _ rfl (W.heap.size + 1) rfl B2 (hSw.2.1)⟩) (by assumption) ?tq411
    simp only [Act.put, List.setIfInBounds_toArray, List.set_cons_zero, List.set_cons_succ]
    refine wpAnyH_ready (rs := [10]) (by kernel_rfl) (by simp) ?_
    refine AllReadyH.cons (o := { dst := some 47, op := Op.call { callee := Callee.value (Operand.func 18), args := #[Operand.tmp 46], argTypes := #[23] }, type := 9, pos := "law.go:134", after := #[{ on := 9, ground := Ground.data }, { on := 8, ground := Ground.chain }, { on := 8, ground := Ground.guard }], guard := some (8, false) }) rfl (fun K hK => ?_) AllReadyH.nil
    have HH := Lib.hid hHeld
    go_simp
    refine (HKa.out _ (HTW.out.below HH.out.2.2)).mono ?_; rintro e wz ⟨rfl, gz⟩
    have hz : wz.heap[W.heap.size]? = some (factObj A) ∧ wz.heap[W.heap.size + 1]? = some (factObj B2) ∧ Below W.heap.size W wz := ⟨box_below HH.out.1 gz, box_below HH.out.2.1 gz, below_step HH.out.2.2 gz⟩
    clear gz HH
    refine hK.out _ _ (hz) (fun hHeld' => ?_)
    clear hK K hHeld
    have hHeld := hHeld'; clear hHeld'
    try simp only [Act.put, List.setIfInBounds_toArray, List.set_cons_zero, List.set_cons_succ]
    refine wpAnyH_ready (rs := [12]) (by kernel_rfl) (by simp) ?_
    refine AllReadyH.cons (o := { dst := some 49, op := Op.call { callee := Callee.value (Operand.func 18), args := #[Operand.tmp 48], argTypes := #[23] }, type := 9, pos := "law.go:134", after := #[{ on := 11, ground := Ground.data }, { on := 10, ground := Ground.chain }, { on := 8, ground := Ground.guard }], guard := some (8, false) }) rfl (fun K hK => ?_) AllReadyH.nil
    have HH := Lib.hid hHeld
    go_simp
    refine (HKb.out _ (HTW.out.below HH.out.2.2)).mono ?_; rintro e wz ⟨rfl, gz⟩
    have hz : wz.heap[W.heap.size]? = some (factObj A) ∧ wz.heap[W.heap.size + 1]? = some (factObj B2) ∧ Below W.heap.size W wz := ⟨box_below HH.out.1 gz, box_below HH.out.2.1 gz, below_step HH.out.2.2 gz⟩
    clear gz HH
    refine hK.out _ _ (hz) (fun hHeld' => ?_)
    clear hK K hHeld
    have hHeld := hHeld'; clear hHeld'
    try simp only [Act.put, List.setIfInBounds_toArray, List.set_cons_zero, List.set_cons_succ]
    refine wpAnyH_take (i := 13) (oi := { dst := some 50, op := Op.binOp BinOp.neq 9 (Operand.tmp 47) (Operand.tmp 49) 9, type := 4, pos := "law.go:134", after := #[{ on := 10, ground := Ground.data }, { on := 12, ground := Ground.data }, { on := 8, ground := Ground.guard }], guard := some (8, false) }) (v := ?vq413) rfl (by kernel_rfl) (by kernel_rfl) (by kernel_rfl) (fun _ _ _ h => h) (Or.inl ⟨by rfl, ?yq413⟩) (by assumption) ?tq413
    case yq413 => (intro wz hSw; clear hSw; go_simp; try with_reducible rfl)
    simp only [Act.put, List.setIfInBounds_toArray, List.set_cons_zero, List.set_cons_succ]
    refine wpAnyH_take (i := 14) (oi := { dst := some 51, op := Op.pick (Operand.tmp 45) (Operand.const (Value.bool true)) (Operand.tmp 50), type := 4, pos := "law.go:134", after := #[{ on := 8, ground := Ground.data }, { on := 13, ground := Ground.data }], guard := none }) (v := ?vq414) rfl (by kernel_rfl) (by kernel_rfl) (by kernel_rfl) (fun _ _ _ h => h) (Or.inl ⟨by rfl, ?yq414⟩) (by assumption) ?tq414
    case yq414 => (intro wz hSw; clear hSw; go_simp; try with_reducible rfl)
    simp only [Act.put, List.setIfInBounds_toArray, List.set_cons_zero, List.set_cons_succ]
    refine wpAnyH_take (i := 15) (oi := { dst := some 52, op := Op.move (Operand.tmp 51), type := 4, pos := "law.go:134", after := #[{ on := 14, ground := Ground.data }, { on := 12, ground := Ground.chain }], guard := none }) (v := ?vq415) rfl (by kernel_rfl) (by kernel_rfl) (by kernel_rfl) (fun _ _ _ h => h) (Or.inl ⟨by rfl, ?yq415⟩) (by assumption) ?tq415
    case yq415 => (intro wz hSw; clear hSw; go_simp; try with_reducible rfl)
    simp only [Act.put, List.setIfInBounds_toArray, List.set_cons_zero, List.set_cons_succ]
    refine wpAnyH_take (i := 16) (oi := { dst := some 53, op := Op.load 23 (Operand.tmp 3), type := 23, pos := "law.go:134", after := #[{ on := 15, ground := Ground.guard }], guard := some (15, false) }) (v := factV A) rfl (by kernel_rfl) (by kernel_rfl) (by kernel_rfl) (fun _ _ _ h => h) (Or.inl ⟨by rfl, fun wz hSw => sem_load_fact _ rfl (W.heap.size) rfl A (hSw.1)⟩) (by assumption) ?tq416
    simp only [Act.put, List.setIfInBounds_toArray, List.set_cons_zero, List.set_cons_succ]
    refine wpAnyH_take (i := 17) (oi := { dst := some 54, op := Op.load 23 (Operand.tmp 4), type := 23, pos := "law.go:134", after := #[{ on := 15, ground := Ground.guard }], guard := some (15, false) }) (v := factV B2) rfl (by kernel_rfl) (by kernel_rfl) (by kernel_rfl) (fun _ _ _ h => h) (Or.inl ⟨by rfl, fun wz hSw => sem_load_fact _ rfl (W.heap.size + 1) rfl B2 (hSw.2.1)⟩) (by assumption) ?tq417
    simp only [Act.put, List.setIfInBounds_toArray, List.set_cons_zero, List.set_cons_succ]
    refine wpAnyH_take (i := 18) (oi := { dst := some 55, op := Op.binOp BinOp.eql 23 (Operand.tmp 53) (Operand.tmp 54) 23, type := 4, pos := "law.go:134", after := #[{ on := 16, ground := Ground.data }, { on := 17, ground := Ground.data }, { on := 15, ground := Ground.guard }], guard := some (15, false) }) (v := ?vq418) rfl (by kernel_rfl) (by kernel_rfl) (by kernel_rfl) (fun _ _ _ h => h) (Or.inl ⟨by rfl, ?yq418⟩) (by assumption) ?tq418
    case yq418 => (intro wz hSw; clear hSw; go_simp; try with_reducible rfl)
    simp only [Act.put, List.setIfInBounds_toArray, List.set_cons_zero, List.set_cons_succ]
    refine wpAnyH_take (i := 19) (oi := { dst := some 56, op := Op.pick (Operand.tmp 52) (Operand.const (Value.bool true)) (Operand.tmp 55), type := 4, pos := "law.go:134", after := #[{ on := 15, ground := Ground.data }, { on := 18, ground := Ground.data }], guard := none }) (v := ?vq419) rfl (by kernel_rfl) (by kernel_rfl) (by kernel_rfl) (fun _ _ _ h => h) (Or.inl ⟨by rfl, ?yq419⟩) (by assumption) ?tq419
    case yq419 => (intro wz hSw; clear hSw; go_simp; try with_reducible rfl)
    simp only [Act.put, List.setIfInBounds_toArray, List.set_cons_zero, List.set_cons_succ]
    refine wpAnyH_done (by kernel_rfl) ?_ _
    have HFin := Lib.hid hHeld
    have a2 := box_cell HFin.out.1 2 (.int .i64 A.v) rfl
    have b2 := box_cell HFin.out.2.1 2 (.int .i64 B2.v) rfl
    cases P2 with
    | false =>
      obtain rfl : P1 = true := by rw [HOne.out]; rfl
      by_cases hv : A.v = B2.v
      · have hv2 : (A.v == B2.v) = true := by simpa using hv
        go_wp2_with fail
        go_ret
        exact ⟨rfl, HFin.out.2.2⟩
      · have hv2 : (A.v == B2.v) = false := by simpa using hv
        have hv3 : A.v > B2.v := by have := HVer.out hv; simpa using this.symm
        go_wp2_with fail
        go_ret
        exact ⟨rfl, HFin.out.2.2⟩
    | true =>
      obtain rfl : P1 = false := by rw [HOne.out]; rfl
      by_cases hv : A.v = B2.v
      · have hv2 : (A.v == B2.v) = true := by simpa using hv
        go_wp2_with fail
        go_ret
        exact ⟨rfl, HFin.out.2.2⟩
      · have hv2 : (A.v == B2.v) = false := by simpa using hv
        have hv3 : ¬ A.v > B2.v := by have := HVer.out hv; simpa using this.symm
        go_wp2_with fail
        go_ret
        exact ⟨rfl, HFin.out.2.2⟩
end Go.Proofs.YtnmjcjkjdbkpnaaDoor
