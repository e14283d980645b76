/-
  The walk of FactHeads: it returns true for all arguments. Condition: the table reads as the program's text lays it.
-/
import Derived.Test.YtnmjcjkjdbkpnaaDoorRtW
namespace Go.Proofs.YtnmjcjkjdbkpnaaDoor
open Go.RowKit Go.Shelf Fc
attribute [local go_sem] Oper.semAt_some
theorem zero_day (day : Int) (gn : Bool) : ∀ (l : List Nat) (F : Fact), zeroL { F with d := day, gone := gn } l = { zeroL F l with d := day, gone := gn } := by
  intro l
  induction l with
  | nil => intro F; rfl
  | cons x l ih =>
    intro F
    have e : Fc.set { F with d := day, gone := gn } 0 x = { Fc.set F 0 x with d := day, gone := gn } := by unfold Fc.set; split <;> rfl
    have := ih (Fc.set F 0 x)
    unfold zeroL at this ⊢
    rw [List.foldl_cons, List.foldl_cons, e]; exact this
theorem head_day {F : Fact} (day : Int) (gn : Bool) (h : validB F = true) (hd : 0 ≤ day ∧ day ≤ 100000) : validB { F with d := day, gone := gn } = true := by
  obtain ⟨a, b, c, d, e, f, g⟩ := valid_iff.1 h
  refine valid_iff.2 ⟨a, b, hd, d, ?_, ?_, g⟩
  · have e2 := e
    unfold spansOK at e2 ⊢
    rw [List.all_eq_true] at e2 ⊢
    intro x hx
    have h2 := e2 x hx
    have hg : Fc.get { F with d := day, gone := gn } x = Fc.get F x := by unfold Fc.get; split <;> rfl
    rw [hg]; exact h2
  · rw [zero_day]
    show { zeroL F (fieldsL F.k) with d := day, gone := gn } = bare { F with d := day, gone := gn }
    rw [f]; rfl
theorem headDay (F : Fact) (day : Int) (gn : Bool) (h : validB F = true) : validB { F with d := day, gone := gn } = true ↔ 0 ≤ day ∧ day ≤ 100000 :=
  ⟨fun h2 => (valid_iff.1 h2).2.2.1, head_day day gn h⟩
theorem headDay2 (F : Fact) (day : Int) (gn : Bool) (h : validB { F with d := day, gone := gn } = true) : validB F = true ↔ 0 ≤ F.d ∧ F.d ≤ 100000 :=
  ⟨fun h2 => (valid_iff.1 h2).2.2.1, fun hd => head_day (F := { F with d := day, gone := gn }) F.d F.gone h hd⟩
theorem heads_key (F : Fact) (ver day : Int) (gn : Bool) (h : validB F = true) (h2 : validB { F with v := ver, d := day, gone := gn } = true) : keyB { F with v := ver, d := day, gone := gn } = keyB F :=
  (key_iff h2 h).2 ⟨rfl, fun x _ => by unfold Fc.get; split <;> rfl⟩
set_option maxRecDepth 100000 in
set_option maxHeartbeats 16000000 in
theorem heads_walk (F : Fact) (ver day : Int) (gn : Bool) (W : World) (ht : Tab W) (hs : F.tx.size ≤ maxLen) (v1 : -9223372036854775808 ≤ ver) (v2 : ver ≤ 9223372036854775807) (d1 : -9223372036854775808 ≤ day) (d2 : day ≤ 9223372036854775807) : Calls Tryd.prog 11 #[factV F, .int .i64 ver, .int .i64 day, .bool gn] W fun e w' => e = .returned (.bool true) ∧ Below W.heap.size W w' := by
  have HTn := Lib.hid ht.1
  have HF := Lib.hid (heap_alloc_new W (factObj F))
  have HB := Lib.hid (below_new W (factObj F))
  have HT := Lib.hid (ht.below HB.out)
  have HS0 := Lib.hid hs
  have HTW := Lib.hid ht
  clear ht hs
  go_enter Tryd.func11, Tryd.ntmps11
  go_upto_region 1 with (fail)
  generalize W.alloc (factObj F) = w1 at *
  go_wp2_with fail
  refine (sane_any w1 HT.out).mono ?_; rintro e w2 ⟨rfl, g2⟩
  have HT2 := Lib.hid (HT.out.below g2)
  have HB2 := Lib.hid (below_step HB.out g2)
  have HF2 := Lib.hid (box_below HF.out g2)
  clear g2 HT HB HF
  go_wp2_with (refine wpList_load_fact rfl _ rfl _ rfl F HF2.out ?_)
  refine (cut_any F w2 HS0.out).mono ?_; rintro e w3 ⟨rfl, g3⟩
  have HT3 := Lib.hid (HT2.out.below g3)
  have HB3 := Lib.hid (below_step HB2.out g3)
  have HF3 := Lib.hid (box_below HF2.out g3)
  clear g3 HT2 HB2 HF2
  have HF4 := Lib.hid (setRow_heap w3 W.heap.size _ (factC (cutF F)) _ _ HF3.out)
  have HC4 := row_ch w3 W.heap.size (factC (cutF F))
  have HB4 := Lib.hid (HB3.out.trans (HC4.below (B := W.heap.size) (Nat.le_of_lt (lt_of_block HF3.out)) (fun k e => by omega)))
  have HT4 := Lib.hid (HT3.out.ch HC4 (fun e => by have := HTn.out; omega))
  have HS := Lib.hid (cutF_max F)
  clear HC4 HT3 HB3 HS0
  go_upto_region 3 with (refine wpList_store_at rfl rfl _ _ rfl W.heap.size (cutF F) rfl rfl _ HF3.out rfl ?_)
  clear HF3
  generalize w3.setRow W.heap.size (factC (cutF F)) = w4 at *
  generalize cutF F = G at *
  have hg1 : W.heap.size < w4.heap.size := lt_of_block HF4.out
  have hg2 : ¬ W.heap.size = w4.heap.size := by omega
  go_upto_region 4 with (first | (refine wpList_load_fact rfl _ rfl _ rfl G HF4.out ?_) | (refine wpList_store_new rfl rfl _ _ rfl G rfl rfl _ rfl ?_))
  go_upto_region 5 with (fail)
  go_upto_region 6 with (fail)
  obtain ⟨H, hH⟩ : ∃ H, H = ({ G with d := day, gone := gn } : Fact) := ⟨_, rfl⟩
  rw [show w4.alloc (.cells #[.int .i64 G.k, .int .i64 G.id, .int .i64 G.v, .int .i64 day, .bool gn, .int .i64 G.ti, .int .i64 G.un, .int .i64 G.w, .int .i64 G.ot, .int .i64 G.lo, .int .i64 G.pr, .int .i64 G.tl, .int .i64 G.ch, .int .i64 G.st, .int .i64 G.rc, .int .i64 G.rv, .int .i64 G.va, .int .i64 G.pa, .string G.tx] 23) = w4.alloc (factObj H) from by rw [hH]]
  have HNe := Lib.hid hg1
  clear hg1 hg2
  have HSH := Lib.hid (show H.tx.size ≤ maxLen from by rw [hH]; exact HS.out)
  have HK := Lib.hid (show ∀ ver, validB G = true → validB { H with v := ver } = true → keyB { H with v := ver } = keyB G from fun ver a b => by subst hH; exact heads_key G ver day gn a b)
  have HInG := Lib.hid (show validB G = true → (validB H = true ↔ 0 ≤ day ∧ day ≤ 100000) from fun a => by rw [hH]; exact headDay G day gn a)
  have HInF := Lib.hid (show validB H = true → (validB G = true ↔ 0 ≤ G.d ∧ G.d ≤ 100000) from fun a => by rw [hH] at a; exact headDay2 G day gn a)
  have HIn' := Lib.hid (show H.d = day from by rw [hH])
  clear hH
  have g5 := below_new w4 (factObj H)
  have HG5 := Lib.hid (heap_alloc_new w4 (factObj H))
  have HT5 := Lib.hid (HT4.out.below g5)
  have HB5 := Lib.hid (below_step HB4.out g5)
  have HF5 := Lib.hid (box_below HF4.out g5)
  clear g5 HT4 HB4 HF4
  generalize w4.heap.size = bg at *
  generalize w4.alloc (factObj H) = w5 at *
  have HVf := Lib.hid (fun V h => valid_any G V h HS.out)
  have HVg := Lib.hid (fun V h => valid_any H V h HSH.out)
  by_cases h0 : 0 ≤ day
  · by_cases h1 : day ≤ 100000
    · have HIn := Lib.hid (show 0 ≤ day ∧ day ≤ 100000 from ⟨h0, h1⟩)
      go_upto_region 7 with (fail)
      clear h0 h1
      cases hvf : validB G with
      | false =>
        cases hvg : validB H with
        | false =>
          unfold BoolPost at HVf HVg
          have HvF := Lib.hid hvf
          rw [hvf] at HVf
          rw [hvg] at HVg
          clear hvf hvg
          refine wp_region_held_drew (S := (fun v => v.heap[W.heap.size]? = some (factObj G) ∧ v.heap[bg]? = some (factObj H) ∧ Below W.heap.size W v)) (by kernel_rfl) (⟨HF5.out, HG5.out, HB5.out.drew⟩) (fun hHeld => ?_)
          generalize w5.drew = wd at *
          refine wpAnyH_take (i := 0) (oi := { dst := some 26, op := Op.load 23 (Operand.tmp 4), type := 23, pos := "law.go:181", after := #[], guard := none }) (v := factV G) rfl (by kernel_rfl) (by kernel_rfl) (by kernel_rfl) (fun _ _ _ h => h) (Or.inl ⟨by rfl, fun wz hSw => sem_load_fact _ rfl (W.heap.size) rfl G (hSw.1)⟩) (by assumption) ?tp00
          simp only [Act.put, List.setIfInBounds_toArray, List.set_cons_zero, List.set_cons_succ]
          refine wpAnyH_ready (rs := [1]) (by kernel_rfl) (by simp) ?_
          refine AllReadyH.cons (o := { dst := some 27, op := Op.call { callee := Callee.value (Operand.func 16), args := #[Operand.tmp 26], argTypes := #[23] }, type := 4, pos := "law.go:181", after := #[{ on := 0, ground := Ground.data }], guard := none }) rfl (fun K hK => ?_) AllReadyH.nil
          have HH := Lib.hid hHeld
          go_simp
          refine (HVf.out _ (HTW.out.below HH.out.2.2)).mono ?_; rintro e wz ⟨rfl, gz⟩
          have hz : wz.heap[W.heap.size]? = some (factObj G) ∧ wz.heap[bg]? = some (factObj H) ∧ Below W.heap.size W wz := ⟨box_below HH.out.1 gz, box_below HH.out.2.1 gz, below_step HH.out.2.2 gz⟩
          clear gz HH
          refine hK.out _ _ (hz) (fun hHeld' => ?_)
          clear hK K hHeld
          have hHeld := hHeld'; clear hHeld'
          try simp only [Act.put, List.setIfInBounds_toArray, List.set_cons_zero, List.set_cons_succ]
          refine wpAnyH_take (i := 2) (oi := { dst := some 28, op := Op.move (Operand.tmp 27), type := 4, pos := "law.go:181", after := #[{ on := 1, ground := Ground.data }, { on := 1, ground := Ground.chain }], guard := none }) (v := ?vp02) rfl (by kernel_rfl) (by kernel_rfl) (by kernel_rfl) (fun _ _ _ h => h) (Or.inl ⟨by rfl, ?yp02⟩) (by assumption) ?tp02
          case yp02 => (intro wz hSw; clear hSw; go_simp; try with_reducible rfl)
          simp only [Act.put, List.setIfInBounds_toArray, List.set_cons_zero, List.set_cons_succ]
          refine wpAnyH_take (i := 3) (oi := { dst := some 29, op := Op.load 23 (Operand.tmp 10), type := 23, pos := "law.go:181", after := #[{ on := 2, ground := Ground.guard }], guard := some (2, true) }) (v := undef) rfl (by kernel_rfl) (by kernel_rfl) (by kernel_rfl) (fun _ _ _ h => h) (Or.inr ⟨by rfl, rfl⟩) (by assumption) ?_
          simp only [Act.put, List.setIfInBounds_toArray, List.set_cons_zero, List.set_cons_succ]
          refine wpAnyH_take (i := 4) (oi := { dst := some 30, op := Op.call { callee := Callee.value (Operand.func 16), args := #[Operand.tmp 29], argTypes := #[23] }, type := 4, pos := "law.go:181", after := #[{ on := 3, ground := Ground.data }, { on := 2, ground := Ground.chain }, { on := 2, ground := Ground.guard }], guard := some (2, true) }) (v := undef) rfl (by kernel_rfl) (by kernel_rfl) (by kernel_rfl) (fun _ _ _ h => h) (Or.inr ⟨by rfl, rfl⟩) (by assumption) ?_
          simp only [Act.put, List.setIfInBounds_toArray, List.set_cons_zero, List.set_cons_succ]
          refine wpAnyH_take (i := 5) (oi := { dst := some 31, op := Op.move (Operand.tmp 11), type := 4, pos := "law.go:181", after := #[{ on := 2, ground := Ground.guard }], guard := some (2, true) }) (v := undef) rfl (by kernel_rfl) (by kernel_rfl) (by kernel_rfl) (fun _ _ _ h => h) (Or.inr ⟨by rfl, rfl⟩) (by assumption) ?_
          simp only [Act.put, List.setIfInBounds_toArray, List.set_cons_zero, List.set_cons_succ]
          refine wpAnyH_take (i := 6) (oi := { dst := some 32, op := Op.binOp BinOp.neq 4 (Operand.tmp 30) (Operand.tmp 31) 4, type := 4, pos := "law.go:181", after := #[{ on := 4, ground := Ground.data }, { on := 5, ground := Ground.data }, { on := 2, ground := Ground.guard }], guard := some (2, true) }) (v := undef) rfl (by kernel_rfl) (by kernel_rfl) (by kernel_rfl) (fun _ _ _ h => h) (Or.inr ⟨by rfl, rfl⟩) (by assumption) ?_
          simp only [Act.put, List.setIfInBounds_toArray, List.set_cons_zero, List.set_cons_succ]
          refine wpAnyH_take (i := 7) (oi := { dst := some 33, op := Op.pick (Operand.tmp 28) (Operand.tmp 32) (Operand.const (Value.bool false)), type := 4, pos := "law.go:181", after := #[{ on := 2, ground := Ground.data }, { on := 6, ground := Ground.data }], guard := none }) (v := ?vp07) rfl (by kernel_rfl) (by kernel_rfl) (by kernel_rfl) (fun _ _ _ h => h) (Or.inl ⟨by rfl, ?yp07⟩) (by assumption) ?tp07
          case yp07 => (intro wz hSw; clear hSw; go_simp; try with_reducible rfl)
          simp only [Act.put, List.setIfInBounds_toArray, List.set_cons_zero, List.set_cons_succ]
          refine wpAnyH_take (i := 8) (oi := { dst := some 34, op := Op.move (Operand.tmp 33), type := 4, pos := "law.go:181", after := #[{ on := 7, ground := Ground.data }, { on := 4, ground := Ground.chain }], guard := none }) (v := ?vp08) rfl (by kernel_rfl) (by kernel_rfl) (by kernel_rfl) (fun _ _ _ h => h) (Or.inl ⟨by rfl, ?yp08⟩) (by assumption) ?tp08
          case yp08 => (intro wz hSw; clear hSw; go_simp; try with_reducible rfl)
          simp only [Act.put, List.setIfInBounds_toArray, List.set_cons_zero, List.set_cons_succ]
          refine wpAnyH_take (i := 9) (oi := { dst := some 35, op := Op.load 23 (Operand.tmp 10), type := 23, pos := "law.go:181", after := #[{ on := 8, ground := Ground.guard }], guard := some (8, false) }) (v := factV H) rfl (by kernel_rfl) (by kernel_rfl) (by kernel_rfl) (fun _ _ _ h => h) (Or.inl ⟨by rfl, fun wz hSw => sem_load_fact _ rfl (bg) rfl H (hSw.2.1)⟩) (by assumption) ?tp09
          simp only [Act.put, List.setIfInBounds_toArray, List.set_cons_zero, List.set_cons_succ]
          refine wpAnyH_ready (rs := [10]) (by kernel_rfl) (by simp) ?_
          refine AllReadyH.cons (o := { dst := some 36, op := Op.call { callee := Callee.value (Operand.func 16), args := #[Operand.tmp 35], argTypes := #[23] }, type := 4, pos := "law.go:181", after := #[{ on := 9, ground := Ground.data }, { on := 8, ground := Ground.chain }, { on := 8, ground := Ground.guard }], guard := some (8, false) }) rfl (fun K hK => ?_) AllReadyH.nil
          have HH := Lib.hid hHeld
          go_simp
          refine (HVg.out _ (HTW.out.below HH.out.2.2)).mono ?_; rintro e wz ⟨rfl, gz⟩
          have hz : wz.heap[W.heap.size]? = some (factObj G) ∧ wz.heap[bg]? = some (factObj H) ∧ Below W.heap.size W wz := ⟨box_below HH.out.1 gz, box_below HH.out.2.1 gz, below_step HH.out.2.2 gz⟩
          clear gz HH
          refine hK.out _ _ (hz) (fun hHeld' => ?_)
          clear hK K hHeld
          have hHeld := hHeld'; clear hHeld'
          try simp only [Act.put, List.setIfInBounds_toArray, List.set_cons_zero, List.set_cons_succ]
          refine wpAnyH_take (i := 11) (oi := { dst := some 37, op := Op.move (Operand.tmp 36), type := 4, pos := "law.go:181", after := #[{ on := 10, ground := Ground.data }, { on := 10, ground := Ground.chain }, { on := 8, ground := Ground.guard }], guard := some (8, false) }) (v := ?vp011) rfl (by kernel_rfl) (by kernel_rfl) (by kernel_rfl) (fun _ _ _ h => h) (Or.inl ⟨by rfl, ?yp011⟩) (by assumption) ?tp011
          case yp011 => (intro wz hSw; clear hSw; go_simp; try with_reducible rfl)
          simp only [Act.put, List.setIfInBounds_toArray, List.set_cons_zero, List.set_cons_succ]
          refine wpAnyH_take (i := 12) (oi := { dst := some 38, op := Op.load 23 (Operand.tmp 4), type := 23, pos := "law.go:181", after := #[{ on := 11, ground := Ground.guard }], guard := some (11, true) }) (v := undef) rfl (by kernel_rfl) (by kernel_rfl) (by kernel_rfl) (fun _ _ _ h => h) (Or.inr ⟨by rfl, rfl⟩) (by assumption) ?_
          simp only [Act.put, List.setIfInBounds_toArray, List.set_cons_zero, List.set_cons_succ]
          refine wpAnyH_take (i := 13) (oi := { dst := some 39, op := Op.call { callee := Callee.value (Operand.func 16), args := #[Operand.tmp 38], argTypes := #[23] }, type := 4, pos := "law.go:181", after := #[{ on := 12, ground := Ground.data }, { on := 11, ground := Ground.chain }, { on := 11, ground := Ground.guard }], guard := some (11, true) }) (v := undef) rfl (by kernel_rfl) (by kernel_rfl) (by kernel_rfl) (fun _ _ _ h => h) (Or.inr ⟨by rfl, rfl⟩) (by assumption) ?_
          simp only [Act.put, List.setIfInBounds_toArray, List.set_cons_zero, List.set_cons_succ]
          refine wpAnyH_take (i := 14) (oi := { dst := some 40, op := Op.fieldAddr 23 (Operand.tmp 4) 3, type := 0, pos := "law.go:181", after := #[{ on := 11, ground := Ground.guard }], guard := some (11, true) }) (v := undef) rfl (by kernel_rfl) (by kernel_rfl) (by kernel_rfl) (fun _ _ _ h => h) (Or.inr ⟨by rfl, rfl⟩) (by assumption) ?_
          simp only [Act.put, List.setIfInBounds_toArray, List.set_cons_zero, List.set_cons_succ]
          refine wpAnyH_take (i := 15) (oi := { dst := some 41, op := Op.load 3 (Operand.tmp 40), type := 3, pos := "law.go:181", after := #[{ on := 14, ground := Ground.data }, { on := 11, ground := Ground.guard }], guard := some (11, true) }) (v := undef) rfl (by kernel_rfl) (by kernel_rfl) (by kernel_rfl) (fun _ _ _ h => h) (Or.inr ⟨by rfl, rfl⟩) (by assumption) ?_
          simp only [Act.put, List.setIfInBounds_toArray, List.set_cons_zero, List.set_cons_succ]
          refine wpAnyH_take (i := 16) (oi := { dst := some 42, op := Op.binOp BinOp.geq 3 (Operand.tmp 41) (Operand.const (Value.int IntKind.i64 0)) 3, type := 4, pos := "law.go:181", after := #[{ on := 15, ground := Ground.data }, { on := 11, ground := Ground.guard }], guard := some (11, true) }) (v := undef) rfl (by kernel_rfl) (by kernel_rfl) (by kernel_rfl) (fun _ _ _ h => h) (Or.inr ⟨by rfl, rfl⟩) (by assumption) ?_
          simp only [Act.put, List.setIfInBounds_toArray, List.set_cons_zero, List.set_cons_succ]
          refine wpAnyH_take (i := 17) (oi := { dst := some 43, op := Op.move (Operand.tmp 42), type := 4, pos := "law.go:181", after := #[{ on := 16, ground := Ground.data }, { on := 13, ground := Ground.chain }, { on := 11, ground := Ground.guard }], guard := some (11, true) }) (v := undef) rfl (by kernel_rfl) (by kernel_rfl) (by kernel_rfl) (fun _ _ _ h => h) (Or.inr ⟨by rfl, rfl⟩) (by assumption) ?_
          simp only [Act.put, List.setIfInBounds_toArray, List.set_cons_zero, List.set_cons_succ]
          refine wpAnyH_take (i := 18) (oi := { dst := some 44, op := Op.fieldAddr 23 (Operand.tmp 4) 3, type := 0, pos := "law.go:181", after := #[{ on := 17, ground := Ground.guard }], guard := some (17, true) }) (v := undef) rfl (by kernel_rfl) (by kernel_rfl) (by kernel_rfl) (fun _ _ _ h => h) (Or.inr ⟨by rfl, rfl⟩) (by assumption) ?_
          simp only [Act.put, List.setIfInBounds_toArray, List.set_cons_zero, List.set_cons_succ]
          refine wpAnyH_take (i := 19) (oi := { dst := some 45, op := Op.load 3 (Operand.tmp 44), type := 3, pos := "law.go:181", after := #[{ on := 18, ground := Ground.data }, { on := 17, ground := Ground.guard }], guard := some (17, true) }) (v := undef) rfl (by kernel_rfl) (by kernel_rfl) (by kernel_rfl) (fun _ _ _ h => h) (Or.inr ⟨by rfl, rfl⟩) (by assumption) ?_
          simp only [Act.put, List.setIfInBounds_toArray, List.set_cons_zero, List.set_cons_succ]
          refine wpAnyH_take (i := 20) (oi := { dst := some 46, op := Op.binOp BinOp.leq 3 (Operand.tmp 45) (Operand.const (Value.int IntKind.i64 100000)) 3, type := 4, pos := "law.go:181", after := #[{ on := 19, ground := Ground.data }, { on := 17, ground := Ground.guard }], guard := some (17, true) }) (v := undef) rfl (by kernel_rfl) (by kernel_rfl) (by kernel_rfl) (fun _ _ _ h => h) (Or.inr ⟨by rfl, rfl⟩) (by assumption) ?_
          simp only [Act.put, List.setIfInBounds_toArray, List.set_cons_zero, List.set_cons_succ]
          refine wpAnyH_take (i := 21) (oi := { dst := some 47, op := Op.pick (Operand.tmp 43) (Operand.tmp 46) (Operand.const (Value.bool false)), type := 4, pos := "law.go:181", after := #[{ on := 17, ground := Ground.data }, { on := 20, ground := Ground.data }, { on := 11, ground := Ground.guard }], guard := some (11, true) }) (v := undef) rfl (by kernel_rfl) (by kernel_rfl) (by kernel_rfl) (fun _ _ _ h => h) (Or.inr ⟨by rfl, rfl⟩) (by assumption) ?_
          simp only [Act.put, List.setIfInBounds_toArray, List.set_cons_zero, List.set_cons_succ]
          refine wpAnyH_take (i := 22) (oi := { dst := some 48, op := Op.binOp BinOp.neq 4 (Operand.tmp 39) (Operand.tmp 47) 4, type := 4, pos := "law.go:181", after := #[{ on := 13, ground := Ground.data }, { on := 21, ground := Ground.data }, { on := 11, ground := Ground.guard }], guard := some (11, true) }) (v := undef) rfl (by kernel_rfl) (by kernel_rfl) (by kernel_rfl) (fun _ _ _ h => h) (Or.inr ⟨by rfl, rfl⟩) (by assumption) ?_
          simp only [Act.put, List.setIfInBounds_toArray, List.set_cons_zero, List.set_cons_succ]
          refine wpAnyH_take (i := 23) (oi := { dst := some 49, op := Op.pick (Operand.tmp 37) (Operand.tmp 48) (Operand.const (Value.bool false)), type := 4, pos := "law.go:181", after := #[{ on := 11, ground := Ground.data }, { on := 22, ground := Ground.data }, { on := 8, ground := Ground.guard }], guard := some (8, false) }) (v := ?vp023) rfl (by kernel_rfl) (by kernel_rfl) (by kernel_rfl) (fun _ _ _ h => h) (Or.inl ⟨by rfl, ?yp023⟩) (by assumption) ?tp023
          case yp023 => (intro wz hSw; clear hSw; go_simp; try with_reducible rfl)
          simp only [Act.put, List.setIfInBounds_toArray, List.set_cons_zero, List.set_cons_succ]
          refine wpAnyH_take (i := 24) (oi := { dst := some 50, op := Op.pick (Operand.tmp 34) (Operand.const (Value.bool true)) (Operand.tmp 49), type := 4, pos := "law.go:181", after := #[{ on := 8, ground := Ground.data }, { on := 23, ground := Ground.data }], guard := none }) (v := ?vp024) rfl (by kernel_rfl) (by kernel_rfl) (by kernel_rfl) (fun _ _ _ h => h) (Or.inl ⟨by rfl, ?yp024⟩) (by assumption) ?tp024
          case yp024 => (intro wz hSw; clear hSw; go_simp; try with_reducible rfl)
          simp only [Act.put, List.setIfInBounds_toArray, List.set_cons_zero, List.set_cons_succ]
          refine wpAnyH_done (by kernel_rfl) ?_ _
          have HF7 := Lib.hid hHeld.1
          have HG7 := Lib.hid hHeld.2.1
          have HB7 := Lib.hid hHeld.2.2
          clear hHeld
          have c2 := box_cell HG7.out 2 (.int .i64 H.v) rfl
          have z2 := box_fz HG7.out 2
          have l2 := lt_of_block HG7.out
          have HC := one_ch wz bg 2 (.int .i64 ver)
          have HF8 := Lib.hid ((HC.block _ (lt_of_block HF7.out) (by have := HNe.out; omega)).trans HF7.out)
          have HG8 := Lib.hid (show (wz.setCell ⟨bg, 2, none⟩ (.int .i64 ver)).heap[bg]? = some (factObj { H with v := ver }) from block_set HG7.out (o := 2) _)
          have HB8 := Lib.hid (HB7.out.trans (HC.below (B := W.heap.size) (Nat.le_of_lt (lt_of_block HF7.out)) (fun k e => by have := HNe.out; omega)))
          clear HC HF7 HB7
          go_upto_region 10 with (fail)
          clear c2 z2 l2 HG7 HVf HVg
          generalize wz.setCell ⟨bg, 2, none⟩ (.int .i64 ver) = w8 at *
          have HS2 := Lib.hid (show ({ H with v := ver } : Fact).tx.size ≤ maxLen from HSH.out)
          have HK2 := Lib.hid (HK.out ver)
          generalize ({ H with v := ver } : Fact) = J at *
          have HVf := Lib.hid (fun V h => valid_any G V h HS.out)
          have HVg := Lib.hid (fun V h => valid_any J V h HS2.out)
          have HKf := Lib.hid (fun V h => key_any G V h HS.out)
          have HKg := Lib.hid (fun V h => key_any J V h HS2.out)
          unfold BoolPost at HVf HVg
          unfold StrPost at HKf HKg
          rw [HvF.out] at HVf
          refine wp_region_held_drew (S := (fun v => v.heap[W.heap.size]? = some (factObj G) ∧ v.heap[bg]? = some (factObj J) ∧ Below W.heap.size W v)) (by kernel_rfl) (⟨HF8.out, HG8.out, HB8.out.drew⟩) (fun hHeld => ?_)
          generalize w8.drew = wd at *
          refine wpAnyH_take (i := 0) (oi := { dst := some 53, op := Op.move (Operand.tmp 9), type := 4, pos := "law.go:185", after := #[], guard := none }) (v := ?vp0n0) rfl (by kernel_rfl) (by kernel_rfl) (by kernel_rfl) (fun _ _ _ h => h) (Or.inl ⟨by rfl, ?yp0n0⟩) (by assumption) ?tp0n0
          case yp0n0 => (intro wz hSw; clear hSw; go_simp; try with_reducible rfl)
          simp only [Act.put, List.setIfInBounds_toArray, List.set_cons_zero, List.set_cons_succ]
          refine wpAnyH_take (i := 1) (oi := { dst := some 54, op := Op.move (Operand.tmp 53), type := 4, pos := "law.go:185", after := #[{ on := 0, ground := Ground.data }], guard := none }) (v := ?vp0n1) rfl (by kernel_rfl) (by kernel_rfl) (by kernel_rfl) (fun _ _ _ h => h) (Or.inl ⟨by rfl, ?yp0n1⟩) (by assumption) ?tp0n1
          case yp0n1 => (intro wz hSw; clear hSw; go_simp; try with_reducible rfl)
          simp only [Act.put, List.setIfInBounds_toArray, List.set_cons_zero, List.set_cons_succ]
          refine wpAnyH_take (i := 2) (oi := { dst := some 55, op := Op.load 23 (Operand.tmp 4), type := 23, pos := "law.go:185", after := #[{ on := 1, ground := Ground.guard }], guard := some (1, true) }) (v := factV G) rfl (by kernel_rfl) (by kernel_rfl) (by kernel_rfl) (fun _ _ _ h => h) (Or.inl ⟨by rfl, fun wz hSw => sem_load_fact _ rfl (W.heap.size) rfl G (hSw.1)⟩) (by assumption) ?tp0n2
          simp only [Act.put, List.setIfInBounds_toArray, List.set_cons_zero, List.set_cons_succ]
          refine wpAnyH_ready (rs := [3]) (by kernel_rfl) (by simp) ?_
          refine AllReadyH.cons (o := { dst := some 56, op := Op.call { callee := Callee.value (Operand.func 16), args := #[Operand.tmp 55], argTypes := #[23] }, type := 4, pos := "law.go:185", after := #[{ on := 2, ground := Ground.data }, { on := 1, ground := Ground.chain }, { on := 1, ground := Ground.guard }], guard := some (1, true) }) rfl (fun K hK => ?_) AllReadyH.nil
          have HH := Lib.hid hHeld
          go_simp
          refine (HVf.out _ (HTW.out.below HH.out.2.2)).mono ?_; rintro e wz ⟨rfl, gz⟩
          have hz : wz.heap[W.heap.size]? = some (factObj G) ∧ wz.heap[bg]? = some (factObj J) ∧ Below W.heap.size W wz := ⟨box_below HH.out.1 gz, box_below HH.out.2.1 gz, below_step HH.out.2.2 gz⟩
          clear gz HH
          refine hK.out _ _ (hz) (fun hHeld' => ?_)
          clear hK K hHeld
          have hHeld := hHeld'; clear hHeld'
          try simp only [Act.put, List.setIfInBounds_toArray, List.set_cons_zero, List.set_cons_succ]
          refine wpAnyH_take (i := 4) (oi := { dst := some 57, op := Op.unOp UnOp.not 4 (Operand.tmp 56), type := 4, pos := "law.go:185", after := #[{ on := 3, ground := Ground.data }, { on := 1, ground := Ground.guard }], guard := some (1, true) }) (v := ?vp0n4) rfl (by kernel_rfl) (by kernel_rfl) (by kernel_rfl) (fun _ _ _ h => h) (Or.inl ⟨by rfl, ?yp0n4⟩) (by assumption) ?tp0n4
          case yp0n4 => (intro wz hSw; clear hSw; go_simp; try with_reducible rfl)
          simp only [Act.put, List.setIfInBounds_toArray, List.set_cons_zero, List.set_cons_succ]
          refine wpAnyH_take (i := 5) (oi := { dst := some 58, op := Op.move (Operand.tmp 57), type := 4, pos := "law.go:185", after := #[{ on := 4, ground := Ground.data }, { on := 3, ground := Ground.chain }, { on := 1, ground := Ground.guard }], guard := some (1, true) }) (v := ?vp0n5) rfl (by kernel_rfl) (by kernel_rfl) (by kernel_rfl) (fun _ _ _ h => h) (Or.inl ⟨by rfl, ?yp0n5⟩) (by assumption) ?tp0n5
          case yp0n5 => (intro wz hSw; clear hSw; go_simp; try with_reducible rfl)
          simp only [Act.put, List.setIfInBounds_toArray, List.set_cons_zero, List.set_cons_succ]
          refine wpAnyH_take (i := 6) (oi := { dst := some 59, op := Op.load 23 (Operand.tmp 10), type := 23, pos := "law.go:185", after := #[{ on := 5, ground := Ground.guard }], guard := some (5, false) }) (v := undef) rfl (by kernel_rfl) (by kernel_rfl) (by kernel_rfl) (fun _ _ _ h => h) (Or.inr ⟨by rfl, rfl⟩) (by assumption) ?_
          simp only [Act.put, List.setIfInBounds_toArray, List.set_cons_zero, List.set_cons_succ]
          refine wpAnyH_take (i := 7) (oi := { dst := some 60, op := Op.call { callee := Callee.value (Operand.func 16), args := #[Operand.tmp 59], argTypes := #[23] }, type := 4, pos := "law.go:185", after := #[{ on := 6, ground := Ground.data }, { on := 5, ground := Ground.chain }, { on := 5, ground := Ground.guard }], guard := some (5, false) }) (v := undef) rfl (by kernel_rfl) (by kernel_rfl) (by kernel_rfl) (fun _ _ _ h => h) (Or.inr ⟨by rfl, rfl⟩) (by assumption) ?_
          simp only [Act.put, List.setIfInBounds_toArray, List.set_cons_zero, List.set_cons_succ]
          refine wpAnyH_take (i := 8) (oi := { dst := some 61, op := Op.unOp UnOp.not 4 (Operand.tmp 60), type := 4, pos := "law.go:185", after := #[{ on := 7, ground := Ground.data }, { on := 5, ground := Ground.guard }], guard := some (5, false) }) (v := undef) rfl (by kernel_rfl) (by kernel_rfl) (by kernel_rfl) (fun _ _ _ h => h) (Or.inr ⟨by rfl, rfl⟩) (by assumption) ?_
          simp only [Act.put, List.setIfInBounds_toArray, List.set_cons_zero, List.set_cons_succ]
          refine wpAnyH_take (i := 9) (oi := { dst := some 62, op := Op.pick (Operand.tmp 58) (Operand.const (Value.bool true)) (Operand.tmp 61), type := 4, pos := "law.go:185", after := #[{ on := 5, ground := Ground.data }, { on := 8, ground := Ground.data }, { on := 1, ground := Ground.guard }], guard := some (1, true) }) (v := ?vp0n9) rfl (by kernel_rfl) (by kernel_rfl) (by kernel_rfl) (fun _ _ _ h => h) (Or.inl ⟨by rfl, ?yp0n9⟩) (by assumption) ?tp0n9
          case yp0n9 => (intro wz hSw; clear hSw; go_simp; try with_reducible rfl)
          simp only [Act.put, List.setIfInBounds_toArray, List.set_cons_zero, List.set_cons_succ]
          refine wpAnyH_take (i := 10) (oi := { dst := some 63, op := Op.move (Operand.tmp 62), type := 4, pos := "law.go:185", after := #[{ on := 9, ground := Ground.data }, { on := 7, ground := Ground.chain }, { on := 1, ground := Ground.guard }], guard := some (1, true) }) (v := ?vp0n10) rfl (by kernel_rfl) (by kernel_rfl) (by kernel_rfl) (fun _ _ _ h => h) (Or.inl ⟨by rfl, ?yp0n10⟩) (by assumption) ?tp0n10
          case yp0n10 => (intro wz hSw; clear hSw; go_simp; try with_reducible rfl)
          simp only [Act.put, List.setIfInBounds_toArray, List.set_cons_zero, List.set_cons_succ]
          refine wpAnyH_take (i := 11) (oi := { dst := some 64, op := Op.load 23 (Operand.tmp 4), type := 23, pos := "law.go:185", after := #[{ on := 10, ground := Ground.guard }], guard := some (10, false) }) (v := undef) rfl (by kernel_rfl) (by kernel_rfl) (by kernel_rfl) (fun _ _ _ h => h) (Or.inr ⟨by rfl, rfl⟩) (by assumption) ?_
          simp only [Act.put, List.setIfInBounds_toArray, List.set_cons_zero, List.set_cons_succ]
          refine wpAnyH_take (i := 12) (oi := { dst := some 65, op := Op.call { callee := Callee.value (Operand.func 18), args := #[Operand.tmp 64], argTypes := #[23] }, type := 9, pos := "law.go:185", after := #[{ on := 11, ground := Ground.data }, { on := 10, ground := Ground.chain }, { on := 10, ground := Ground.guard }], guard := some (10, false) }) (v := undef) rfl (by kernel_rfl) (by kernel_rfl) (by kernel_rfl) (fun _ _ _ h => h) (Or.inr ⟨by rfl, rfl⟩) (by assumption) ?_
          simp only [Act.put, List.setIfInBounds_toArray, List.set_cons_zero, List.set_cons_succ]
          refine wpAnyH_take (i := 13) (oi := { dst := some 66, op := Op.load 23 (Operand.tmp 10), type := 23, pos := "law.go:185", after := #[{ on := 10, ground := Ground.guard }], guard := some (10, false) }) (v := undef) rfl (by kernel_rfl) (by kernel_rfl) (by kernel_rfl) (fun _ _ _ h => h) (Or.inr ⟨by rfl, rfl⟩) (by assumption) ?_
          simp only [Act.put, List.setIfInBounds_toArray, List.set_cons_zero, List.set_cons_succ]
          refine wpAnyH_take (i := 14) (oi := { dst := some 67, op := Op.call { callee := Callee.value (Operand.func 18), args := #[Operand.tmp 66], argTypes := #[23] }, type := 9, pos := "law.go:185", after := #[{ on := 13, ground := Ground.data }, { on := 12, ground := Ground.chain }, { on := 10, ground := Ground.guard }], guard := some (10, false) }) (v := undef) rfl (by kernel_rfl) (by kernel_rfl) (by kernel_rfl) (fun _ _ _ h => h) (Or.inr ⟨by rfl, rfl⟩) (by assumption) ?_
          simp only [Act.put, List.setIfInBounds_toArray, List.set_cons_zero, List.set_cons_succ]
          refine wpAnyH_take (i := 15) (oi := { dst := some 68, op := Op.binOp BinOp.eql 9 (Operand.tmp 65) (Operand.tmp 67) 9, type := 4, pos := "law.go:185", after := #[{ on := 12, ground := Ground.data }, { on := 14, ground := Ground.data }, { on := 10, ground := Ground.guard }], guard := some (10, false) }) (v := undef) rfl (by kernel_rfl) (by kernel_rfl) (by kernel_rfl) (fun _ _ _ h => h) (Or.inr ⟨by rfl, rfl⟩) (by assumption) ?_
          simp only [Act.put, List.setIfInBounds_toArray, List.set_cons_zero, List.set_cons_succ]
          refine wpAnyH_take (i := 16) (oi := { dst := some 69, op := Op.pick (Operand.tmp 63) (Operand.const (Value.bool true)) (Operand.tmp 68), type := 4, pos := "law.go:185", after := #[{ on := 10, ground := Ground.data }, { on := 15, ground := Ground.data }, { on := 1, ground := Ground.guard }], guard := some (1, true) }) (v := ?vp0n16) rfl (by kernel_rfl) (by kernel_rfl) (by kernel_rfl) (fun _ _ _ h => h) (Or.inl ⟨by rfl, ?yp0n16⟩) (by assumption) ?tp0n16
          case yp0n16 => (intro wz hSw; clear hSw; go_simp; try with_reducible rfl)
          simp only [Act.put, List.setIfInBounds_toArray, List.set_cons_zero, List.set_cons_succ]
          refine wpAnyH_take (i := 17) (oi := { dst := some 70, op := Op.pick (Operand.tmp 54) (Operand.tmp 69) (Operand.const (Value.bool false)), type := 4, pos := "law.go:185", after := #[{ on := 1, ground := Ground.data }, { on := 16, ground := Ground.data }], guard := none }) (v := ?vp0n17) rfl (by kernel_rfl) (by kernel_rfl) (by kernel_rfl) (fun _ _ _ h => h) (Or.inl ⟨by rfl, ?yp0n17⟩) (by assumption) ?tp0n17
          case yp0n17 => (intro wz hSw; clear hSw; go_simp; try with_reducible rfl)
          simp only [Act.put, List.setIfInBounds_toArray, List.set_cons_zero, List.set_cons_succ]
          refine wpAnyH_take (i := 18) (oi := { dst := some 8, op := Op.assign (Operand.tmp 70), type := 4, pos := "law.go:185", after := #[{ on := 17, ground := Ground.data }, { on := 14, ground := Ground.chain }, { on := 0, ground := Ground.phase }, { on := 1, ground := Ground.phase }, { on := 2, ground := Ground.phase }, { on := 3, ground := Ground.phase }, { on := 4, ground := Ground.phase }, { on := 5, ground := Ground.phase }, { on := 6, ground := Ground.phase }, { on := 7, ground := Ground.phase }, { on := 8, ground := Ground.phase }, { on := 9, ground := Ground.phase }, { on := 10, ground := Ground.phase }, { on := 11, ground := Ground.phase }, { on := 12, ground := Ground.phase }, { on := 13, ground := Ground.phase }, { on := 14, ground := Ground.phase }, { on := 15, ground := Ground.phase }, { on := 16, ground := Ground.phase }, { on := 17, ground := Ground.phase }], guard := none }) (v := ?vp0n18) rfl (by kernel_rfl) (by kernel_rfl) (by kernel_rfl) (fun _ _ _ h => h) (Or.inl ⟨by rfl, ?yp0n18⟩) (by assumption) ?tp0n18
          case yp0n18 => (intro wz hSw; clear hSw; go_simp; try with_reducible rfl)
          simp only [Act.put, List.setIfInBounds_toArray, List.set_cons_zero, List.set_cons_succ]
          refine wpAnyH_done (by kernel_rfl) ?_ _
          have HFin := Lib.hid hHeld
          go_wp2_with fail
          go_ret
          exact ⟨rfl, HFin.out.2.2⟩
        | true =>
          have hno : ¬ (0 ≤ G.d ∧ G.d ≤ 100000) := fun h => by have := (HInF.out hvg).2 h; rw [hvf] at this; cases this
          unfold BoolPost at HVf HVg
          have HvF := Lib.hid hvf
          rw [hvf] at HVf
          rw [hvg] at HVg
          clear hvf hvg
          by_cases hd0 : 0 ≤ G.d
          · have hd1 : ¬ G.d ≤ 100000 := fun h => hno ⟨hd0, h⟩
            refine wp_region_held_drew (S := (fun v => v.heap[W.heap.size]? = some (factObj G) ∧ v.heap[bg]? = some (factObj H) ∧ Below W.heap.size W v)) (by kernel_rfl) (⟨HF5.out, HG5.out, HB5.out.drew⟩) (fun hHeld => ?_)
            generalize w5.drew = wd at *
            refine wpAnyH_take (i := 0) (oi := { dst := some 26, op := Op.load 23 (Operand.tmp 4), type := 23, pos := "law.go:181", after := #[], guard := none }) (v := factV G) rfl (by kernel_rfl) (by kernel_rfl) (by kernel_rfl) (fun _ _ _ h => h) (Or.inl ⟨by rfl, fun wz hSw => sem_load_fact _ rfl (W.heap.size) rfl G (hSw.1)⟩) (by assumption) ?tp10
            simp only [Act.put, List.setIfInBounds_toArray, List.set_cons_zero, List.set_cons_succ]
            refine wpAnyH_ready (rs := [1]) (by kernel_rfl) (by simp) ?_
            refine AllReadyH.cons (o := { dst := some 27, op := Op.call { callee := Callee.value (Operand.func 16), args := #[Operand.tmp 26], argTypes := #[23] }, type := 4, pos := "law.go:181", after := #[{ on := 0, ground := Ground.data }], guard := none }) rfl (fun K hK => ?_) AllReadyH.nil
            have HH := Lib.hid hHeld
            go_simp
            refine (HVf.out _ (HTW.out.below HH.out.2.2)).mono ?_; rintro e wz ⟨rfl, gz⟩
            have hz : wz.heap[W.heap.size]? = some (factObj G) ∧ wz.heap[bg]? = some (factObj H) ∧ Below W.heap.size W wz := ⟨box_below HH.out.1 gz, box_below HH.out.2.1 gz, below_step HH.out.2.2 gz⟩
            clear gz HH
            refine hK.out _ _ (hz) (fun hHeld' => ?_)
            clear hK K hHeld
            have hHeld := hHeld'; clear hHeld'
            try simp only [Act.put, List.setIfInBounds_toArray, List.set_cons_zero, List.set_cons_succ]
            refine wpAnyH_take (i := 2) (oi := { dst := some 28, op := Op.move (Operand.tmp 27), type := 4, pos := "law.go:181", after := #[{ on := 1, ground := Ground.data }, { on := 1, ground := Ground.chain }], guard := none }) (v := ?vp12) rfl (by kernel_rfl) (by kernel_rfl) (by kernel_rfl) (fun _ _ _ h => h) (Or.inl ⟨by rfl, ?yp12⟩) (by assumption) ?tp12
            case yp12 => (intro wz hSw; clear hSw; go_simp; try with_reducible rfl)
            simp only [Act.put, List.setIfInBounds_toArray, List.set_cons_zero, List.set_cons_succ]
            refine wpAnyH_take (i := 3) (oi := { dst := some 29, op := Op.load 23 (Operand.tmp 10), type := 23, pos := "law.go:181", after := #[{ on := 2, ground := Ground.guard }], guard := some (2, true) }) (v := undef) rfl (by kernel_rfl) (by kernel_rfl) (by kernel_rfl) (fun _ _ _ h => h) (Or.inr ⟨by rfl, rfl⟩) (by assumption) ?_
            simp only [Act.put, List.setIfInBounds_toArray, List.set_cons_zero, List.set_cons_succ]
            refine wpAnyH_take (i := 4) (oi := { dst := some 30, op := Op.call { callee := Callee.value (Operand.func 16), args := #[Operand.tmp 29], argTypes := #[23] }, type := 4, pos := "law.go:181", after := #[{ on := 3, ground := Ground.data }, { on := 2, ground := Ground.chain }, { on := 2, ground := Ground.guard }], guard := some (2, true) }) (v := undef) rfl (by kernel_rfl) (by kernel_rfl) (by kernel_rfl) (fun _ _ _ h => h) (Or.inr ⟨by rfl, rfl⟩) (by assumption) ?_
            simp only [Act.put, List.setIfInBounds_toArray, List.set_cons_zero, List.set_cons_succ]
            refine wpAnyH_take (i := 5) (oi := { dst := some 31, op := Op.move (Operand.tmp 11), type := 4, pos := "law.go:181", after := #[{ on := 2, ground := Ground.guard }], guard := some (2, true) }) (v := undef) rfl (by kernel_rfl) (by kernel_rfl) (by kernel_rfl) (fun _ _ _ h => h) (Or.inr ⟨by rfl, rfl⟩) (by assumption) ?_
            simp only [Act.put, List.setIfInBounds_toArray, List.set_cons_zero, List.set_cons_succ]
            refine wpAnyH_take (i := 6) (oi := { dst := some 32, op := Op.binOp BinOp.neq 4 (Operand.tmp 30) (Operand.tmp 31) 4, type := 4, pos := "law.go:181", after := #[{ on := 4, ground := Ground.data }, { on := 5, ground := Ground.data }, { on := 2, ground := Ground.guard }], guard := some (2, true) }) (v := undef) rfl (by kernel_rfl) (by kernel_rfl) (by kernel_rfl) (fun _ _ _ h => h) (Or.inr ⟨by rfl, rfl⟩) (by assumption) ?_
            simp only [Act.put, List.setIfInBounds_toArray, List.set_cons_zero, List.set_cons_succ]
            refine wpAnyH_take (i := 7) (oi := { dst := some 33, op := Op.pick (Operand.tmp 28) (Operand.tmp 32) (Operand.const (Value.bool false)), type := 4, pos := "law.go:181", after := #[{ on := 2, ground := Ground.data }, { on := 6, ground := Ground.data }], guard := none }) (v := ?vp17) rfl (by kernel_rfl) (by kernel_rfl) (by kernel_rfl) (fun _ _ _ h => h) (Or.inl ⟨by rfl, ?yp17⟩) (by assumption) ?tp17
            case yp17 => (intro wz hSw; clear hSw; go_simp; try with_reducible rfl)
            simp only [Act.put, List.setIfInBounds_toArray, List.set_cons_zero, List.set_cons_succ]
            refine wpAnyH_take (i := 8) (oi := { dst := some 34, op := Op.move (Operand.tmp 33), type := 4, pos := "law.go:181", after := #[{ on := 7, ground := Ground.data }, { on := 4, ground := Ground.chain }], guard := none }) (v := ?vp18) rfl (by kernel_rfl) (by kernel_rfl) (by kernel_rfl) (fun _ _ _ h => h) (Or.inl ⟨by rfl, ?yp18⟩) (by assumption) ?tp18
            case yp18 => (intro wz hSw; clear hSw; go_simp; try with_reducible rfl)
            simp only [Act.put, List.setIfInBounds_toArray, List.set_cons_zero, List.set_cons_succ]
            refine wpAnyH_take (i := 9) (oi := { dst := some 35, op := Op.load 23 (Operand.tmp 10), type := 23, pos := "law.go:181", after := #[{ on := 8, ground := Ground.guard }], guard := some (8, false) }) (v := factV H) rfl (by kernel_rfl) (by kernel_rfl) (by kernel_rfl) (fun _ _ _ h => h) (Or.inl ⟨by rfl, fun wz hSw => sem_load_fact _ rfl (bg) rfl H (hSw.2.1)⟩) (by assumption) ?tp19
            simp only [Act.put, List.setIfInBounds_toArray, List.set_cons_zero, List.set_cons_succ]
            refine wpAnyH_ready (rs := [10]) (by kernel_rfl) (by simp) ?_
            refine AllReadyH.cons (o := { dst := some 36, op := Op.call { callee := Callee.value (Operand.func 16), args := #[Operand.tmp 35], argTypes := #[23] }, type := 4, pos := "law.go:181", after := #[{ on := 9, ground := Ground.data }, { on := 8, ground := Ground.chain }, { on := 8, ground := Ground.guard }], guard := some (8, false) }) rfl (fun K hK => ?_) AllReadyH.nil
            have HH := Lib.hid hHeld
            go_simp
            refine (HVg.out _ (HTW.out.below HH.out.2.2)).mono ?_; rintro e wz ⟨rfl, gz⟩
            have hz : wz.heap[W.heap.size]? = some (factObj G) ∧ wz.heap[bg]? = some (factObj H) ∧ Below W.heap.size W wz := ⟨box_below HH.out.1 gz, box_below HH.out.2.1 gz, below_step HH.out.2.2 gz⟩
            clear gz HH
            refine hK.out _ _ (hz) (fun hHeld' => ?_)
            clear hK K hHeld
            have hHeld := hHeld'; clear hHeld'
            try simp only [Act.put, List.setIfInBounds_toArray, List.set_cons_zero, List.set_cons_succ]
            refine wpAnyH_take (i := 11) (oi := { dst := some 37, op := Op.move (Operand.tmp 36), type := 4, pos := "law.go:181", after := #[{ on := 10, ground := Ground.data }, { on := 10, ground := Ground.chain }, { on := 8, ground := Ground.guard }], guard := some (8, false) }) (v := ?vp111) rfl (by kernel_rfl) (by kernel_rfl) (by kernel_rfl) (fun _ _ _ h => h) (Or.inl ⟨by rfl, ?yp111⟩) (by assumption) ?tp111
            case yp111 => (intro wz hSw; clear hSw; go_simp; try with_reducible rfl)
            simp only [Act.put, List.setIfInBounds_toArray, List.set_cons_zero, List.set_cons_succ]
            refine wpAnyH_take (i := 12) (oi := { dst := some 38, op := Op.load 23 (Operand.tmp 4), type := 23, pos := "law.go:181", after := #[{ on := 11, ground := Ground.guard }], guard := some (11, true) }) (v := factV G) rfl (by kernel_rfl) (by kernel_rfl) (by kernel_rfl) (fun _ _ _ h => h) (Or.inl ⟨by rfl, fun wz hSw => sem_load_fact _ rfl (W.heap.size) rfl G (hSw.1)⟩) (by assumption) ?tp112
            simp only [Act.put, List.setIfInBounds_toArray, List.set_cons_zero, List.set_cons_succ]
            refine wpAnyH_take (i := 14) (oi := { dst := some 40, op := Op.fieldAddr 23 (Operand.tmp 4) 3, type := 0, pos := "law.go:181", after := #[{ on := 11, ground := Ground.guard }], guard := some (11, true) }) (v := ?vp114) rfl (by kernel_rfl) (by kernel_rfl) (by kernel_rfl) (fun _ _ _ h => h) (Or.inl ⟨by rfl, ?yp114⟩) (by assumption) ?tp114
            case yp114 => (intro wz hSw; clear hSw; go_simp; try with_reducible rfl)
            simp only [Act.put, List.setIfInBounds_toArray, List.set_cons_zero, List.set_cons_succ]
            refine wpAnyH_take (i := 15) (oi := { dst := some 41, op := Op.load 3 (Operand.tmp 40), type := 3, pos := "law.go:181", after := #[{ on := 14, ground := Ground.data }, { on := 11, ground := Ground.guard }], guard := some (11, true) }) (v := ?vp115) rfl (by kernel_rfl) (by kernel_rfl) (by kernel_rfl) (fun _ _ _ h => h) (Or.inl ⟨by rfl, ?yp115⟩) (by assumption) ?tp115
            case yp115 => (intro wz hSw; have c3 := box_cell hSw.1 3 (.int .i64 G.d) rfl; clear hSw; go_simp; try with_reducible rfl)
            simp only [Act.put, List.setIfInBounds_toArray, List.set_cons_zero, List.set_cons_succ]
            refine wpAnyH_take (i := 16) (oi := { dst := some 42, op := Op.binOp BinOp.geq 3 (Operand.tmp 41) (Operand.const (Value.int IntKind.i64 0)) 3, type := 4, pos := "law.go:181", after := #[{ on := 15, ground := Ground.data }, { on := 11, ground := Ground.guard }], guard := some (11, true) }) (v := ?vp116) rfl (by kernel_rfl) (by kernel_rfl) (by kernel_rfl) (fun _ _ _ h => h) (Or.inl ⟨by rfl, ?yp116⟩) (by assumption) ?tp116
            case yp116 => (intro wz hSw; clear hSw; go_simp; try with_reducible rfl)
            simp only [Act.put, List.setIfInBounds_toArray, List.set_cons_zero, List.set_cons_succ]
            refine wpAnyH_ready (rs := [13]) (by kernel_rfl) (by simp) ?_
            refine AllReadyH.cons (o := { dst := some 39, op := Op.call { callee := Callee.value (Operand.func 16), args := #[Operand.tmp 38], argTypes := #[23] }, type := 4, pos := "law.go:181", after := #[{ on := 12, ground := Ground.data }, { on := 11, ground := Ground.chain }, { on := 11, ground := Ground.guard }], guard := some (11, true) }) rfl (fun K hK => ?_) AllReadyH.nil
            have HH := Lib.hid hHeld
            go_simp
            refine (HVf.out _ (HTW.out.below HH.out.2.2)).mono ?_; rintro e wz ⟨rfl, gz⟩
            have hz : wz.heap[W.heap.size]? = some (factObj G) ∧ wz.heap[bg]? = some (factObj H) ∧ Below W.heap.size W wz := ⟨box_below HH.out.1 gz, box_below HH.out.2.1 gz, below_step HH.out.2.2 gz⟩
            clear gz HH
            refine hK.out _ _ (hz) (fun hHeld' => ?_)
            clear hK K hHeld
            have hHeld := hHeld'; clear hHeld'
            try simp only [Act.put, List.setIfInBounds_toArray, List.set_cons_zero, List.set_cons_succ]
            refine wpAnyH_take (i := 17) (oi := { dst := some 43, op := Op.move (Operand.tmp 42), type := 4, pos := "law.go:181", after := #[{ on := 16, ground := Ground.data }, { on := 13, ground := Ground.chain }, { on := 11, ground := Ground.guard }], guard := some (11, true) }) (v := ?vp117) rfl (by kernel_rfl) (by kernel_rfl) (by kernel_rfl) (fun _ _ _ h => h) (Or.inl ⟨by rfl, ?yp117⟩) (by assumption) ?tp117
            case yp117 => (intro wz hSw; clear hSw; go_simp; try with_reducible rfl)
            simp only [Act.put, List.setIfInBounds_toArray, List.set_cons_zero, List.set_cons_succ]
            refine wpAnyH_take (i := 18) (oi := { dst := some 44, op := Op.fieldAddr 23 (Operand.tmp 4) 3, type := 0, pos := "law.go:181", after := #[{ on := 17, ground := Ground.guard }], guard := some (17, true) }) (v := ?vp118) rfl (by kernel_rfl) (by kernel_rfl) (by kernel_rfl) (fun _ _ _ h => h) (Or.inl ⟨by rfl, ?yp118⟩) (by assumption) ?tp118
            case yp118 => (intro wz hSw; clear hSw; go_simp; try with_reducible rfl)
            simp only [Act.put, List.setIfInBounds_toArray, List.set_cons_zero, List.set_cons_succ]
            refine wpAnyH_take (i := 19) (oi := { dst := some 45, op := Op.load 3 (Operand.tmp 44), type := 3, pos := "law.go:181", after := #[{ on := 18, ground := Ground.data }, { on := 17, ground := Ground.guard }], guard := some (17, true) }) (v := ?vp119) rfl (by kernel_rfl) (by kernel_rfl) (by kernel_rfl) (fun _ _ _ h => h) (Or.inl ⟨by rfl, ?yp119⟩) (by assumption) ?tp119
            case yp119 => (intro wz hSw; have c3 := box_cell hSw.1 3 (.int .i64 G.d) rfl; clear hSw; go_simp; try with_reducible rfl)
            simp only [Act.put, List.setIfInBounds_toArray, List.set_cons_zero, List.set_cons_succ]
            refine wpAnyH_take (i := 20) (oi := { dst := some 46, op := Op.binOp BinOp.leq 3 (Operand.tmp 45) (Operand.const (Value.int IntKind.i64 100000)) 3, type := 4, pos := "law.go:181", after := #[{ on := 19, ground := Ground.data }, { on := 17, ground := Ground.guard }], guard := some (17, true) }) (v := ?vp120) rfl (by kernel_rfl) (by kernel_rfl) (by kernel_rfl) (fun _ _ _ h => h) (Or.inl ⟨by rfl, ?yp120⟩) (by assumption) ?tp120
            case yp120 => (intro wz hSw; clear hSw; go_simp; try with_reducible rfl)
            simp only [Act.put, List.setIfInBounds_toArray, List.set_cons_zero, List.set_cons_succ]
            refine wpAnyH_take (i := 21) (oi := { dst := some 47, op := Op.pick (Operand.tmp 43) (Operand.tmp 46) (Operand.const (Value.bool false)), type := 4, pos := "law.go:181", after := #[{ on := 17, ground := Ground.data }, { on := 20, ground := Ground.data }, { on := 11, ground := Ground.guard }], guard := some (11, true) }) (v := ?vp121) rfl (by kernel_rfl) (by kernel_rfl) (by kernel_rfl) (fun _ _ _ h => h) (Or.inl ⟨by rfl, ?yp121⟩) (by assumption) ?tp121
            case yp121 => (intro wz hSw; clear hSw; go_simp; try with_reducible rfl)
            simp only [Act.put, List.setIfInBounds_toArray, List.set_cons_zero, List.set_cons_succ]
            refine wpAnyH_take (i := 22) (oi := { dst := some 48, op := Op.binOp BinOp.neq 4 (Operand.tmp 39) (Operand.tmp 47) 4, type := 4, pos := "law.go:181", after := #[{ on := 13, ground := Ground.data }, { on := 21, ground := Ground.data }, { on := 11, ground := Ground.guard }], guard := some (11, true) }) (v := ?vp122) rfl (by kernel_rfl) (by kernel_rfl) (by kernel_rfl) (fun _ _ _ h => h) (Or.inl ⟨by rfl, ?yp122⟩) (by assumption) ?tp122
            case yp122 => (intro wz hSw; clear hSw; go_simp; try with_reducible rfl)
            simp only [Act.put, List.setIfInBounds_toArray, List.set_cons_zero, List.set_cons_succ]
            refine wpAnyH_take (i := 23) (oi := { dst := some 49, op := Op.pick (Operand.tmp 37) (Operand.tmp 48) (Operand.const (Value.bool false)), type := 4, pos := "law.go:181", after := #[{ on := 11, ground := Ground.data }, { on := 22, ground := Ground.data }, { on := 8, ground := Ground.guard }], guard := some (8, false) }) (v := ?vp123) rfl (by kernel_rfl) (by kernel_rfl) (by kernel_rfl) (fun _ _ _ h => h) (Or.inl ⟨by rfl, ?yp123⟩) (by assumption) ?tp123
            case yp123 => (intro wz hSw; clear hSw; go_simp; try with_reducible rfl)
            simp only [Act.put, List.setIfInBounds_toArray, List.set_cons_zero, List.set_cons_succ]
            refine wpAnyH_take (i := 24) (oi := { dst := some 50, op := Op.pick (Operand.tmp 34) (Operand.const (Value.bool true)) (Operand.tmp 49), type := 4, pos := "law.go:181", after := #[{ on := 8, ground := Ground.data }, { on := 23, ground := Ground.data }], guard := none }) (v := ?vp124) rfl (by kernel_rfl) (by kernel_rfl) (by kernel_rfl) (fun _ _ _ h => h) (Or.inl ⟨by rfl, ?yp124⟩) (by assumption) ?tp124
            case yp124 => (intro wz hSw; clear hSw; go_simp; try with_reducible rfl)
            simp only [Act.put, List.setIfInBounds_toArray, List.set_cons_zero, List.set_cons_succ]
            refine wpAnyH_done (by kernel_rfl) ?_ _
            have HF7 := Lib.hid hHeld.1
            have HG7 := Lib.hid hHeld.2.1
            have HB7 := Lib.hid hHeld.2.2
            clear hHeld
            have c2 := box_cell HG7.out 2 (.int .i64 H.v) rfl
            have z2 := box_fz HG7.out 2
            have l2 := lt_of_block HG7.out
            have HC := one_ch wz bg 2 (.int .i64 ver)
            have HF8 := Lib.hid ((HC.block _ (lt_of_block HF7.out) (by have := HNe.out; omega)).trans HF7.out)
            have HG8 := Lib.hid (show (wz.setCell ⟨bg, 2, none⟩ (.int .i64 ver)).heap[bg]? = some (factObj { H with v := ver }) from block_set HG7.out (o := 2) _)
            have HB8 := Lib.hid (HB7.out.trans (HC.below (B := W.heap.size) (Nat.le_of_lt (lt_of_block HF7.out)) (fun k e => by have := HNe.out; omega)))
            clear HC HF7 HB7
            go_upto_region 10 with (fail)
            clear c2 z2 l2 HG7 HVf HVg
            generalize wz.setCell ⟨bg, 2, none⟩ (.int .i64 ver) = w8 at *
            have HS2 := Lib.hid (show ({ H with v := ver } : Fact).tx.size ≤ maxLen from HSH.out)
            have HK2 := Lib.hid (HK.out ver)
            generalize ({ H with v := ver } : Fact) = J at *
            have HVf := Lib.hid (fun V h => valid_any G V h HS.out)
            have HVg := Lib.hid (fun V h => valid_any J V h HS2.out)
            have HKf := Lib.hid (fun V h => key_any G V h HS.out)
            have HKg := Lib.hid (fun V h => key_any J V h HS2.out)
            unfold BoolPost at HVf HVg
            unfold StrPost at HKf HKg
            rw [HvF.out] at HVf
            refine wp_region_held_drew (S := (fun v => v.heap[W.heap.size]? = some (factObj G) ∧ v.heap[bg]? = some (factObj J) ∧ Below W.heap.size W v)) (by kernel_rfl) (⟨HF8.out, HG8.out, HB8.out.drew⟩) (fun hHeld => ?_)
            generalize w8.drew = wd at *
            refine wpAnyH_take (i := 0) (oi := { dst := some 53, op := Op.move (Operand.tmp 9), type := 4, pos := "law.go:185", after := #[], guard := none }) (v := ?vp1n0) rfl (by kernel_rfl) (by kernel_rfl) (by kernel_rfl) (fun _ _ _ h => h) (Or.inl ⟨by rfl, ?yp1n0⟩) (by assumption) ?tp1n0
            case yp1n0 => (intro wz hSw; clear hSw; go_simp; try with_reducible rfl)
            simp only [Act.put, List.setIfInBounds_toArray, List.set_cons_zero, List.set_cons_succ]
            refine wpAnyH_take (i := 1) (oi := { dst := some 54, op := Op.move (Operand.tmp 53), type := 4, pos := "law.go:185", after := #[{ on := 0, ground := Ground.data }], guard := none }) (v := ?vp1n1) rfl (by kernel_rfl) (by kernel_rfl) (by kernel_rfl) (fun _ _ _ h => h) (Or.inl ⟨by rfl, ?yp1n1⟩) (by assumption) ?tp1n1
            case yp1n1 => (intro wz hSw; clear hSw; go_simp; try with_reducible rfl)
            simp only [Act.put, List.setIfInBounds_toArray, List.set_cons_zero, List.set_cons_succ]
            refine wpAnyH_take (i := 2) (oi := { dst := some 55, op := Op.load 23 (Operand.tmp 4), type := 23, pos := "law.go:185", after := #[{ on := 1, ground := Ground.guard }], guard := some (1, true) }) (v := factV G) rfl (by kernel_rfl) (by kernel_rfl) (by kernel_rfl) (fun _ _ _ h => h) (Or.inl ⟨by rfl, fun wz hSw => sem_load_fact _ rfl (W.heap.size) rfl G (hSw.1)⟩) (by assumption) ?tp1n2
            simp only [Act.put, List.setIfInBounds_toArray, List.set_cons_zero, List.set_cons_succ]
            refine wpAnyH_ready (rs := [3]) (by kernel_rfl) (by simp) ?_
            refine AllReadyH.cons (o := { dst := some 56, op := Op.call { callee := Callee.value (Operand.func 16), args := #[Operand.tmp 55], argTypes := #[23] }, type := 4, pos := "law.go:185", after := #[{ on := 2, ground := Ground.data }, { on := 1, ground := Ground.chain }, { on := 1, ground := Ground.guard }], guard := some (1, true) }) rfl (fun K hK => ?_) AllReadyH.nil
            have HH := Lib.hid hHeld
            go_simp
            refine (HVf.out _ (HTW.out.below HH.out.2.2)).mono ?_; rintro e wz ⟨rfl, gz⟩
            have hz : wz.heap[W.heap.size]? = some (factObj G) ∧ wz.heap[bg]? = some (factObj J) ∧ Below W.heap.size W wz := ⟨box_below HH.out.1 gz, box_below HH.out.2.1 gz, below_step HH.out.2.2 gz⟩
            clear gz HH
            refine hK.out _ _ (hz) (fun hHeld' => ?_)
            clear hK K hHeld
            have hHeld := hHeld'; clear hHeld'
            try simp only [Act.put, List.setIfInBounds_toArray, List.set_cons_zero, List.set_cons_succ]
            refine wpAnyH_take (i := 4) (oi := { dst := some 57, op := Op.unOp UnOp.not 4 (Operand.tmp 56), type := 4, pos := "law.go:185", after := #[{ on := 3, ground := Ground.data }, { on := 1, ground := Ground.guard }], guard := some (1, true) }) (v := ?vp1n4) rfl (by kernel_rfl) (by kernel_rfl) (by kernel_rfl) (fun _ _ _ h => h) (Or.inl ⟨by rfl, ?yp1n4⟩) (by assumption) ?tp1n4
            case yp1n4 => (intro wz hSw; clear hSw; go_simp; try with_reducible rfl)
            simp only [Act.put, List.setIfInBounds_toArray, List.set_cons_zero, List.set_cons_succ]
            refine wpAnyH_take (i := 5) (oi := { dst := some 58, op := Op.move (Operand.tmp 57), type := 4, pos := "law.go:185", after := #[{ on := 4, ground := Ground.data }, { on := 3, ground := Ground.chain }, { on := 1, ground := Ground.guard }], guard := some (1, true) }) (v := ?vp1n5) rfl (by kernel_rfl) (by kernel_rfl) (by kernel_rfl) (fun _ _ _ h => h) (Or.inl ⟨by rfl, ?yp1n5⟩) (by assumption) ?tp1n5
            case yp1n5 => (intro wz hSw; clear hSw; go_simp; try with_reducible rfl)
            simp only [Act.put, List.setIfInBounds_toArray, List.set_cons_zero, List.set_cons_succ]
            refine wpAnyH_take (i := 6) (oi := { dst := some 59, op := Op.load 23 (Operand.tmp 10), type := 23, pos := "law.go:185", after := #[{ on := 5, ground := Ground.guard }], guard := some (5, false) }) (v := undef) rfl (by kernel_rfl) (by kernel_rfl) (by kernel_rfl) (fun _ _ _ h => h) (Or.inr ⟨by rfl, rfl⟩) (by assumption) ?_
            simp only [Act.put, List.setIfInBounds_toArray, List.set_cons_zero, List.set_cons_succ]
            refine wpAnyH_take (i := 7) (oi := { dst := some 60, op := Op.call { callee := Callee.value (Operand.func 16), args := #[Operand.tmp 59], argTypes := #[23] }, type := 4, pos := "law.go:185", after := #[{ on := 6, ground := Ground.data }, { on := 5, ground := Ground.chain }, { on := 5, ground := Ground.guard }], guard := some (5, false) }) (v := undef) rfl (by kernel_rfl) (by kernel_rfl) (by kernel_rfl) (fun _ _ _ h => h) (Or.inr ⟨by rfl, rfl⟩) (by assumption) ?_
            simp only [Act.put, List.setIfInBounds_toArray, List.set_cons_zero, List.set_cons_succ]
            refine wpAnyH_take (i := 8) (oi := { dst := some 61, op := Op.unOp UnOp.not 4 (Operand.tmp 60), type := 4, pos := "law.go:185", after := #[{ on := 7, ground := Ground.data }, { on := 5, ground := Ground.guard }], guard := some (5, false) }) (v := undef) rfl (by kernel_rfl) (by kernel_rfl) (by kernel_rfl) (fun _ _ _ h => h) (Or.inr ⟨by rfl, rfl⟩) (by assumption) ?_
            simp only [Act.put, List.setIfInBounds_toArray, List.set_cons_zero, List.set_cons_succ]
            refine wpAnyH_take (i := 9) (oi := { dst := some 62, op := Op.pick (Operand.tmp 58) (Operand.const (Value.bool true)) (Operand.tmp 61), type := 4, pos := "law.go:185", after := #[{ on := 5, ground := Ground.data }, { on := 8, ground := Ground.data }, { on := 1, ground := Ground.guard }], guard := some (1, true) }) (v := ?vp1n9) rfl (by kernel_rfl) (by kernel_rfl) (by kernel_rfl) (fun _ _ _ h => h) (Or.inl ⟨by rfl, ?yp1n9⟩) (by assumption) ?tp1n9
            case yp1n9 => (intro wz hSw; clear hSw; go_simp; try with_reducible rfl)
            simp only [Act.put, List.setIfInBounds_toArray, List.set_cons_zero, List.set_cons_succ]
            refine wpAnyH_take (i := 10) (oi := { dst := some 63, op := Op.move (Operand.tmp 62), type := 4, pos := "law.go:185", after := #[{ on := 9, ground := Ground.data }, { on := 7, ground := Ground.chain }, { on := 1, ground := Ground.guard }], guard := some (1, true) }) (v := ?vp1n10) rfl (by kernel_rfl) (by kernel_rfl) (by kernel_rfl) (fun _ _ _ h => h) (Or.inl ⟨by rfl, ?yp1n10⟩) (by assumption) ?tp1n10
            case yp1n10 => (intro wz hSw; clear hSw; go_simp; try with_reducible rfl)
            simp only [Act.put, List.setIfInBounds_toArray, List.set_cons_zero, List.set_cons_succ]
            refine wpAnyH_take (i := 11) (oi := { dst := some 64, op := Op.load 23 (Operand.tmp 4), type := 23, pos := "law.go:185", after := #[{ on := 10, ground := Ground.guard }], guard := some (10, false) }) (v := undef) rfl (by kernel_rfl) (by kernel_rfl) (by kernel_rfl) (fun _ _ _ h => h) (Or.inr ⟨by rfl, rfl⟩) (by assumption) ?_
            simp only [Act.put, List.setIfInBounds_toArray, List.set_cons_zero, List.set_cons_succ]
            refine wpAnyH_take (i := 12) (oi := { dst := some 65, op := Op.call { callee := Callee.value (Operand.func 18), args := #[Operand.tmp 64], argTypes := #[23] }, type := 9, pos := "law.go:185", after := #[{ on := 11, ground := Ground.data }, { on := 10, ground := Ground.chain }, { on := 10, ground := Ground.guard }], guard := some (10, false) }) (v := undef) rfl (by kernel_rfl) (by kernel_rfl) (by kernel_rfl) (fun _ _ _ h => h) (Or.inr ⟨by rfl, rfl⟩) (by assumption) ?_
            simp only [Act.put, List.setIfInBounds_toArray, List.set_cons_zero, List.set_cons_succ]
            refine wpAnyH_take (i := 13) (oi := { dst := some 66, op := Op.load 23 (Operand.tmp 10), type := 23, pos := "law.go:185", after := #[{ on := 10, ground := Ground.guard }], guard := some (10, false) }) (v := undef) rfl (by kernel_rfl) (by kernel_rfl) (by kernel_rfl) (fun _ _ _ h => h) (Or.inr ⟨by rfl, rfl⟩) (by assumption) ?_
            simp only [Act.put, List.setIfInBounds_toArray, List.set_cons_zero, List.set_cons_succ]
            refine wpAnyH_take (i := 14) (oi := { dst := some 67, op := Op.call { callee := Callee.value (Operand.func 18), args := #[Operand.tmp 66], argTypes := #[23] }, type := 9, pos := "law.go:185", after := #[{ on := 13, ground := Ground.data }, { on := 12, ground := Ground.chain }, { on := 10, ground := Ground.guard }], guard := some (10, false) }) (v := undef) rfl (by kernel_rfl) (by kernel_rfl) (by kernel_rfl) (fun _ _ _ h => h) (Or.inr ⟨by rfl, rfl⟩) (by assumption) ?_
            simp only [Act.put, List.setIfInBounds_toArray, List.set_cons_zero, List.set_cons_succ]
            refine wpAnyH_take (i := 15) (oi := { dst := some 68, op := Op.binOp BinOp.eql 9 (Operand.tmp 65) (Operand.tmp 67) 9, type := 4, pos := "law.go:185", after := #[{ on := 12, ground := Ground.data }, { on := 14, ground := Ground.data }, { on := 10, ground := Ground.guard }], guard := some (10, false) }) (v := undef) rfl (by kernel_rfl) (by kernel_rfl) (by kernel_rfl) (fun _ _ _ h => h) (Or.inr ⟨by rfl, rfl⟩) (by assumption) ?_
            simp only [Act.put, List.setIfInBounds_toArray, List.set_cons_zero, List.set_cons_succ]
            refine wpAnyH_take (i := 16) (oi := { dst := some 69, op := Op.pick (Operand.tmp 63) (Operand.const (Value.bool true)) (Operand.tmp 68), type := 4, pos := "law.go:185", after := #[{ on := 10, ground := Ground.data }, { on := 15, ground := Ground.data }, { on := 1, ground := Ground.guard }], guard := some (1, true) }) (v := ?vp1n16) rfl (by kernel_rfl) (by kernel_rfl) (by kernel_rfl) (fun _ _ _ h => h) (Or.inl ⟨by rfl, ?yp1n16⟩) (by assumption) ?tp1n16
            case yp1n16 => (intro wz hSw; clear hSw; go_simp; try with_reducible rfl)
            simp only [Act.put, List.setIfInBounds_toArray, List.set_cons_zero, List.set_cons_succ]
            refine wpAnyH_take (i := 17) (oi := { dst := some 70, op := Op.pick (Operand.tmp 54) (Operand.tmp 69) (Operand.const (Value.bool false)), type := 4, pos := "law.go:185", after := #[{ on := 1, ground := Ground.data }, { on := 16, ground := Ground.data }], guard := none }) (v := ?vp1n17) rfl (by kernel_rfl) (by kernel_rfl) (by kernel_rfl) (fun _ _ _ h => h) (Or.inl ⟨by rfl, ?yp1n17⟩) (by assumption) ?tp1n17
            case yp1n17 => (intro wz hSw; clear hSw; go_simp; try with_reducible rfl)
            simp only [Act.put, List.setIfInBounds_toArray, List.set_cons_zero, List.set_cons_succ]
            refine wpAnyH_take (i := 18) (oi := { dst := some 8, op := Op.assign (Operand.tmp 70), type := 4, pos := "law.go:185", after := #[{ on := 17, ground := Ground.data }, { on := 14, ground := Ground.chain }, { on := 0, ground := Ground.phase }, { on := 1, ground := Ground.phase }, { on := 2, ground := Ground.phase }, { on := 3, ground := Ground.phase }, { on := 4, ground := Ground.phase }, { on := 5, ground := Ground.phase }, { on := 6, ground := Ground.phase }, { on := 7, ground := Ground.phase }, { on := 8, ground := Ground.phase }, { on := 9, ground := Ground.phase }, { on := 10, ground := Ground.phase }, { on := 11, ground := Ground.phase }, { on := 12, ground := Ground.phase }, { on := 13, ground := Ground.phase }, { on := 14, ground := Ground.phase }, { on := 15, ground := Ground.phase }, { on := 16, ground := Ground.phase }, { on := 17, ground := Ground.phase }], guard := none }) (v := ?vp1n18) rfl (by kernel_rfl) (by kernel_rfl) (by kernel_rfl) (fun _ _ _ h => h) (Or.inl ⟨by rfl, ?yp1n18⟩) (by assumption) ?tp1n18
            case yp1n18 => (intro wz hSw; clear hSw; go_simp; try with_reducible rfl)
            simp only [Act.put, List.setIfInBounds_toArray, List.set_cons_zero, List.set_cons_succ]
            refine wpAnyH_done (by kernel_rfl) ?_ _
            have HFin := Lib.hid hHeld
            go_wp2_with fail
            go_ret
            exact ⟨rfl, HFin.out.2.2⟩
          · skip
            refine wp_region_held_drew (S := (fun v => v.heap[W.heap.size]? = some (factObj G) ∧ v.heap[bg]? = some (factObj H) ∧ Below W.heap.size W v)) (by kernel_rfl) (⟨HF5.out, HG5.out, HB5.out.drew⟩) (fun hHeld => ?_)
            generalize w5.drew = wd at *
            refine wpAnyH_take (i := 0) (oi := { dst := some 26, op := Op.load 23 (Operand.tmp 4), type := 23, pos := "law.go:181", after := #[], guard := none }) (v := factV G) rfl (by kernel_rfl) (by kernel_rfl) (by kernel_rfl) (fun _ _ _ h => h) (Or.inl ⟨by rfl, fun wz hSw => sem_load_fact _ rfl (W.heap.size) rfl G (hSw.1)⟩) (by assumption) ?tp20
            simp only [Act.put, List.setIfInBounds_toArray, List.set_cons_zero, List.set_cons_succ]
            refine wpAnyH_ready (rs := [1]) (by kernel_rfl) (by simp) ?_
            refine AllReadyH.cons (o := { dst := some 27, op := Op.call { callee := Callee.value (Operand.func 16), args := #[Operand.tmp 26], argTypes := #[23] }, type := 4, pos := "law.go:181", after := #[{ on := 0, ground := Ground.data }], guard := none }) rfl (fun K hK => ?_) AllReadyH.nil
            have HH := Lib.hid hHeld
            go_simp
            refine (HVf.out _ (HTW.out.below HH.out.2.2)).mono ?_; rintro e wz ⟨rfl, gz⟩
            have hz : wz.heap[W.heap.size]? = some (factObj G) ∧ wz.heap[bg]? = some (factObj H) ∧ Below W.heap.size W wz := ⟨box_below HH.out.1 gz, box_below HH.out.2.1 gz, below_step HH.out.2.2 gz⟩
            clear gz HH
            refine hK.out _ _ (hz) (fun hHeld' => ?_)
            clear hK K hHeld
            have hHeld := hHeld'; clear hHeld'
            try simp only [Act.put, List.setIfInBounds_toArray, List.set_cons_zero, List.set_cons_succ]
            refine wpAnyH_take (i := 2) (oi := { dst := some 28, op := Op.move (Operand.tmp 27), type := 4, pos := "law.go:181", after := #[{ on := 1, ground := Ground.data }, { on := 1, ground := Ground.chain }], guard := none }) (v := ?vp22) rfl (by kernel_rfl) (by kernel_rfl) (by kernel_rfl) (fun _ _ _ h => h) (Or.inl ⟨by rfl, ?yp22⟩) (by assumption) ?tp22
            case yp22 => (intro wz hSw; clear hSw; go_simp; try with_reducible rfl)
            simp only [Act.put, List.setIfInBounds_toArray, List.set_cons_zero, List.set_cons_succ]
            refine wpAnyH_take (i := 3) (oi := { dst := some 29, op := Op.load 23 (Operand.tmp 10), type := 23, pos := "law.go:181", after := #[{ on := 2, ground := Ground.guard }], guard := some (2, true) }) (v := undef) rfl (by kernel_rfl) (by kernel_rfl) (by kernel_rfl) (fun _ _ _ h => h) (Or.inr ⟨by rfl, rfl⟩) (by assumption) ?_
            simp only [Act.put, List.setIfInBounds_toArray, List.set_cons_zero, List.set_cons_succ]
            refine wpAnyH_take (i := 4) (oi := { dst := some 30, op := Op.call { callee := Callee.value (Operand.func 16), args := #[Operand.tmp 29], argTypes := #[23] }, type := 4, pos := "law.go:181", after := #[{ on := 3, ground := Ground.data }, { on := 2, ground := Ground.chain }, { on := 2, ground := Ground.guard }], guard := some (2, true) }) (v := undef) rfl (by kernel_rfl) (by kernel_rfl) (by kernel_rfl) (fun _ _ _ h => h) (Or.inr ⟨by rfl, rfl⟩) (by assumption) ?_
            simp only [Act.put, List.setIfInBounds_toArray, List.set_cons_zero, List.set_cons_succ]
            refine wpAnyH_take (i := 5) (oi := { dst := some 31, op := Op.move (Operand.tmp 11), type := 4, pos := "law.go:181", after := #[{ on := 2, ground := Ground.guard }], guard := some (2, true) }) (v := undef) rfl (by kernel_rfl) (by kernel_rfl) (by kernel_rfl) (fun _ _ _ h => h) (Or.inr ⟨by rfl, rfl⟩) (by assumption) ?_
            simp only [Act.put, List.setIfInBounds_toArray, List.set_cons_zero, List.set_cons_succ]
            refine wpAnyH_take (i := 6) (oi := { dst := some 32, op := Op.binOp BinOp.neq 4 (Operand.tmp 30) (Operand.tmp 31) 4, type := 4, pos := "law.go:181", after := #[{ on := 4, ground := Ground.data }, { on := 5, ground := Ground.data }, { on := 2, ground := Ground.guard }], guard := some (2, true) }) (v := undef) rfl (by kernel_rfl) (by kernel_rfl) (by kernel_rfl) (fun _ _ _ h => h) (Or.inr ⟨by rfl, rfl⟩) (by assumption) ?_
            simp only [Act.put, List.setIfInBounds_toArray, List.set_cons_zero, List.set_cons_succ]
            refine wpAnyH_take (i := 7) (oi := { dst := some 33, op := Op.pick (Operand.tmp 28) (Operand.tmp 32) (Operand.const (Value.bool false)), type := 4, pos := "law.go:181", after := #[{ on := 2, ground := Ground.data }, { on := 6, ground := Ground.data }], guard := none }) (v := ?vp27) rfl (by kernel_rfl) (by kernel_rfl) (by kernel_rfl) (fun _ _ _ h => h) (Or.inl ⟨by rfl, ?yp27⟩) (by assumption) ?tp27
            case yp27 => (intro wz hSw; clear hSw; go_simp; try with_reducible rfl)
            simp only [Act.put, List.setIfInBounds_toArray, List.set_cons_zero, List.set_cons_succ]
            refine wpAnyH_take (i := 8) (oi := { dst := some 34, op := Op.move (Operand.tmp 33), type := 4, pos := "law.go:181", after := #[{ on := 7, ground := Ground.data }, { on := 4, ground := Ground.chain }], guard := none }) (v := ?vp28) rfl (by kernel_rfl) (by kernel_rfl) (by kernel_rfl) (fun _ _ _ h => h) (Or.inl ⟨by rfl, ?yp28⟩) (by assumption) ?tp28
            case yp28 => (intro wz hSw; clear hSw; go_simp; try with_reducible rfl)
            simp only [Act.put, List.setIfInBounds_toArray, List.set_cons_zero, List.set_cons_succ]
            refine wpAnyH_take (i := 9) (oi := { dst := some 35, op := Op.load 23 (Operand.tmp 10), type := 23, pos := "law.go:181", after := #[{ on := 8, ground := Ground.guard }], guard := some (8, false) }) (v := factV H) rfl (by kernel_rfl) (by kernel_rfl) (by kernel_rfl) (fun _ _ _ h => h) (Or.inl ⟨by rfl, fun wz hSw => sem_load_fact _ rfl (bg) rfl H (hSw.2.1)⟩) (by assumption) ?tp29
            simp only [Act.put, List.setIfInBounds_toArray, List.set_cons_zero, List.set_cons_succ]
            refine wpAnyH_ready (rs := [10]) (by kernel_rfl) (by simp) ?_
            refine AllReadyH.cons (o := { dst := some 36, op := Op.call { callee := Callee.value (Operand.func 16), args := #[Operand.tmp 35], argTypes := #[23] }, type := 4, pos := "law.go:181", after := #[{ on := 9, ground := Ground.data }, { on := 8, ground := Ground.chain }, { on := 8, ground := Ground.guard }], guard := some (8, false) }) rfl (fun K hK => ?_) AllReadyH.nil
            have HH := Lib.hid hHeld
            go_simp
            refine (HVg.out _ (HTW.out.below HH.out.2.2)).mono ?_; rintro e wz ⟨rfl, gz⟩
            have hz : wz.heap[W.heap.size]? = some (factObj G) ∧ wz.heap[bg]? = some (factObj H) ∧ Below W.heap.size W wz := ⟨box_below HH.out.1 gz, box_below HH.out.2.1 gz, below_step HH.out.2.2 gz⟩
            clear gz HH
            refine hK.out _ _ (hz) (fun hHeld' => ?_)
            clear hK K hHeld
            have hHeld := hHeld'; clear hHeld'
            try simp only [Act.put, List.setIfInBounds_toArray, List.set_cons_zero, List.set_cons_succ]
            refine wpAnyH_take (i := 11) (oi := { dst := some 37, op := Op.move (Operand.tmp 36), type := 4, pos := "law.go:181", after := #[{ on := 10, ground := Ground.data }, { on := 10, ground := Ground.chain }, { on := 8, ground := Ground.guard }], guard := some (8, false) }) (v := ?vp211) rfl (by kernel_rfl) (by kernel_rfl) (by kernel_rfl) (fun _ _ _ h => h) (Or.inl ⟨by rfl, ?yp211⟩) (by assumption) ?tp211
            case yp211 => (intro wz hSw; clear hSw; go_simp; try with_reducible rfl)
            simp only [Act.put, List.setIfInBounds_toArray, List.set_cons_zero, List.set_cons_succ]
            refine wpAnyH_take (i := 12) (oi := { dst := some 38, op := Op.load 23 (Operand.tmp 4), type := 23, pos := "law.go:181", after := #[{ on := 11, ground := Ground.guard }], guard := some (11, true) }) (v := factV G) rfl (by kernel_rfl) (by kernel_rfl) (by kernel_rfl) (fun _ _ _ h => h) (Or.inl ⟨by rfl, fun wz hSw => sem_load_fact _ rfl (W.heap.size) rfl G (hSw.1)⟩) (by assumption) ?tp212
            simp only [Act.put, List.setIfInBounds_toArray, List.set_cons_zero, List.set_cons_succ]
            refine wpAnyH_take (i := 14) (oi := { dst := some 40, op := Op.fieldAddr 23 (Operand.tmp 4) 3, type := 0, pos := "law.go:181", after := #[{ on := 11, ground := Ground.guard }], guard := some (11, true) }) (v := ?vp214) rfl (by kernel_rfl) (by kernel_rfl) (by kernel_rfl) (fun _ _ _ h => h) (Or.inl ⟨by rfl, ?yp214⟩) (by assumption) ?tp214
            case yp214 => (intro wz hSw; clear hSw; go_simp; try with_reducible rfl)
            simp only [Act.put, List.setIfInBounds_toArray, List.set_cons_zero, List.set_cons_succ]
            refine wpAnyH_take (i := 15) (oi := { dst := some 41, op := Op.load 3 (Operand.tmp 40), type := 3, pos := "law.go:181", after := #[{ on := 14, ground := Ground.data }, { on := 11, ground := Ground.guard }], guard := some (11, true) }) (v := ?vp215) rfl (by kernel_rfl) (by kernel_rfl) (by kernel_rfl) (fun _ _ _ h => h) (Or.inl ⟨by rfl, ?yp215⟩) (by assumption) ?tp215
            case yp215 => (intro wz hSw; have c3 := box_cell hSw.1 3 (.int .i64 G.d) rfl; clear hSw; go_simp; try with_reducible rfl)
            simp only [Act.put, List.setIfInBounds_toArray, List.set_cons_zero, List.set_cons_succ]
            refine wpAnyH_take (i := 16) (oi := { dst := some 42, op := Op.binOp BinOp.geq 3 (Operand.tmp 41) (Operand.const (Value.int IntKind.i64 0)) 3, type := 4, pos := "law.go:181", after := #[{ on := 15, ground := Ground.data }, { on := 11, ground := Ground.guard }], guard := some (11, true) }) (v := ?vp216) rfl (by kernel_rfl) (by kernel_rfl) (by kernel_rfl) (fun _ _ _ h => h) (Or.inl ⟨by rfl, ?yp216⟩) (by assumption) ?tp216
            case yp216 => (intro wz hSw; clear hSw; go_simp; try with_reducible rfl)
            simp only [Act.put, List.setIfInBounds_toArray, List.set_cons_zero, List.set_cons_succ]
            refine wpAnyH_ready (rs := [13]) (by kernel_rfl) (by simp) ?_
            refine AllReadyH.cons (o := { dst := some 39, op := Op.call { callee := Callee.value (Operand.func 16), args := #[Operand.tmp 38], argTypes := #[23] }, type := 4, pos := "law.go:181", after := #[{ on := 12, ground := Ground.data }, { on := 11, ground := Ground.chain }, { on := 11, ground := Ground.guard }], guard := some (11, true) }) rfl (fun K hK => ?_) AllReadyH.nil
            have HH := Lib.hid hHeld
            go_simp
            refine (HVf.out _ (HTW.out.below HH.out.2.2)).mono ?_; rintro e wz ⟨rfl, gz⟩
            have hz : wz.heap[W.heap.size]? = some (factObj G) ∧ wz.heap[bg]? = some (factObj H) ∧ Below W.heap.size W wz := ⟨box_below HH.out.1 gz, box_below HH.out.2.1 gz, below_step HH.out.2.2 gz⟩
            clear gz HH
            refine hK.out _ _ (hz) (fun hHeld' => ?_)
            clear hK K hHeld
            have hHeld := hHeld'; clear hHeld'
            try simp only [Act.put, List.setIfInBounds_toArray, List.set_cons_zero, List.set_cons_succ]
            refine wpAnyH_take (i := 17) (oi := { dst := some 43, op := Op.move (Operand.tmp 42), type := 4, pos := "law.go:181", after := #[{ on := 16, ground := Ground.data }, { on := 13, ground := Ground.chain }, { on := 11, ground := Ground.guard }], guard := some (11, true) }) (v := ?vp217) rfl (by kernel_rfl) (by kernel_rfl) (by kernel_rfl) (fun _ _ _ h => h) (Or.inl ⟨by rfl, ?yp217⟩) (by assumption) ?tp217
            case yp217 => (intro wz hSw; clear hSw; go_simp; try with_reducible rfl)
            simp only [Act.put, List.setIfInBounds_toArray, List.set_cons_zero, List.set_cons_succ]
            refine wpAnyH_take (i := 18) (oi := { dst := some 44, op := Op.fieldAddr 23 (Operand.tmp 4) 3, type := 0, pos := "law.go:181", after := #[{ on := 17, ground := Ground.guard }], guard := some (17, true) }) (v := undef) rfl (by kernel_rfl) (by kernel_rfl) (by kernel_rfl) (fun _ _ _ h => h) (Or.inr ⟨by rfl, rfl⟩) (by assumption) ?_
            simp only [Act.put, List.setIfInBounds_toArray, List.set_cons_zero, List.set_cons_succ]
            refine wpAnyH_take (i := 19) (oi := { dst := some 45, op := Op.load 3 (Operand.tmp 44), type := 3, pos := "law.go:181", after := #[{ on := 18, ground := Ground.data }, { on := 17, ground := Ground.guard }], guard := some (17, true) }) (v := undef) rfl (by kernel_rfl) (by kernel_rfl) (by kernel_rfl) (fun _ _ _ h => h) (Or.inr ⟨by rfl, rfl⟩) (by assumption) ?_
            simp only [Act.put, List.setIfInBounds_toArray, List.set_cons_zero, List.set_cons_succ]
            refine wpAnyH_take (i := 20) (oi := { dst := some 46, op := Op.binOp BinOp.leq 3 (Operand.tmp 45) (Operand.const (Value.int IntKind.i64 100000)) 3, type := 4, pos := "law.go:181", after := #[{ on := 19, ground := Ground.data }, { on := 17, ground := Ground.guard }], guard := some (17, true) }) (v := undef) rfl (by kernel_rfl) (by kernel_rfl) (by kernel_rfl) (fun _ _ _ h => h) (Or.inr ⟨by rfl, rfl⟩) (by assumption) ?_
            simp only [Act.put, List.setIfInBounds_toArray, List.set_cons_zero, List.set_cons_succ]
            refine wpAnyH_take (i := 21) (oi := { dst := some 47, op := Op.pick (Operand.tmp 43) (Operand.tmp 46) (Operand.const (Value.bool false)), type := 4, pos := "law.go:181", after := #[{ on := 17, ground := Ground.data }, { on := 20, ground := Ground.data }, { on := 11, ground := Ground.guard }], guard := some (11, true) }) (v := ?vp221) rfl (by kernel_rfl) (by kernel_rfl) (by kernel_rfl) (fun _ _ _ h => h) (Or.inl ⟨by rfl, ?yp221⟩) (by assumption) ?tp221
            case yp221 => (intro wz hSw; clear hSw; go_simp; try with_reducible rfl)
            simp only [Act.put, List.setIfInBounds_toArray, List.set_cons_zero, List.set_cons_succ]
            refine wpAnyH_take (i := 22) (oi := { dst := some 48, op := Op.binOp BinOp.neq 4 (Operand.tmp 39) (Operand.tmp 47) 4, type := 4, pos := "law.go:181", after := #[{ on := 13, ground := Ground.data }, { on := 21, ground := Ground.data }, { on := 11, ground := Ground.guard }], guard := some (11, true) }) (v := ?vp222) rfl (by kernel_rfl) (by kernel_rfl) (by kernel_rfl) (fun _ _ _ h => h) (Or.inl ⟨by rfl, ?yp222⟩) (by assumption) ?tp222
            case yp222 => (intro wz hSw; clear hSw; go_simp; try with_reducible rfl)
            simp only [Act.put, List.setIfInBounds_toArray, List.set_cons_zero, List.set_cons_succ]
            refine wpAnyH_take (i := 23) (oi := { dst := some 49, op := Op.pick (Operand.tmp 37) (Operand.tmp 48) (Operand.const (Value.bool false)), type := 4, pos := "law.go:181", after := #[{ on := 11, ground := Ground.data }, { on := 22, ground := Ground.data }, { on := 8, ground := Ground.guard }], guard := some (8, false) }) (v := ?vp223) rfl (by kernel_rfl) (by kernel_rfl) (by kernel_rfl) (fun _ _ _ h => h) (Or.inl ⟨by rfl, ?yp223⟩) (by assumption) ?tp223
            case yp223 => (intro wz hSw; clear hSw; go_simp; try with_reducible rfl)
            simp only [Act.put, List.setIfInBounds_toArray, List.set_cons_zero, List.set_cons_succ]
            refine wpAnyH_take (i := 24) (oi := { dst := some 50, op := Op.pick (Operand.tmp 34) (Operand.const (Value.bool true)) (Operand.tmp 49), type := 4, pos := "law.go:181", after := #[{ on := 8, ground := Ground.data }, { on := 23, ground := Ground.data }], guard := none }) (v := ?vp224) rfl (by kernel_rfl) (by kernel_rfl) (by kernel_rfl) (fun _ _ _ h => h) (Or.inl ⟨by rfl, ?yp224⟩) (by assumption) ?tp224
            case yp224 => (intro wz hSw; clear hSw; go_simp; try with_reducible rfl)
            simp only [Act.put, List.setIfInBounds_toArray, List.set_cons_zero, List.set_cons_succ]
            refine wpAnyH_done (by kernel_rfl) ?_ _
            have HF7 := Lib.hid hHeld.1
            have HG7 := Lib.hid hHeld.2.1
            have HB7 := Lib.hid hHeld.2.2
            clear hHeld
            have c2 := box_cell HG7.out 2 (.int .i64 H.v) rfl
            have z2 := box_fz HG7.out 2
            have l2 := lt_of_block HG7.out
            have HC := one_ch wz bg 2 (.int .i64 ver)
            have HF8 := Lib.hid ((HC.block _ (lt_of_block HF7.out) (by have := HNe.out; omega)).trans HF7.out)
            have HG8 := Lib.hid (show (wz.setCell ⟨bg, 2, none⟩ (.int .i64 ver)).heap[bg]? = some (factObj { H with v := ver }) from block_set HG7.out (o := 2) _)
            have HB8 := Lib.hid (HB7.out.trans (HC.below (B := W.heap.size) (Nat.le_of_lt (lt_of_block HF7.out)) (fun k e => by have := HNe.out; omega)))
            clear HC HF7 HB7
            go_upto_region 10 with (fail)
            clear c2 z2 l2 HG7 HVf HVg
            generalize wz.setCell ⟨bg, 2, none⟩ (.int .i64 ver) = w8 at *
            have HS2 := Lib.hid (show ({ H with v := ver } : Fact).tx.size ≤ maxLen from HSH.out)
            have HK2 := Lib.hid (HK.out ver)
            generalize ({ H with v := ver } : Fact) = J at *
            have HVf := Lib.hid (fun V h => valid_any G V h HS.out)
            have HVg := Lib.hid (fun V h => valid_any J V h HS2.out)
            have HKf := Lib.hid (fun V h => key_any G V h HS.out)
            have HKg := Lib.hid (fun V h => key_any J V h HS2.out)
            unfold BoolPost at HVf HVg
            unfold StrPost at HKf HKg
            rw [HvF.out] at HVf
            refine wp_region_held_drew (S := (fun v => v.heap[W.heap.size]? = some (factObj G) ∧ v.heap[bg]? = some (factObj J) ∧ Below W.heap.size W v)) (by kernel_rfl) (⟨HF8.out, HG8.out, HB8.out.drew⟩) (fun hHeld => ?_)
            generalize w8.drew = wd at *
            refine wpAnyH_take (i := 0) (oi := { dst := some 53, op := Op.move (Operand.tmp 9), type := 4, pos := "law.go:185", after := #[], guard := none }) (v := ?vp2n0) rfl (by kernel_rfl) (by kernel_rfl) (by kernel_rfl) (fun _ _ _ h => h) (Or.inl ⟨by rfl, ?yp2n0⟩) (by assumption) ?tp2n0
            case yp2n0 => (intro wz hSw; clear hSw; go_simp; try with_reducible rfl)
            simp only [Act.put, List.setIfInBounds_toArray, List.set_cons_zero, List.set_cons_succ]
            refine wpAnyH_take (i := 1) (oi := { dst := some 54, op := Op.move (Operand.tmp 53), type := 4, pos := "law.go:185", after := #[{ on := 0, ground := Ground.data }], guard := none }) (v := ?vp2n1) rfl (by kernel_rfl) (by kernel_rfl) (by kernel_rfl) (fun _ _ _ h => h) (Or.inl ⟨by rfl, ?yp2n1⟩) (by assumption) ?tp2n1
            case yp2n1 => (intro wz hSw; clear hSw; go_simp; try with_reducible rfl)
            simp only [Act.put, List.setIfInBounds_toArray, List.set_cons_zero, List.set_cons_succ]
            refine wpAnyH_take (i := 2) (oi := { dst := some 55, op := Op.load 23 (Operand.tmp 4), type := 23, pos := "law.go:185", after := #[{ on := 1, ground := Ground.guard }], guard := some (1, true) }) (v := factV G) rfl (by kernel_rfl) (by kernel_rfl) (by kernel_rfl) (fun _ _ _ h => h) (Or.inl ⟨by rfl, fun wz hSw => sem_load_fact _ rfl (W.heap.size) rfl G (hSw.1)⟩) (by assumption) ?tp2n2
            simp only [Act.put, List.setIfInBounds_toArray, List.set_cons_zero, List.set_cons_succ]
            refine wpAnyH_ready (rs := [3]) (by kernel_rfl) (by simp) ?_
            refine AllReadyH.cons (o := { dst := some 56, op := Op.call { callee := Callee.value (Operand.func 16), args := #[Operand.tmp 55], argTypes := #[23] }, type := 4, pos := "law.go:185", after := #[{ on := 2, ground := Ground.data }, { on := 1, ground := Ground.chain }, { on := 1, ground := Ground.guard }], guard := some (1, true) }) rfl (fun K hK => ?_) AllReadyH.nil
            have HH := Lib.hid hHeld
            go_simp
            refine (HVf.out _ (HTW.out.below HH.out.2.2)).mono ?_; rintro e wz ⟨rfl, gz⟩
            have hz : wz.heap[W.heap.size]? = some (factObj G) ∧ wz.heap[bg]? = some (factObj J) ∧ Below W.heap.size W wz := ⟨box_below HH.out.1 gz, box_below HH.out.2.1 gz, below_step HH.out.2.2 gz⟩
            clear gz HH
            refine hK.out _ _ (hz) (fun hHeld' => ?_)
            clear hK K hHeld
            have hHeld := hHeld'; clear hHeld'
            try simp only [Act.put, List.setIfInBounds_toArray, List.set_cons_zero, List.set_cons_succ]
            refine wpAnyH_take (i := 4) (oi := { dst := some 57, op := Op.unOp UnOp.not 4 (Operand.tmp 56), type := 4, pos := "law.go:185", after := #[{ on := 3, ground := Ground.data }, { on := 1, ground := Ground.guard }], guard := some (1, true) }) (v := ?vp2n4) rfl (by kernel_rfl) (by kernel_rfl) (by kernel_rfl) (fun _ _ _ h => h) (Or.inl ⟨by rfl, ?yp2n4⟩) (by assumption) ?tp2n4
            case yp2n4 => (intro wz hSw; clear hSw; go_simp; try with_reducible rfl)
            simp only [Act.put, List.setIfInBounds_toArray, List.set_cons_zero, List.set_cons_succ]
            refine wpAnyH_take (i := 5) (oi := { dst := some 58, op := Op.move (Operand.tmp 57), type := 4, pos := "law.go:185", after := #[{ on := 4, ground := Ground.data }, { on := 3, ground := Ground.chain }, { on := 1, ground := Ground.guard }], guard := some (1, true) }) (v := ?vp2n5) rfl (by kernel_rfl) (by kernel_rfl) (by kernel_rfl) (fun _ _ _ h => h) (Or.inl ⟨by rfl, ?yp2n5⟩) (by assumption) ?tp2n5
            case yp2n5 => (intro wz hSw; clear hSw; go_simp; try with_reducible rfl)
            simp only [Act.put, List.setIfInBounds_toArray, List.set_cons_zero, List.set_cons_succ]
            refine wpAnyH_take (i := 6) (oi := { dst := some 59, op := Op.load 23 (Operand.tmp 10), type := 23, pos := "law.go:185", after := #[{ on := 5, ground := Ground.guard }], guard := some (5, false) }) (v := undef) rfl (by kernel_rfl) (by kernel_rfl) (by kernel_rfl) (fun _ _ _ h => h) (Or.inr ⟨by rfl, rfl⟩) (by assumption) ?_
            simp only [Act.put, List.setIfInBounds_toArray, List.set_cons_zero, List.set_cons_succ]
            refine wpAnyH_take (i := 7) (oi := { dst := some 60, op := Op.call { callee := Callee.value (Operand.func 16), args := #[Operand.tmp 59], argTypes := #[23] }, type := 4, pos := "law.go:185", after := #[{ on := 6, ground := Ground.data }, { on := 5, ground := Ground.chain }, { on := 5, ground := Ground.guard }], guard := some (5, false) }) (v := undef) rfl (by kernel_rfl) (by kernel_rfl) (by kernel_rfl) (fun _ _ _ h => h) (Or.inr ⟨by rfl, rfl⟩) (by assumption) ?_
            simp only [Act.put, List.setIfInBounds_toArray, List.set_cons_zero, List.set_cons_succ]
            refine wpAnyH_take (i := 8) (oi := { dst := some 61, op := Op.unOp UnOp.not 4 (Operand.tmp 60), type := 4, pos := "law.go:185", after := #[{ on := 7, ground := Ground.data }, { on := 5, ground := Ground.guard }], guard := some (5, false) }) (v := undef) rfl (by kernel_rfl) (by kernel_rfl) (by kernel_rfl) (fun _ _ _ h => h) (Or.inr ⟨by rfl, rfl⟩) (by assumption) ?_
            simp only [Act.put, List.setIfInBounds_toArray, List.set_cons_zero, List.set_cons_succ]
            refine wpAnyH_take (i := 9) (oi := { dst := some 62, op := Op.pick (Operand.tmp 58) (Operand.const (Value.bool true)) (Operand.tmp 61), type := 4, pos := "law.go:185", after := #[{ on := 5, ground := Ground.data }, { on := 8, ground := Ground.data }, { on := 1, ground := Ground.guard }], guard := some (1, true) }) (v := ?vp2n9) rfl (by kernel_rfl) (by kernel_rfl) (by kernel_rfl) (fun _ _ _ h => h) (Or.inl ⟨by rfl, ?yp2n9⟩) (by assumption) ?tp2n9
            case yp2n9 => (intro wz hSw; clear hSw; go_simp; try with_reducible rfl)
            simp only [Act.put, List.setIfInBounds_toArray, List.set_cons_zero, List.set_cons_succ]
            refine wpAnyH_take (i := 10) (oi := { dst := some 63, op := Op.move (Operand.tmp 62), type := 4, pos := "law.go:185", after := #[{ on := 9, ground := Ground.data }, { on := 7, ground := Ground.chain }, { on := 1, ground := Ground.guard }], guard := some (1, true) }) (v := ?vp2n10) rfl (by kernel_rfl) (by kernel_rfl) (by kernel_rfl) (fun _ _ _ h => h) (Or.inl ⟨by rfl, ?yp2n10⟩) (by assumption) ?tp2n10
            case yp2n10 => (intro wz hSw; clear hSw; go_simp; try with_reducible rfl)
            simp only [Act.put, List.setIfInBounds_toArray, List.set_cons_zero, List.set_cons_succ]
            refine wpAnyH_take (i := 11) (oi := { dst := some 64, op := Op.load 23 (Operand.tmp 4), type := 23, pos := "law.go:185", after := #[{ on := 10, ground := Ground.guard }], guard := some (10, false) }) (v := undef) rfl (by kernel_rfl) (by kernel_rfl) (by kernel_rfl) (fun _ _ _ h => h) (Or.inr ⟨by rfl, rfl⟩) (by assumption) ?_
            simp only [Act.put, List.setIfInBounds_toArray, List.set_cons_zero, List.set_cons_succ]
            refine wpAnyH_take (i := 12) (oi := { dst := some 65, op := Op.call { callee := Callee.value (Operand.func 18), args := #[Operand.tmp 64], argTypes := #[23] }, type := 9, pos := "law.go:185", after := #[{ on := 11, ground := Ground.data }, { on := 10, ground := Ground.chain }, { on := 10, ground := Ground.guard }], guard := some (10, false) }) (v := undef) rfl (by kernel_rfl) (by kernel_rfl) (by kernel_rfl) (fun _ _ _ h => h) (Or.inr ⟨by rfl, rfl⟩) (by assumption) ?_
            simp only [Act.put, List.setIfInBounds_toArray, List.set_cons_zero, List.set_cons_succ]
            refine wpAnyH_take (i := 13) (oi := { dst := some 66, op := Op.load 23 (Operand.tmp 10), type := 23, pos := "law.go:185", after := #[{ on := 10, ground := Ground.guard }], guard := some (10, false) }) (v := undef) rfl (by kernel_rfl) (by kernel_rfl) (by kernel_rfl) (fun _ _ _ h => h) (Or.inr ⟨by rfl, rfl⟩) (by assumption) ?_
            simp only [Act.put, List.setIfInBounds_toArray, List.set_cons_zero, List.set_cons_succ]
            refine wpAnyH_take (i := 14) (oi := { dst := some 67, op := Op.call { callee := Callee.value (Operand.func 18), args := #[Operand.tmp 66], argTypes := #[23] }, type := 9, pos := "law.go:185", after := #[{ on := 13, ground := Ground.data }, { on := 12, ground := Ground.chain }, { on := 10, ground := Ground.guard }], guard := some (10, false) }) (v := undef) rfl (by kernel_rfl) (by kernel_rfl) (by kernel_rfl) (fun _ _ _ h => h) (Or.inr ⟨by rfl, rfl⟩) (by assumption) ?_
            simp only [Act.put, List.setIfInBounds_toArray, List.set_cons_zero, List.set_cons_succ]
            refine wpAnyH_take (i := 15) (oi := { dst := some 68, op := Op.binOp BinOp.eql 9 (Operand.tmp 65) (Operand.tmp 67) 9, type := 4, pos := "law.go:185", after := #[{ on := 12, ground := Ground.data }, { on := 14, ground := Ground.data }, { on := 10, ground := Ground.guard }], guard := some (10, false) }) (v := undef) rfl (by kernel_rfl) (by kernel_rfl) (by kernel_rfl) (fun _ _ _ h => h) (Or.inr ⟨by rfl, rfl⟩) (by assumption) ?_
            simp only [Act.put, List.setIfInBounds_toArray, List.set_cons_zero, List.set_cons_succ]
            refine wpAnyH_take (i := 16) (oi := { dst := some 69, op := Op.pick (Operand.tmp 63) (Operand.const (Value.bool true)) (Operand.tmp 68), type := 4, pos := "law.go:185", after := #[{ on := 10, ground := Ground.data }, { on := 15, ground := Ground.data }, { on := 1, ground := Ground.guard }], guard := some (1, true) }) (v := ?vp2n16) rfl (by kernel_rfl) (by kernel_rfl) (by kernel_rfl) (fun _ _ _ h => h) (Or.inl ⟨by rfl, ?yp2n16⟩) (by assumption) ?tp2n16
            case yp2n16 => (intro wz hSw; clear hSw; go_simp; try with_reducible rfl)
            simp only [Act.put, List.setIfInBounds_toArray, List.set_cons_zero, List.set_cons_succ]
            refine wpAnyH_take (i := 17) (oi := { dst := some 70, op := Op.pick (Operand.tmp 54) (Operand.tmp 69) (Operand.const (Value.bool false)), type := 4, pos := "law.go:185", after := #[{ on := 1, ground := Ground.data }, { on := 16, ground := Ground.data }], guard := none }) (v := ?vp2n17) rfl (by kernel_rfl) (by kernel_rfl) (by kernel_rfl) (fun _ _ _ h => h) (Or.inl ⟨by rfl, ?yp2n17⟩) (by assumption) ?tp2n17
            case yp2n17 => (intro wz hSw; clear hSw; go_simp; try with_reducible rfl)
            simp only [Act.put, List.setIfInBounds_toArray, List.set_cons_zero, List.set_cons_succ]
            refine wpAnyH_take (i := 18) (oi := { dst := some 8, op := Op.assign (Operand.tmp 70), type := 4, pos := "law.go:185", after := #[{ on := 17, ground := Ground.data }, { on := 14, ground := Ground.chain }, { on := 0, ground := Ground.phase }, { on := 1, ground := Ground.phase }, { on := 2, ground := Ground.phase }, { on := 3, ground := Ground.phase }, { on := 4, ground := Ground.phase }, { on := 5, ground := Ground.phase }, { on := 6, ground := Ground.phase }, { on := 7, ground := Ground.phase }, { on := 8, ground := Ground.phase }, { on := 9, ground := Ground.phase }, { on := 10, ground := Ground.phase }, { on := 11, ground := Ground.phase }, { on := 12, ground := Ground.phase }, { on := 13, ground := Ground.phase }, { on := 14, ground := Ground.phase }, { on := 15, ground := Ground.phase }, { on := 16, ground := Ground.phase }, { on := 17, ground := Ground.phase }], guard := none }) (v := ?vp2n18) rfl (by kernel_rfl) (by kernel_rfl) (by kernel_rfl) (fun _ _ _ h => h) (Or.inl ⟨by rfl, ?yp2n18⟩) (by assumption) ?tp2n18
            case yp2n18 => (intro wz hSw; clear hSw; go_simp; try with_reducible rfl)
            simp only [Act.put, List.setIfInBounds_toArray, List.set_cons_zero, List.set_cons_succ]
            refine wpAnyH_done (by kernel_rfl) ?_ _
            have HFin := Lib.hid hHeld
            go_wp2_with fail
            go_ret
            exact ⟨rfl, HFin.out.2.2⟩
      | true =>
        have hvg : validB H = true := (HInG.out hvf).2 HIn.out
        obtain ⟨hd0, hd1⟩ := (valid_iff.1 hvf).2.2.1
        unfold BoolPost at HVf HVg
        have HvF := Lib.hid hvf
        rw [hvf] at HVf
        rw [hvg] at HVg
        clear hvf hvg
        refine wp_region_held_drew (S := (fun v => v.heap[W.heap.size]? = some (factObj G) ∧ v.heap[bg]? = some (factObj H) ∧ Below W.heap.size W v)) (by kernel_rfl) (⟨HF5.out, HG5.out, HB5.out.drew⟩) (fun hHeld => ?_)
        generalize w5.drew = wd at *
        refine wpAnyH_take (i := 0) (oi := { dst := some 26, op := Op.load 23 (Operand.tmp 4), type := 23, pos := "law.go:181", after := #[], guard := none }) (v := factV G) rfl (by kernel_rfl) (by kernel_rfl) (by kernel_rfl) (fun _ _ _ h => h) (Or.inl ⟨by rfl, fun wz hSw => sem_load_fact _ rfl (W.heap.size) rfl G (hSw.1)⟩) (by assumption) ?tp30
        simp only [Act.put, List.setIfInBounds_toArray, List.set_cons_zero, List.set_cons_succ]
        refine wpAnyH_ready (rs := [1]) (by kernel_rfl) (by simp) ?_
        refine AllReadyH.cons (o := { dst := some 27, op := Op.call { callee := Callee.value (Operand.func 16), args := #[Operand.tmp 26], argTypes := #[23] }, type := 4, pos := "law.go:181", after := #[{ on := 0, ground := Ground.data }], guard := none }) rfl (fun K hK => ?_) AllReadyH.nil
        have HH := Lib.hid hHeld
        go_simp
        refine (HVf.out _ (HTW.out.below HH.out.2.2)).mono ?_; rintro e wz ⟨rfl, gz⟩
        have hz : wz.heap[W.heap.size]? = some (factObj G) ∧ wz.heap[bg]? = some (factObj H) ∧ Below W.heap.size W wz := ⟨box_below HH.out.1 gz, box_below HH.out.2.1 gz, below_step HH.out.2.2 gz⟩
        clear gz HH
        refine hK.out _ _ (hz) (fun hHeld' => ?_)
        clear hK K hHeld
        have hHeld := hHeld'; clear hHeld'
        try simp only [Act.put, List.setIfInBounds_toArray, List.set_cons_zero, List.set_cons_succ]
        refine wpAnyH_take (i := 2) (oi := { dst := some 28, op := Op.move (Operand.tmp 27), type := 4, pos := "law.go:181", after := #[{ on := 1, ground := Ground.data }, { on := 1, ground := Ground.chain }], guard := none }) (v := ?vp32) rfl (by kernel_rfl) (by kernel_rfl) (by kernel_rfl) (fun _ _ _ h => h) (Or.inl ⟨by rfl, ?yp32⟩) (by assumption) ?tp32
        case yp32 => (intro wz hSw; clear hSw; go_simp; try with_reducible rfl)
        simp only [Act.put, List.setIfInBounds_toArray, List.set_cons_zero, List.set_cons_succ]
        refine wpAnyH_take (i := 3) (oi := { dst := some 29, op := Op.load 23 (Operand.tmp 10), type := 23, pos := "law.go:181", after := #[{ on := 2, ground := Ground.guard }], guard := some (2, true) }) (v := factV H) rfl (by kernel_rfl) (by kernel_rfl) (by kernel_rfl) (fun _ _ _ h => h) (Or.inl ⟨by rfl, fun wz hSw => sem_load_fact _ rfl (bg) rfl H (hSw.2.1)⟩) (by assumption) ?tp33
        simp only [Act.put, List.setIfInBounds_toArray, List.set_cons_zero, List.set_cons_succ]
        refine wpAnyH_take (i := 5) (oi := { dst := some 31, op := Op.move (Operand.tmp 11), type := 4, pos := "law.go:181", after := #[{ on := 2, ground := Ground.guard }], guard := some (2, true) }) (v := ?vp35) rfl (by kernel_rfl) (by kernel_rfl) (by kernel_rfl) (fun _ _ _ h => h) (Or.inl ⟨by rfl, ?yp35⟩) (by assumption) ?tp35
        case yp35 => (intro wz hSw; clear hSw; go_simp; try with_reducible rfl)
        simp only [Act.put, List.setIfInBounds_toArray, List.set_cons_zero, List.set_cons_succ]
        refine wpAnyH_ready (rs := [4]) (by kernel_rfl) (by simp) ?_
        refine AllReadyH.cons (o := { dst := some 30, op := Op.call { callee := Callee.value (Operand.func 16), args := #[Operand.tmp 29], argTypes := #[23] }, type := 4, pos := "law.go:181", after := #[{ on := 3, ground := Ground.data }, { on := 2, ground := Ground.chain }, { on := 2, ground := Ground.guard }], guard := some (2, true) }) rfl (fun K hK => ?_) AllReadyH.nil
        have HH := Lib.hid hHeld
        go_simp
        refine (HVg.out _ (HTW.out.below HH.out.2.2)).mono ?_; rintro e wz ⟨rfl, gz⟩
        have hz : wz.heap[W.heap.size]? = some (factObj G) ∧ wz.heap[bg]? = some (factObj H) ∧ Below W.heap.size W wz := ⟨box_below HH.out.1 gz, box_below HH.out.2.1 gz, below_step HH.out.2.2 gz⟩
        clear gz HH
        refine hK.out _ _ (hz) (fun hHeld' => ?_)
        clear hK K hHeld
        have hHeld := hHeld'; clear hHeld'
        try simp only [Act.put, List.setIfInBounds_toArray, List.set_cons_zero, List.set_cons_succ]
        refine wpAnyH_take (i := 6) (oi := { dst := some 32, op := Op.binOp BinOp.neq 4 (Operand.tmp 30) (Operand.tmp 31) 4, type := 4, pos := "law.go:181", after := #[{ on := 4, ground := Ground.data }, { on := 5, ground := Ground.data }, { on := 2, ground := Ground.guard }], guard := some (2, true) }) (v := ?vp36) rfl (by kernel_rfl) (by kernel_rfl) (by kernel_rfl) (fun _ _ _ h => h) (Or.inl ⟨by rfl, ?yp36⟩) (by assumption) ?tp36
        case yp36 => (intro wz hSw; clear hSw; go_simp; try with_reducible rfl)
        simp only [Act.put, List.setIfInBounds_toArray, List.set_cons_zero, List.set_cons_succ]
        refine wpAnyH_take (i := 7) (oi := { dst := some 33, op := Op.pick (Operand.tmp 28) (Operand.tmp 32) (Operand.const (Value.bool false)), type := 4, pos := "law.go:181", after := #[{ on := 2, ground := Ground.data }, { on := 6, ground := Ground.data }], guard := none }) (v := ?vp37) rfl (by kernel_rfl) (by kernel_rfl) (by kernel_rfl) (fun _ _ _ h => h) (Or.inl ⟨by rfl, ?yp37⟩) (by assumption) ?tp37
        case yp37 => (intro wz hSw; clear hSw; go_simp; try with_reducible rfl)
        simp only [Act.put, List.setIfInBounds_toArray, List.set_cons_zero, List.set_cons_succ]
        refine wpAnyH_take (i := 8) (oi := { dst := some 34, op := Op.move (Operand.tmp 33), type := 4, pos := "law.go:181", after := #[{ on := 7, ground := Ground.data }, { on := 4, ground := Ground.chain }], guard := none }) (v := ?vp38) rfl (by kernel_rfl) (by kernel_rfl) (by kernel_rfl) (fun _ _ _ h => h) (Or.inl ⟨by rfl, ?yp38⟩) (by assumption) ?tp38
        case yp38 => (intro wz hSw; clear hSw; go_simp; try with_reducible rfl)
        simp only [Act.put, List.setIfInBounds_toArray, List.set_cons_zero, List.set_cons_succ]
        refine wpAnyH_take (i := 9) (oi := { dst := some 35, op := Op.load 23 (Operand.tmp 10), type := 23, pos := "law.go:181", after := #[{ on := 8, ground := Ground.guard }], guard := some (8, false) }) (v := factV H) rfl (by kernel_rfl) (by kernel_rfl) (by kernel_rfl) (fun _ _ _ h => h) (Or.inl ⟨by rfl, fun wz hSw => sem_load_fact _ rfl (bg) rfl H (hSw.2.1)⟩) (by assumption) ?tp39
        simp only [Act.put, List.setIfInBounds_toArray, List.set_cons_zero, List.set_cons_succ]
        refine wpAnyH_ready (rs := [10]) (by kernel_rfl) (by simp) ?_
        refine AllReadyH.cons (o := { dst := some 36, op := Op.call { callee := Callee.value (Operand.func 16), args := #[Operand.tmp 35], argTypes := #[23] }, type := 4, pos := "law.go:181", after := #[{ on := 9, ground := Ground.data }, { on := 8, ground := Ground.chain }, { on := 8, ground := Ground.guard }], guard := some (8, false) }) rfl (fun K hK => ?_) AllReadyH.nil
        have HH := Lib.hid hHeld
        go_simp
        refine (HVg.out _ (HTW.out.below HH.out.2.2)).mono ?_; rintro e wz ⟨rfl, gz⟩
        have hz : wz.heap[W.heap.size]? = some (factObj G) ∧ wz.heap[bg]? = some (factObj H) ∧ Below W.heap.size W wz := ⟨box_below HH.out.1 gz, box_below HH.out.2.1 gz, below_step HH.out.2.2 gz⟩
        clear gz HH
        refine hK.out _ _ (hz) (fun hHeld' => ?_)
        clear hK K hHeld
        have hHeld := hHeld'; clear hHeld'
        try simp only [Act.put, List.setIfInBounds_toArray, List.set_cons_zero, List.set_cons_succ]
        refine wpAnyH_take (i := 11) (oi := { dst := some 37, op := Op.move (Operand.tmp 36), type := 4, pos := "law.go:181", after := #[{ on := 10, ground := Ground.data }, { on := 10, ground := Ground.chain }, { on := 8, ground := Ground.guard }], guard := some (8, false) }) (v := ?vp311) rfl (by kernel_rfl) (by kernel_rfl) (by kernel_rfl) (fun _ _ _ h => h) (Or.inl ⟨by rfl, ?yp311⟩) (by assumption) ?tp311
        case yp311 => (intro wz hSw; clear hSw; go_simp; try with_reducible rfl)
        simp only [Act.put, List.setIfInBounds_toArray, List.set_cons_zero, List.set_cons_succ]
        refine wpAnyH_take (i := 12) (oi := { dst := some 38, op := Op.load 23 (Operand.tmp 4), type := 23, pos := "law.go:181", after := #[{ on := 11, ground := Ground.guard }], guard := some (11, true) }) (v := factV G) rfl (by kernel_rfl) (by kernel_rfl) (by kernel_rfl) (fun _ _ _ h => h) (Or.inl ⟨by rfl, fun wz hSw => sem_load_fact _ rfl (W.heap.size) rfl G (hSw.1)⟩) (by assumption) ?tp312
        simp only [Act.put, List.setIfInBounds_toArray, List.set_cons_zero, List.set_cons_succ]
        refine wpAnyH_take (i := 14) (oi := { dst := some 40, op := Op.fieldAddr 23 (Operand.tmp 4) 3, type := 0, pos := "law.go:181", after := #[{ on := 11, ground := Ground.guard }], guard := some (11, true) }) (v := ?vp314) rfl (by kernel_rfl) (by kernel_rfl) (by kernel_rfl) (fun _ _ _ h => h) (Or.inl ⟨by rfl, ?yp314⟩) (by assumption) ?tp314
        case yp314 => (intro wz hSw; clear hSw; go_simp; try with_reducible rfl)
        simp only [Act.put, List.setIfInBounds_toArray, List.set_cons_zero, List.set_cons_succ]
        refine wpAnyH_take (i := 15) (oi := { dst := some 41, op := Op.load 3 (Operand.tmp 40), type := 3, pos := "law.go:181", after := #[{ on := 14, ground := Ground.data }, { on := 11, ground := Ground.guard }], guard := some (11, true) }) (v := ?vp315) rfl (by kernel_rfl) (by kernel_rfl) (by kernel_rfl) (fun _ _ _ h => h) (Or.inl ⟨by rfl, ?yp315⟩) (by assumption) ?tp315
        case yp315 => (intro wz hSw; have c3 := box_cell hSw.1 3 (.int .i64 G.d) rfl; clear hSw; go_simp; try with_reducible rfl)
        simp only [Act.put, List.setIfInBounds_toArray, List.set_cons_zero, List.set_cons_succ]
        refine wpAnyH_take (i := 16) (oi := { dst := some 42, op := Op.binOp BinOp.geq 3 (Operand.tmp 41) (Operand.const (Value.int IntKind.i64 0)) 3, type := 4, pos := "law.go:181", after := #[{ on := 15, ground := Ground.data }, { on := 11, ground := Ground.guard }], guard := some (11, true) }) (v := ?vp316) rfl (by kernel_rfl) (by kernel_rfl) (by kernel_rfl) (fun _ _ _ h => h) (Or.inl ⟨by rfl, ?yp316⟩) (by assumption) ?tp316
        case yp316 => (intro wz hSw; clear hSw; go_simp; try with_reducible rfl)
        simp only [Act.put, List.setIfInBounds_toArray, List.set_cons_zero, List.set_cons_succ]
        refine wpAnyH_ready (rs := [13]) (by kernel_rfl) (by simp) ?_
        refine AllReadyH.cons (o := { dst := some 39, op := Op.call { callee := Callee.value (Operand.func 16), args := #[Operand.tmp 38], argTypes := #[23] }, type := 4, pos := "law.go:181", after := #[{ on := 12, ground := Ground.data }, { on := 11, ground := Ground.chain }, { on := 11, ground := Ground.guard }], guard := some (11, true) }) rfl (fun K hK => ?_) AllReadyH.nil
        have HH := Lib.hid hHeld
        go_simp
        refine (HVf.out _ (HTW.out.below HH.out.2.2)).mono ?_; rintro e wz ⟨rfl, gz⟩
        have hz : wz.heap[W.heap.size]? = some (factObj G) ∧ wz.heap[bg]? = some (factObj H) ∧ Below W.heap.size W wz := ⟨box_below HH.out.1 gz, box_below HH.out.2.1 gz, below_step HH.out.2.2 gz⟩
        clear gz HH
        refine hK.out _ _ (hz) (fun hHeld' => ?_)
        clear hK K hHeld
        have hHeld := hHeld'; clear hHeld'
        try simp only [Act.put, List.setIfInBounds_toArray, List.set_cons_zero, List.set_cons_succ]
        refine wpAnyH_take (i := 17) (oi := { dst := some 43, op := Op.move (Operand.tmp 42), type := 4, pos := "law.go:181", after := #[{ on := 16, ground := Ground.data }, { on := 13, ground := Ground.chain }, { on := 11, ground := Ground.guard }], guard := some (11, true) }) (v := ?vp317) rfl (by kernel_rfl) (by kernel_rfl) (by kernel_rfl) (fun _ _ _ h => h) (Or.inl ⟨by rfl, ?yp317⟩) (by assumption) ?tp317
        case yp317 => (intro wz hSw; clear hSw; go_simp; try with_reducible rfl)
        simp only [Act.put, List.setIfInBounds_toArray, List.set_cons_zero, List.set_cons_succ]
        refine wpAnyH_take (i := 18) (oi := { dst := some 44, op := Op.fieldAddr 23 (Operand.tmp 4) 3, type := 0, pos := "law.go:181", after := #[{ on := 17, ground := Ground.guard }], guard := some (17, true) }) (v := ?vp318) rfl (by kernel_rfl) (by kernel_rfl) (by kernel_rfl) (fun _ _ _ h => h) (Or.inl ⟨by rfl, ?yp318⟩) (by assumption) ?tp318
        case yp318 => (intro wz hSw; clear hSw; go_simp; try with_reducible rfl)
        simp only [Act.put, List.setIfInBounds_toArray, List.set_cons_zero, List.set_cons_succ]
        refine wpAnyH_take (i := 19) (oi := { dst := some 45, op := Op.load 3 (Operand.tmp 44), type := 3, pos := "law.go:181", after := #[{ on := 18, ground := Ground.data }, { on := 17, ground := Ground.guard }], guard := some (17, true) }) (v := ?vp319) rfl (by kernel_rfl) (by kernel_rfl) (by kernel_rfl) (fun _ _ _ h => h) (Or.inl ⟨by rfl, ?yp319⟩) (by assumption) ?tp319
        case yp319 => (intro wz hSw; have c3 := box_cell hSw.1 3 (.int .i64 G.d) rfl; clear hSw; go_simp; try with_reducible rfl)
        simp only [Act.put, List.setIfInBounds_toArray, List.set_cons_zero, List.set_cons_succ]
        refine wpAnyH_take (i := 20) (oi := { dst := some 46, op := Op.binOp BinOp.leq 3 (Operand.tmp 45) (Operand.const (Value.int IntKind.i64 100000)) 3, type := 4, pos := "law.go:181", after := #[{ on := 19, ground := Ground.data }, { on := 17, ground := Ground.guard }], guard := some (17, true) }) (v := ?vp320) rfl (by kernel_rfl) (by kernel_rfl) (by kernel_rfl) (fun _ _ _ h => h) (Or.inl ⟨by rfl, ?yp320⟩) (by assumption) ?tp320
        case yp320 => (intro wz hSw; clear hSw; go_simp; try with_reducible rfl)
        simp only [Act.put, List.setIfInBounds_toArray, List.set_cons_zero, List.set_cons_succ]
        refine wpAnyH_take (i := 21) (oi := { dst := some 47, op := Op.pick (Operand.tmp 43) (Operand.tmp 46) (Operand.const (Value.bool false)), type := 4, pos := "law.go:181", after := #[{ on := 17, ground := Ground.data }, { on := 20, ground := Ground.data }, { on := 11, ground := Ground.guard }], guard := some (11, true) }) (v := ?vp321) rfl (by kernel_rfl) (by kernel_rfl) (by kernel_rfl) (fun _ _ _ h => h) (Or.inl ⟨by rfl, ?yp321⟩) (by assumption) ?tp321
        case yp321 => (intro wz hSw; clear hSw; go_simp; try with_reducible rfl)
        simp only [Act.put, List.setIfInBounds_toArray, List.set_cons_zero, List.set_cons_succ]
        refine wpAnyH_take (i := 22) (oi := { dst := some 48, op := Op.binOp BinOp.neq 4 (Operand.tmp 39) (Operand.tmp 47) 4, type := 4, pos := "law.go:181", after := #[{ on := 13, ground := Ground.data }, { on := 21, ground := Ground.data }, { on := 11, ground := Ground.guard }], guard := some (11, true) }) (v := ?vp322) rfl (by kernel_rfl) (by kernel_rfl) (by kernel_rfl) (fun _ _ _ h => h) (Or.inl ⟨by rfl, ?yp322⟩) (by assumption) ?tp322
        case yp322 => (intro wz hSw; clear hSw; go_simp; try with_reducible rfl)
        simp only [Act.put, List.setIfInBounds_toArray, List.set_cons_zero, List.set_cons_succ]
        refine wpAnyH_take (i := 23) (oi := { dst := some 49, op := Op.pick (Operand.tmp 37) (Operand.tmp 48) (Operand.const (Value.bool false)), type := 4, pos := "law.go:181", after := #[{ on := 11, ground := Ground.data }, { on := 22, ground := Ground.data }, { on := 8, ground := Ground.guard }], guard := some (8, false) }) (v := ?vp323) rfl (by kernel_rfl) (by kernel_rfl) (by kernel_rfl) (fun _ _ _ h => h) (Or.inl ⟨by rfl, ?yp323⟩) (by assumption) ?tp323
        case yp323 => (intro wz hSw; clear hSw; go_simp; try with_reducible rfl)
        simp only [Act.put, List.setIfInBounds_toArray, List.set_cons_zero, List.set_cons_succ]
        refine wpAnyH_take (i := 24) (oi := { dst := some 50, op := Op.pick (Operand.tmp 34) (Operand.const (Value.bool true)) (Operand.tmp 49), type := 4, pos := "law.go:181", after := #[{ on := 8, ground := Ground.data }, { on := 23, ground := Ground.data }], guard := none }) (v := ?vp324) rfl (by kernel_rfl) (by kernel_rfl) (by kernel_rfl) (fun _ _ _ h => h) (Or.inl ⟨by rfl, ?yp324⟩) (by assumption) ?tp324
        case yp324 => (intro wz hSw; clear hSw; go_simp; try with_reducible rfl)
        simp only [Act.put, List.setIfInBounds_toArray, List.set_cons_zero, List.set_cons_succ]
        refine wpAnyH_done (by kernel_rfl) ?_ _
        have HF7 := Lib.hid hHeld.1
        have HG7 := Lib.hid hHeld.2.1
        have HB7 := Lib.hid hHeld.2.2
        clear hHeld
        have c2 := box_cell HG7.out 2 (.int .i64 H.v) rfl
        have z2 := box_fz HG7.out 2
        have l2 := lt_of_block HG7.out
        have HC := one_ch wz bg 2 (.int .i64 ver)
        have HF8 := Lib.hid ((HC.block _ (lt_of_block HF7.out) (by have := HNe.out; omega)).trans HF7.out)
        have HG8 := Lib.hid (show (wz.setCell ⟨bg, 2, none⟩ (.int .i64 ver)).heap[bg]? = some (factObj { H with v := ver }) from block_set HG7.out (o := 2) _)
        have HB8 := Lib.hid (HB7.out.trans (HC.below (B := W.heap.size) (Nat.le_of_lt (lt_of_block HF7.out)) (fun k e => by have := HNe.out; omega)))
        clear HC HF7 HB7
        go_upto_region 10 with (fail)
        clear c2 z2 l2 HG7 HVf HVg
        generalize wz.setCell ⟨bg, 2, none⟩ (.int .i64 ver) = w8 at *
        have HS2 := Lib.hid (show ({ H with v := ver } : Fact).tx.size ≤ maxLen from HSH.out)
        have HK2 := Lib.hid (HK.out ver)
        generalize ({ H with v := ver } : Fact) = J at *
        have HVf := Lib.hid (fun V h => valid_any G V h HS.out)
        have HVg := Lib.hid (fun V h => valid_any J V h HS2.out)
        have HKf := Lib.hid (fun V h => key_any G V h HS.out)
        have HKg := Lib.hid (fun V h => key_any J V h HS2.out)
        unfold BoolPost at HVf HVg
        unfold StrPost at HKf HKg
        rw [HvF.out] at HVf
        cases hk : validB J with
        | false =>
          rw [hk] at HVg
          clear hk
          refine wp_region_held_drew (S := (fun v => v.heap[W.heap.size]? = some (factObj G) ∧ v.heap[bg]? = some (factObj J) ∧ Below W.heap.size W v)) (by kernel_rfl) (⟨HF8.out, HG8.out, HB8.out.drew⟩) (fun hHeld => ?_)
          generalize w8.drew = wd at *
          refine wpAnyH_take (i := 0) (oi := { dst := some 53, op := Op.move (Operand.tmp 9), type := 4, pos := "law.go:185", after := #[], guard := none }) (v := ?vp3n0) rfl (by kernel_rfl) (by kernel_rfl) (by kernel_rfl) (fun _ _ _ h => h) (Or.inl ⟨by rfl, ?yp3n0⟩) (by assumption) ?tp3n0
          case yp3n0 => (intro wz hSw; clear hSw; go_simp; try with_reducible rfl)
          simp only [Act.put, List.setIfInBounds_toArray, List.set_cons_zero, List.set_cons_succ]
          refine wpAnyH_take (i := 1) (oi := { dst := some 54, op := Op.move (Operand.tmp 53), type := 4, pos := "law.go:185", after := #[{ on := 0, ground := Ground.data }], guard := none }) (v := ?vp3n1) rfl (by kernel_rfl) (by kernel_rfl) (by kernel_rfl) (fun _ _ _ h => h) (Or.inl ⟨by rfl, ?yp3n1⟩) (by assumption) ?tp3n1
          case yp3n1 => (intro wz hSw; clear hSw; go_simp; try with_reducible rfl)
          simp only [Act.put, List.setIfInBounds_toArray, List.set_cons_zero, List.set_cons_succ]
          refine wpAnyH_take (i := 2) (oi := { dst := some 55, op := Op.load 23 (Operand.tmp 4), type := 23, pos := "law.go:185", after := #[{ on := 1, ground := Ground.guard }], guard := some (1, true) }) (v := factV G) rfl (by kernel_rfl) (by kernel_rfl) (by kernel_rfl) (fun _ _ _ h => h) (Or.inl ⟨by rfl, fun wz hSw => sem_load_fact _ rfl (W.heap.size) rfl G (hSw.1)⟩) (by assumption) ?tp3n2
          simp only [Act.put, List.setIfInBounds_toArray, List.set_cons_zero, List.set_cons_succ]
          refine wpAnyH_ready (rs := [3]) (by kernel_rfl) (by simp) ?_
          refine AllReadyH.cons (o := { dst := some 56, op := Op.call { callee := Callee.value (Operand.func 16), args := #[Operand.tmp 55], argTypes := #[23] }, type := 4, pos := "law.go:185", after := #[{ on := 2, ground := Ground.data }, { on := 1, ground := Ground.chain }, { on := 1, ground := Ground.guard }], guard := some (1, true) }) rfl (fun K hK => ?_) AllReadyH.nil
          have HH := Lib.hid hHeld
          go_simp
          refine (HVf.out _ (HTW.out.below HH.out.2.2)).mono ?_; rintro e wz ⟨rfl, gz⟩
          have hz : wz.heap[W.heap.size]? = some (factObj G) ∧ wz.heap[bg]? = some (factObj J) ∧ Below W.heap.size W wz := ⟨box_below HH.out.1 gz, box_below HH.out.2.1 gz, below_step HH.out.2.2 gz⟩
          clear gz HH
          refine hK.out _ _ (hz) (fun hHeld' => ?_)
          clear hK K hHeld
          have hHeld := hHeld'; clear hHeld'
          try simp only [Act.put, List.setIfInBounds_toArray, List.set_cons_zero, List.set_cons_succ]
          refine wpAnyH_take (i := 4) (oi := { dst := some 57, op := Op.unOp UnOp.not 4 (Operand.tmp 56), type := 4, pos := "law.go:185", after := #[{ on := 3, ground := Ground.data }, { on := 1, ground := Ground.guard }], guard := some (1, true) }) (v := ?vp3n4) rfl (by kernel_rfl) (by kernel_rfl) (by kernel_rfl) (fun _ _ _ h => h) (Or.inl ⟨by rfl, ?yp3n4⟩) (by assumption) ?tp3n4
          case yp3n4 => (intro wz hSw; clear hSw; go_simp; try with_reducible rfl)
          simp only [Act.put, List.setIfInBounds_toArray, List.set_cons_zero, List.set_cons_succ]
          refine wpAnyH_take (i := 5) (oi := { dst := some 58, op := Op.move (Operand.tmp 57), type := 4, pos := "law.go:185", after := #[{ on := 4, ground := Ground.data }, { on := 3, ground := Ground.chain }, { on := 1, ground := Ground.guard }], guard := some (1, true) }) (v := ?vp3n5) rfl (by kernel_rfl) (by kernel_rfl) (by kernel_rfl) (fun _ _ _ h => h) (Or.inl ⟨by rfl, ?yp3n5⟩) (by assumption) ?tp3n5
          case yp3n5 => (intro wz hSw; clear hSw; go_simp; try with_reducible rfl)
          simp only [Act.put, List.setIfInBounds_toArray, List.set_cons_zero, List.set_cons_succ]
          refine wpAnyH_take (i := 6) (oi := { dst := some 59, op := Op.load 23 (Operand.tmp 10), type := 23, pos := "law.go:185", after := #[{ on := 5, ground := Ground.guard }], guard := some (5, false) }) (v := factV J) rfl (by kernel_rfl) (by kernel_rfl) (by kernel_rfl) (fun _ _ _ h => h) (Or.inl ⟨by rfl, fun wz hSw => sem_load_fact _ rfl (bg) rfl J (hSw.2.1)⟩) (by assumption) ?tp3n6
          simp only [Act.put, List.setIfInBounds_toArray, List.set_cons_zero, List.set_cons_succ]
          refine wpAnyH_ready (rs := [7]) (by kernel_rfl) (by simp) ?_
          refine AllReadyH.cons (o := { dst := some 60, op := Op.call { callee := Callee.value (Operand.func 16), args := #[Operand.tmp 59], argTypes := #[23] }, type := 4, pos := "law.go:185", after := #[{ on := 6, ground := Ground.data }, { on := 5, ground := Ground.chain }, { on := 5, ground := Ground.guard }], guard := some (5, false) }) rfl (fun K hK => ?_) AllReadyH.nil
          have HH := Lib.hid hHeld
          go_simp
          refine (HVg.out _ (HTW.out.below HH.out.2.2)).mono ?_; rintro e wz ⟨rfl, gz⟩
          have hz : wz.heap[W.heap.size]? = some (factObj G) ∧ wz.heap[bg]? = some (factObj J) ∧ Below W.heap.size W wz := ⟨box_below HH.out.1 gz, box_below HH.out.2.1 gz, below_step HH.out.2.2 gz⟩
          clear gz HH
          refine hK.out _ _ (hz) (fun hHeld' => ?_)
          clear hK K hHeld
          have hHeld := hHeld'; clear hHeld'
          try simp only [Act.put, List.setIfInBounds_toArray, List.set_cons_zero, List.set_cons_succ]
          refine wpAnyH_take (i := 8) (oi := { dst := some 61, op := Op.unOp UnOp.not 4 (Operand.tmp 60), type := 4, pos := "law.go:185", after := #[{ on := 7, ground := Ground.data }, { on := 5, ground := Ground.guard }], guard := some (5, false) }) (v := ?vp3n8) rfl (by kernel_rfl) (by kernel_rfl) (by kernel_rfl) (fun _ _ _ h => h) (Or.inl ⟨by rfl, ?yp3n8⟩) (by assumption) ?tp3n8
          case yp3n8 => (intro wz hSw; clear hSw; go_simp; try with_reducible rfl)
          simp only [Act.put, List.setIfInBounds_toArray, List.set_cons_zero, List.set_cons_succ]
          refine wpAnyH_take (i := 9) (oi := { dst := some 62, op := Op.pick (Operand.tmp 58) (Operand.const (Value.bool true)) (Operand.tmp 61), type := 4, pos := "law.go:185", after := #[{ on := 5, ground := Ground.data }, { on := 8, ground := Ground.data }, { on := 1, ground := Ground.guard }], guard := some (1, true) }) (v := ?vp3n9) rfl (by kernel_rfl) (by kernel_rfl) (by kernel_rfl) (fun _ _ _ h => h) (Or.inl ⟨by rfl, ?yp3n9⟩) (by assumption) ?tp3n9
          case yp3n9 => (intro wz hSw; clear hSw; go_simp; try with_reducible rfl)
          simp only [Act.put, List.setIfInBounds_toArray, List.set_cons_zero, List.set_cons_succ]
          refine wpAnyH_take (i := 10) (oi := { dst := some 63, op := Op.move (Operand.tmp 62), type := 4, pos := "law.go:185", after := #[{ on := 9, ground := Ground.data }, { on := 7, ground := Ground.chain }, { on := 1, ground := Ground.guard }], guard := some (1, true) }) (v := ?vp3n10) rfl (by kernel_rfl) (by kernel_rfl) (by kernel_rfl) (fun _ _ _ h => h) (Or.inl ⟨by rfl, ?yp3n10⟩) (by assumption) ?tp3n10
          case yp3n10 => (intro wz hSw; clear hSw; go_simp; try with_reducible rfl)
          simp only [Act.put, List.setIfInBounds_toArray, List.set_cons_zero, List.set_cons_succ]
          refine wpAnyH_take (i := 11) (oi := { dst := some 64, op := Op.load 23 (Operand.tmp 4), type := 23, pos := "law.go:185", after := #[{ on := 10, ground := Ground.guard }], guard := some (10, false) }) (v := undef) rfl (by kernel_rfl) (by kernel_rfl) (by kernel_rfl) (fun _ _ _ h => h) (Or.inr ⟨by rfl, rfl⟩) (by assumption) ?_
          simp only [Act.put, List.setIfInBounds_toArray, List.set_cons_zero, List.set_cons_succ]
          refine wpAnyH_take (i := 12) (oi := { dst := some 65, op := Op.call { callee := Callee.value (Operand.func 18), args := #[Operand.tmp 64], argTypes := #[23] }, type := 9, pos := "law.go:185", after := #[{ on := 11, ground := Ground.data }, { on := 10, ground := Ground.chain }, { on := 10, ground := Ground.guard }], guard := some (10, false) }) (v := undef) rfl (by kernel_rfl) (by kernel_rfl) (by kernel_rfl) (fun _ _ _ h => h) (Or.inr ⟨by rfl, rfl⟩) (by assumption) ?_
          simp only [Act.put, List.setIfInBounds_toArray, List.set_cons_zero, List.set_cons_succ]
          refine wpAnyH_take (i := 13) (oi := { dst := some 66, op := Op.load 23 (Operand.tmp 10), type := 23, pos := "law.go:185", after := #[{ on := 10, ground := Ground.guard }], guard := some (10, false) }) (v := undef) rfl (by kernel_rfl) (by kernel_rfl) (by kernel_rfl) (fun _ _ _ h => h) (Or.inr ⟨by rfl, rfl⟩) (by assumption) ?_
          simp only [Act.put, List.setIfInBounds_toArray, List.set_cons_zero, List.set_cons_succ]
          refine wpAnyH_take (i := 14) (oi := { dst := some 67, op := Op.call { callee := Callee.value (Operand.func 18), args := #[Operand.tmp 66], argTypes := #[23] }, type := 9, pos := "law.go:185", after := #[{ on := 13, ground := Ground.data }, { on := 12, ground := Ground.chain }, { on := 10, ground := Ground.guard }], guard := some (10, false) }) (v := undef) rfl (by kernel_rfl) (by kernel_rfl) (by kernel_rfl) (fun _ _ _ h => h) (Or.inr ⟨by rfl, rfl⟩) (by assumption) ?_
          simp only [Act.put, List.setIfInBounds_toArray, List.set_cons_zero, List.set_cons_succ]
          refine wpAnyH_take (i := 15) (oi := { dst := some 68, op := Op.binOp BinOp.eql 9 (Operand.tmp 65) (Operand.tmp 67) 9, type := 4, pos := "law.go:185", after := #[{ on := 12, ground := Ground.data }, { on := 14, ground := Ground.data }, { on := 10, ground := Ground.guard }], guard := some (10, false) }) (v := undef) rfl (by kernel_rfl) (by kernel_rfl) (by kernel_rfl) (fun _ _ _ h => h) (Or.inr ⟨by rfl, rfl⟩) (by assumption) ?_
          simp only [Act.put, List.setIfInBounds_toArray, List.set_cons_zero, List.set_cons_succ]
          refine wpAnyH_take (i := 16) (oi := { dst := some 69, op := Op.pick (Operand.tmp 63) (Operand.const (Value.bool true)) (Operand.tmp 68), type := 4, pos := "law.go:185", after := #[{ on := 10, ground := Ground.data }, { on := 15, ground := Ground.data }, { on := 1, ground := Ground.guard }], guard := some (1, true) }) (v := ?vp3n16) rfl (by kernel_rfl) (by kernel_rfl) (by kernel_rfl) (fun _ _ _ h => h) (Or.inl ⟨by rfl, ?yp3n16⟩) (by assumption) ?tp3n16
          case yp3n16 => (intro wz hSw; clear hSw; go_simp; try with_reducible rfl)
          simp only [Act.put, List.setIfInBounds_toArray, List.set_cons_zero, List.set_cons_succ]
          refine wpAnyH_take (i := 17) (oi := { dst := some 70, op := Op.pick (Operand.tmp 54) (Operand.tmp 69) (Operand.const (Value.bool false)), type := 4, pos := "law.go:185", after := #[{ on := 1, ground := Ground.data }, { on := 16, ground := Ground.data }], guard := none }) (v := ?vp3n17) rfl (by kernel_rfl) (by kernel_rfl) (by kernel_rfl) (fun _ _ _ h => h) (Or.inl ⟨by rfl, ?yp3n17⟩) (by assumption) ?tp3n17
          case yp3n17 => (intro wz hSw; clear hSw; go_simp; try with_reducible rfl)
          simp only [Act.put, List.setIfInBounds_toArray, List.set_cons_zero, List.set_cons_succ]
          refine wpAnyH_take (i := 18) (oi := { dst := some 8, op := Op.assign (Operand.tmp 70), type := 4, pos := "law.go:185", after := #[{ on := 17, ground := Ground.data }, { on := 14, ground := Ground.chain }, { on := 0, ground := Ground.phase }, { on := 1, ground := Ground.phase }, { on := 2, ground := Ground.phase }, { on := 3, ground := Ground.phase }, { on := 4, ground := Ground.phase }, { on := 5, ground := Ground.phase }, { on := 6, ground := Ground.phase }, { on := 7, ground := Ground.phase }, { on := 8, ground := Ground.phase }, { on := 9, ground := Ground.phase }, { on := 10, ground := Ground.phase }, { on := 11, ground := Ground.phase }, { on := 12, ground := Ground.phase }, { on := 13, ground := Ground.phase }, { on := 14, ground := Ground.phase }, { on := 15, ground := Ground.phase }, { on := 16, ground := Ground.phase }, { on := 17, ground := Ground.phase }], guard := none }) (v := ?vp3n18) rfl (by kernel_rfl) (by kernel_rfl) (by kernel_rfl) (fun _ _ _ h => h) (Or.inl ⟨by rfl, ?yp3n18⟩) (by assumption) ?tp3n18
          case yp3n18 => (intro wz hSw; clear hSw; go_simp; try with_reducible rfl)
          simp only [Act.put, List.setIfInBounds_toArray, List.set_cons_zero, List.set_cons_succ]
          refine wpAnyH_done (by kernel_rfl) ?_ _
          have HFin := Lib.hid hHeld
          go_wp2_with fail
          go_ret
          exact ⟨rfl, HFin.out.2.2⟩
        | true =>
          rw [hk] at HVg
          rw [HK2.out HvF.out hk] at HKg
          clear hk HK2
          generalize bs (keyB G) = KK at *
          refine wp_region_held_drew (S := (fun v => v.heap[W.heap.size]? = some (factObj G) ∧ v.heap[bg]? = some (factObj J) ∧ Below W.heap.size W v)) (by kernel_rfl) (⟨HF8.out, HG8.out, HB8.out.drew⟩) (fun hHeld => ?_)
          generalize w8.drew = wd at *
          refine wpAnyH_take (i := 0) (oi := { dst := some 53, op := Op.move (Operand.tmp 9), type := 4, pos := "law.go:185", after := #[], guard := none }) (v := ?vp3y0) rfl (by kernel_rfl) (by kernel_rfl) (by kernel_rfl) (fun _ _ _ h => h) (Or.inl ⟨by rfl, ?yp3y0⟩) (by assumption) ?tp3y0
          case yp3y0 => (intro wz hSw; clear hSw; go_simp; try with_reducible rfl)
          simp only [Act.put, List.setIfInBounds_toArray, List.set_cons_zero, List.set_cons_succ]
          refine wpAnyH_take (i := 1) (oi := { dst := some 54, op := Op.move (Operand.tmp 53), type := 4, pos := "law.go:185", after := #[{ on := 0, ground := Ground.data }], guard := none }) (v := ?vp3y1) rfl (by kernel_rfl) (by kernel_rfl) (by kernel_rfl) (fun _ _ _ h => h) (Or.inl ⟨by rfl, ?yp3y1⟩) (by assumption) ?tp3y1
          case yp3y1 => (intro wz hSw; clear hSw; go_simp; try with_reducible rfl)
          simp only [Act.put, List.setIfInBounds_toArray, List.set_cons_zero, List.set_cons_succ]
          refine wpAnyH_take (i := 2) (oi := { dst := some 55, op := Op.load 23 (Operand.tmp 4), type := 23, pos := "law.go:185", after := #[{ on := 1, ground := Ground.guard }], guard := some (1, true) }) (v := factV G) rfl (by kernel_rfl) (by kernel_rfl) (by kernel_rfl) (fun _ _ _ h => h) (Or.inl ⟨by rfl, fun wz hSw => sem_load_fact _ rfl (W.heap.size) rfl G (hSw.1)⟩) (by assumption) ?tp3y2
          simp only [Act.put, List.setIfInBounds_toArray, List.set_cons_zero, List.set_cons_succ]
          refine wpAnyH_ready (rs := [3]) (by kernel_rfl) (by simp) ?_
          refine AllReadyH.cons (o := { dst := some 56, op := Op.call { callee := Callee.value (Operand.func 16), args := #[Operand.tmp 55], argTypes := #[23] }, type := 4, pos := "law.go:185", after := #[{ on := 2, ground := Ground.data }, { on := 1, ground := Ground.chain }, { on := 1, ground := Ground.guard }], guard := some (1, true) }) rfl (fun K hK => ?_) AllReadyH.nil
          have HH := Lib.hid hHeld
          go_simp
          refine (HVf.out _ (HTW.out.below HH.out.2.2)).mono ?_; rintro e wz ⟨rfl, gz⟩
          have hz : wz.heap[W.heap.size]? = some (factObj G) ∧ wz.heap[bg]? = some (factObj J) ∧ Below W.heap.size W wz := ⟨box_below HH.out.1 gz, box_below HH.out.2.1 gz, below_step HH.out.2.2 gz⟩
          clear gz HH
          refine hK.out _ _ (hz) (fun hHeld' => ?_)
          clear hK K hHeld
          have hHeld := hHeld'; clear hHeld'
          try simp only [Act.put, List.setIfInBounds_toArray, List.set_cons_zero, List.set_cons_succ]
          refine wpAnyH_take (i := 4) (oi := { dst := some 57, op := Op.unOp UnOp.not 4 (Operand.tmp 56), type := 4, pos := "law.go:185", after := #[{ on := 3, ground := Ground.data }, { on := 1, ground := Ground.guard }], guard := some (1, true) }) (v := ?vp3y4) rfl (by kernel_rfl) (by kernel_rfl) (by kernel_rfl) (fun _ _ _ h => h) (Or.inl ⟨by rfl, ?yp3y4⟩) (by assumption) ?tp3y4
          case yp3y4 => (intro wz hSw; clear hSw; go_simp; try with_reducible rfl)
          simp only [Act.put, List.setIfInBounds_toArray, List.set_cons_zero, List.set_cons_succ]
          refine wpAnyH_take (i := 5) (oi := { dst := some 58, op := Op.move (Operand.tmp 57), type := 4, pos := "law.go:185", after := #[{ on := 4, ground := Ground.data }, { on := 3, ground := Ground.chain }, { on := 1, ground := Ground.guard }], guard := some (1, true) }) (v := ?vp3y5) rfl (by kernel_rfl) (by kernel_rfl) (by kernel_rfl) (fun _ _ _ h => h) (Or.inl ⟨by rfl, ?yp3y5⟩) (by assumption) ?tp3y5
          case yp3y5 => (intro wz hSw; clear hSw; go_simp; try with_reducible rfl)
          simp only [Act.put, List.setIfInBounds_toArray, List.set_cons_zero, List.set_cons_succ]
          refine wpAnyH_take (i := 6) (oi := { dst := some 59, op := Op.load 23 (Operand.tmp 10), type := 23, pos := "law.go:185", after := #[{ on := 5, ground := Ground.guard }], guard := some (5, false) }) (v := factV J) rfl (by kernel_rfl) (by kernel_rfl) (by kernel_rfl) (fun _ _ _ h => h) (Or.inl ⟨by rfl, fun wz hSw => sem_load_fact _ rfl (bg) rfl J (hSw.2.1)⟩) (by assumption) ?tp3y6
          simp only [Act.put, List.setIfInBounds_toArray, List.set_cons_zero, List.set_cons_succ]
          refine wpAnyH_ready (rs := [7]) (by kernel_rfl) (by simp) ?_
          refine AllReadyH.cons (o := { dst := some 60, op := Op.call { callee := Callee.value (Operand.func 16), args := #[Operand.tmp 59], argTypes := #[23] }, type := 4, pos := "law.go:185", after := #[{ on := 6, ground := Ground.data }, { on := 5, ground := Ground.chain }, { on := 5, ground := Ground.guard }], guard := some (5, false) }) rfl (fun K hK => ?_) AllReadyH.nil
          have HH := Lib.hid hHeld
          go_simp
          refine (HVg.out _ (HTW.out.below HH.out.2.2)).mono ?_; rintro e wz ⟨rfl, gz⟩
          have hz : wz.heap[W.heap.size]? = some (factObj G) ∧ wz.heap[bg]? = some (factObj J) ∧ Below W.heap.size W wz := ⟨box_below HH.out.1 gz, box_below HH.out.2.1 gz, below_step HH.out.2.2 gz⟩
          clear gz HH
          refine hK.out _ _ (hz) (fun hHeld' => ?_)
          clear hK K hHeld
          have hHeld := hHeld'; clear hHeld'
          try simp only [Act.put, List.setIfInBounds_toArray, List.set_cons_zero, List.set_cons_succ]
          refine wpAnyH_take (i := 8) (oi := { dst := some 61, op := Op.unOp UnOp.not 4 (Operand.tmp 60), type := 4, pos := "law.go:185", after := #[{ on := 7, ground := Ground.data }, { on := 5, ground := Ground.guard }], guard := some (5, false) }) (v := ?vp3y8) rfl (by kernel_rfl) (by kernel_rfl) (by kernel_rfl) (fun _ _ _ h => h) (Or.inl ⟨by rfl, ?yp3y8⟩) (by assumption) ?tp3y8
          case yp3y8 => (intro wz hSw; clear hSw; go_simp; try with_reducible rfl)
          simp only [Act.put, List.setIfInBounds_toArray, List.set_cons_zero, List.set_cons_succ]
          refine wpAnyH_take (i := 9) (oi := { dst := some 62, op := Op.pick (Operand.tmp 58) (Operand.const (Value.bool true)) (Operand.tmp 61), type := 4, pos := "law.go:185", after := #[{ on := 5, ground := Ground.data }, { on := 8, ground := Ground.data }, { on := 1, ground := Ground.guard }], guard := some (1, true) }) (v := ?vp3y9) rfl (by kernel_rfl) (by kernel_rfl) (by kernel_rfl) (fun _ _ _ h => h) (Or.inl ⟨by rfl, ?yp3y9⟩) (by assumption) ?tp3y9
          case yp3y9 => (intro wz hSw; clear hSw; go_simp; try with_reducible rfl)
          simp only [Act.put, List.setIfInBounds_toArray, List.set_cons_zero, List.set_cons_succ]
          refine wpAnyH_take (i := 10) (oi := { dst := some 63, op := Op.move (Operand.tmp 62), type := 4, pos := "law.go:185", after := #[{ on := 9, ground := Ground.data }, { on := 7, ground := Ground.chain }, { on := 1, ground := Ground.guard }], guard := some (1, true) }) (v := ?vp3y10) rfl (by kernel_rfl) (by kernel_rfl) (by kernel_rfl) (fun _ _ _ h => h) (Or.inl ⟨by rfl, ?yp3y10⟩) (by assumption) ?tp3y10
          case yp3y10 => (intro wz hSw; clear hSw; go_simp; try with_reducible rfl)
          simp only [Act.put, List.setIfInBounds_toArray, List.set_cons_zero, List.set_cons_succ]
          refine wpAnyH_take (i := 11) (oi := { dst := some 64, op := Op.load 23 (Operand.tmp 4), type := 23, pos := "law.go:185", after := #[{ on := 10, ground := Ground.guard }], guard := some (10, false) }) (v := factV G) rfl (by kernel_rfl) (by kernel_rfl) (by kernel_rfl) (fun _ _ _ h => h) (Or.inl ⟨by rfl, fun wz hSw => sem_load_fact _ rfl (W.heap.size) rfl G (hSw.1)⟩) (by assumption) ?tp3y11
          simp only [Act.put, List.setIfInBounds_toArray, List.set_cons_zero, List.set_cons_succ]
          refine wpAnyH_take (i := 13) (oi := { dst := some 66, op := Op.load 23 (Operand.tmp 10), type := 23, pos := "law.go:185", after := #[{ on := 10, ground := Ground.guard }], guard := some (10, false) }) (v := factV J) rfl (by kernel_rfl) (by kernel_rfl) (by kernel_rfl) (fun _ _ _ h => h) (Or.inl ⟨by rfl, fun wz hSw => sem_load_fact _ rfl (bg) rfl J (hSw.2.1)⟩) (by assumption) ?tp3y13
          simp only [Act.put, List.setIfInBounds_toArray, List.set_cons_zero, List.set_cons_succ]
          refine wpAnyH_ready (rs := [12]) (by kernel_rfl) (by simp) ?_
          refine AllReadyH.cons (o := { dst := some 65, op := Op.call { callee := Callee.value (Operand.func 18), args := #[Operand.tmp 64], argTypes := #[23] }, type := 9, pos := "law.go:185", after := #[{ on := 11, ground := Ground.data }, { on := 10, ground := Ground.chain }, { on := 10, ground := Ground.guard }], guard := some (10, false) }) rfl (fun K hK => ?_) AllReadyH.nil
          have HH := Lib.hid hHeld
          go_simp
          refine (HKf.out _ (HTW.out.below HH.out.2.2)).mono ?_; rintro e wz ⟨rfl, gz⟩
          have hz : wz.heap[W.heap.size]? = some (factObj G) ∧ wz.heap[bg]? = some (factObj J) ∧ Below W.heap.size W wz := ⟨box_below HH.out.1 gz, box_below HH.out.2.1 gz, below_step HH.out.2.2 gz⟩
          clear gz HH
          refine hK.out _ _ (hz) (fun hHeld' => ?_)
          clear hK K hHeld
          have hHeld := hHeld'; clear hHeld'
          try simp only [Act.put, List.setIfInBounds_toArray, List.set_cons_zero, List.set_cons_succ]
          refine wpAnyH_ready (rs := [14]) (by kernel_rfl) (by simp) ?_
          refine AllReadyH.cons (o := { dst := some 67, op := Op.call { callee := Callee.value (Operand.func 18), args := #[Operand.tmp 66], argTypes := #[23] }, type := 9, pos := "law.go:185", after := #[{ on := 13, ground := Ground.data }, { on := 12, ground := Ground.chain }, { on := 10, ground := Ground.guard }], guard := some (10, false) }) rfl (fun K hK => ?_) AllReadyH.nil
          have HH := Lib.hid hHeld
          go_simp
          refine (HKg.out _ (HTW.out.below HH.out.2.2)).mono ?_; rintro e wz ⟨rfl, gz⟩
          have hz : wz.heap[W.heap.size]? = some (factObj G) ∧ wz.heap[bg]? = some (factObj J) ∧ Below W.heap.size W wz := ⟨box_below HH.out.1 gz, box_below HH.out.2.1 gz, below_step HH.out.2.2 gz⟩
          clear gz HH
          refine hK.out _ _ (hz) (fun hHeld' => ?_)
          clear hK K hHeld
          have hHeld := hHeld'; clear hHeld'
          try simp only [Act.put, List.setIfInBounds_toArray, List.set_cons_zero, List.set_cons_succ]
          refine wpAnyH_take (i := 15) (oi := { dst := some 68, op := Op.binOp BinOp.eql 9 (Operand.tmp 65) (Operand.tmp 67) 9, type := 4, pos := "law.go:185", after := #[{ on := 12, ground := Ground.data }, { on := 14, ground := Ground.data }, { on := 10, ground := Ground.guard }], guard := some (10, false) }) (v := ?vp3y15) rfl (by kernel_rfl) (by kernel_rfl) (by kernel_rfl) (fun _ _ _ h => h) (Or.inl ⟨by rfl, ?yp3y15⟩) (by assumption) ?tp3y15
          case yp3y15 => (intro wz hSw; clear hSw; go_simp; try with_reducible rfl)
          simp only [Act.put, List.setIfInBounds_toArray, List.set_cons_zero, List.set_cons_succ]
          refine wpAnyH_take (i := 16) (oi := { dst := some 69, op := Op.pick (Operand.tmp 63) (Operand.const (Value.bool true)) (Operand.tmp 68), type := 4, pos := "law.go:185", after := #[{ on := 10, ground := Ground.data }, { on := 15, ground := Ground.data }, { on := 1, ground := Ground.guard }], guard := some (1, true) }) (v := ?vp3y16) rfl (by kernel_rfl) (by kernel_rfl) (by kernel_rfl) (fun _ _ _ h => h) (Or.inl ⟨by rfl, ?yp3y16⟩) (by assumption) ?tp3y16
          case yp3y16 => (intro wz hSw; clear hSw; go_simp; try with_reducible rfl)
          simp only [Act.put, List.setIfInBounds_toArray, List.set_cons_zero, List.set_cons_succ]
          refine wpAnyH_take (i := 17) (oi := { dst := some 70, op := Op.pick (Operand.tmp 54) (Operand.tmp 69) (Operand.const (Value.bool false)), type := 4, pos := "law.go:185", after := #[{ on := 1, ground := Ground.data }, { on := 16, ground := Ground.data }], guard := none }) (v := ?vp3y17) rfl (by kernel_rfl) (by kernel_rfl) (by kernel_rfl) (fun _ _ _ h => h) (Or.inl ⟨by rfl, ?yp3y17⟩) (by assumption) ?tp3y17
          case yp3y17 => (intro wz hSw; clear hSw; go_simp; try with_reducible rfl)
          simp only [Act.put, List.setIfInBounds_toArray, List.set_cons_zero, List.set_cons_succ]
          refine wpAnyH_take (i := 18) (oi := { dst := some 8, op := Op.assign (Operand.tmp 70), type := 4, pos := "law.go:185", after := #[{ on := 17, ground := Ground.data }, { on := 14, ground := Ground.chain }, { on := 0, ground := Ground.phase }, { on := 1, ground := Ground.phase }, { on := 2, ground := Ground.phase }, { on := 3, ground := Ground.phase }, { on := 4, ground := Ground.phase }, { on := 5, ground := Ground.phase }, { on := 6, ground := Ground.phase }, { on := 7, ground := Ground.phase }, { on := 8, ground := Ground.phase }, { on := 9, ground := Ground.phase }, { on := 10, ground := Ground.phase }, { on := 11, ground := Ground.phase }, { on := 12, ground := Ground.phase }, { on := 13, ground := Ground.phase }, { on := 14, ground := Ground.phase }, { on := 15, ground := Ground.phase }, { on := 16, ground := Ground.phase }, { on := 17, ground := Ground.phase }], guard := none }) (v := ?vp3y18) rfl (by kernel_rfl) (by kernel_rfl) (by kernel_rfl) (fun _ _ _ h => h) (Or.inl ⟨by rfl, ?yp3y18⟩) (by assumption) ?tp3y18
          case yp3y18 => (intro wz hSw; clear hSw; go_simp; try with_reducible rfl)
          simp only [Act.put, List.setIfInBounds_toArray, List.set_cons_zero, List.set_cons_succ]
          refine wpAnyH_done (by kernel_rfl) ?_ _
          have HFin := Lib.hid hHeld
          go_wp2_with fail
          go_ret
          exact ⟨rfl, HFin.out.2.2⟩
    · have HOut := Lib.hid (show ¬ (0 ≤ H.d ∧ H.d ≤ 100000) from by rw [HIn'.out]; exact fun h => h1 h.2)
      go_upto_region 7 with (fail)
      clear h0 h1
      cases hvf : validB G with
      | false =>
        cases hvg : validB H with
        | false =>
          unfold BoolPost at HVf HVg
          have HvF := Lib.hid hvf
          rw [hvf] at HVf
          rw [hvg] at HVg
          clear hvf hvg
          refine wp_region_held_drew (S := (fun v => v.heap[W.heap.size]? = some (factObj G) ∧ v.heap[bg]? = some (factObj H) ∧ Below W.heap.size W v)) (by kernel_rfl) (⟨HF5.out, HG5.out, HB5.out.drew⟩) (fun hHeld => ?_)
          generalize w5.drew = wd at *
          refine wpAnyH_take (i := 0) (oi := { dst := some 26, op := Op.load 23 (Operand.tmp 4), type := 23, pos := "law.go:181", after := #[], guard := none }) (v := factV G) rfl (by kernel_rfl) (by kernel_rfl) (by kernel_rfl) (fun _ _ _ h => h) (Or.inl ⟨by rfl, fun wz hSw => sem_load_fact _ rfl (W.heap.size) rfl G (hSw.1)⟩) (by assumption) ?tq00
          simp only [Act.put, List.setIfInBounds_toArray, List.set_cons_zero, List.set_cons_succ]
          refine wpAnyH_ready (rs := [1]) (by kernel_rfl) (by simp) ?_
          refine AllReadyH.cons (o := { dst := some 27, op := Op.call { callee := Callee.value (Operand.func 16), args := #[Operand.tmp 26], argTypes := #[23] }, type := 4, pos := "law.go:181", after := #[{ on := 0, ground := Ground.data }], guard := none }) rfl (fun K hK => ?_) AllReadyH.nil
          have HH := Lib.hid hHeld
          go_simp
          refine (HVf.out _ (HTW.out.below HH.out.2.2)).mono ?_; rintro e wz ⟨rfl, gz⟩
          have hz : wz.heap[W.heap.size]? = some (factObj G) ∧ wz.heap[bg]? = some (factObj H) ∧ Below W.heap.size W wz := ⟨box_below HH.out.1 gz, box_below HH.out.2.1 gz, below_step HH.out.2.2 gz⟩
          clear gz HH
          refine hK.out _ _ (hz) (fun hHeld' => ?_)
          clear hK K hHeld
          have hHeld := hHeld'; clear hHeld'
          try simp only [Act.put, List.setIfInBounds_toArray, List.set_cons_zero, List.set_cons_succ]
          refine wpAnyH_take (i := 2) (oi := { dst := some 28, op := Op.move (Operand.tmp 27), type := 4, pos := "law.go:181", after := #[{ on := 1, ground := Ground.data }, { on := 1, ground := Ground.chain }], guard := none }) (v := ?vq02) rfl (by kernel_rfl) (by kernel_rfl) (by kernel_rfl) (fun _ _ _ h => h) (Or.inl ⟨by rfl, ?yq02⟩) (by assumption) ?tq02
          case yq02 => (intro wz hSw; clear hSw; go_simp; try with_reducible rfl)
          simp only [Act.put, List.setIfInBounds_toArray, List.set_cons_zero, List.set_cons_succ]
          refine wpAnyH_take (i := 3) (oi := { dst := some 29, op := Op.load 23 (Operand.tmp 10), type := 23, pos := "law.go:181", after := #[{ on := 2, ground := Ground.guard }], guard := some (2, true) }) (v := undef) rfl (by kernel_rfl) (by kernel_rfl) (by kernel_rfl) (fun _ _ _ h => h) (Or.inr ⟨by rfl, rfl⟩) (by assumption) ?_
          simp only [Act.put, List.setIfInBounds_toArray, List.set_cons_zero, List.set_cons_succ]
          refine wpAnyH_take (i := 4) (oi := { dst := some 30, op := Op.call { callee := Callee.value (Operand.func 16), args := #[Operand.tmp 29], argTypes := #[23] }, type := 4, pos := "law.go:181", after := #[{ on := 3, ground := Ground.data }, { on := 2, ground := Ground.chain }, { on := 2, ground := Ground.guard }], guard := some (2, true) }) (v := undef) rfl (by kernel_rfl) (by kernel_rfl) (by kernel_rfl) (fun _ _ _ h => h) (Or.inr ⟨by rfl, rfl⟩) (by assumption) ?_
          simp only [Act.put, List.setIfInBounds_toArray, List.set_cons_zero, List.set_cons_succ]
          refine wpAnyH_take (i := 5) (oi := { dst := some 31, op := Op.move (Operand.tmp 11), type := 4, pos := "law.go:181", after := #[{ on := 2, ground := Ground.guard }], guard := some (2, true) }) (v := undef) rfl (by kernel_rfl) (by kernel_rfl) (by kernel_rfl) (fun _ _ _ h => h) (Or.inr ⟨by rfl, rfl⟩) (by assumption) ?_
          simp only [Act.put, List.setIfInBounds_toArray, List.set_cons_zero, List.set_cons_succ]
          refine wpAnyH_take (i := 6) (oi := { dst := some 32, op := Op.binOp BinOp.neq 4 (Operand.tmp 30) (Operand.tmp 31) 4, type := 4, pos := "law.go:181", after := #[{ on := 4, ground := Ground.data }, { on := 5, ground := Ground.data }, { on := 2, ground := Ground.guard }], guard := some (2, true) }) (v := undef) rfl (by kernel_rfl) (by kernel_rfl) (by kernel_rfl) (fun _ _ _ h => h) (Or.inr ⟨by rfl, rfl⟩) (by assumption) ?_
          simp only [Act.put, List.setIfInBounds_toArray, List.set_cons_zero, List.set_cons_succ]
          refine wpAnyH_take (i := 7) (oi := { dst := some 33, op := Op.pick (Operand.tmp 28) (Operand.tmp 32) (Operand.const (Value.bool false)), type := 4, pos := "law.go:181", after := #[{ on := 2, ground := Ground.data }, { on := 6, ground := Ground.data }], guard := none }) (v := ?vq07) rfl (by kernel_rfl) (by kernel_rfl) (by kernel_rfl) (fun _ _ _ h => h) (Or.inl ⟨by rfl, ?yq07⟩) (by assumption) ?tq07
          case yq07 => (intro wz hSw; clear hSw; go_simp; try with_reducible rfl)
          simp only [Act.put, List.setIfInBounds_toArray, List.set_cons_zero, List.set_cons_succ]
          refine wpAnyH_take (i := 8) (oi := { dst := some 34, op := Op.move (Operand.tmp 33), type := 4, pos := "law.go:181", after := #[{ on := 7, ground := Ground.data }, { on := 4, ground := Ground.chain }], guard := none }) (v := ?vq08) rfl (by kernel_rfl) (by kernel_rfl) (by kernel_rfl) (fun _ _ _ h => h) (Or.inl ⟨by rfl, ?yq08⟩) (by assumption) ?tq08
          case yq08 => (intro wz hSw; clear hSw; go_simp; try with_reducible rfl)
          simp only [Act.put, List.setIfInBounds_toArray, List.set_cons_zero, List.set_cons_succ]
          refine wpAnyH_take (i := 9) (oi := { dst := some 35, op := Op.load 23 (Operand.tmp 10), type := 23, pos := "law.go:181", after := #[{ on := 8, ground := Ground.guard }], guard := some (8, false) }) (v := factV H) rfl (by kernel_rfl) (by kernel_rfl) (by kernel_rfl) (fun _ _ _ h => h) (Or.inl ⟨by rfl, fun wz hSw => sem_load_fact _ rfl (bg) rfl H (hSw.2.1)⟩) (by assumption) ?tq09
          simp only [Act.put, List.setIfInBounds_toArray, List.set_cons_zero, List.set_cons_succ]
          refine wpAnyH_ready (rs := [10]) (by kernel_rfl) (by simp) ?_
          refine AllReadyH.cons (o := { dst := some 36, op := Op.call { callee := Callee.value (Operand.func 16), args := #[Operand.tmp 35], argTypes := #[23] }, type := 4, pos := "law.go:181", after := #[{ on := 9, ground := Ground.data }, { on := 8, ground := Ground.chain }, { on := 8, ground := Ground.guard }], guard := some (8, false) }) rfl (fun K hK => ?_) AllReadyH.nil
          have HH := Lib.hid hHeld
          go_simp
          refine (HVg.out _ (HTW.out.below HH.out.2.2)).mono ?_; rintro e wz ⟨rfl, gz⟩
          have hz : wz.heap[W.heap.size]? = some (factObj G) ∧ wz.heap[bg]? = some (factObj H) ∧ Below W.heap.size W wz := ⟨box_below HH.out.1 gz, box_below HH.out.2.1 gz, below_step HH.out.2.2 gz⟩
          clear gz HH
          refine hK.out _ _ (hz) (fun hHeld' => ?_)
          clear hK K hHeld
          have hHeld := hHeld'; clear hHeld'
          try simp only [Act.put, List.setIfInBounds_toArray, List.set_cons_zero, List.set_cons_succ]
          refine wpAnyH_take (i := 11) (oi := { dst := some 37, op := Op.move (Operand.tmp 36), type := 4, pos := "law.go:181", after := #[{ on := 10, ground := Ground.data }, { on := 10, ground := Ground.chain }, { on := 8, ground := Ground.guard }], guard := some (8, false) }) (v := ?vq011) rfl (by kernel_rfl) (by kernel_rfl) (by kernel_rfl) (fun _ _ _ h => h) (Or.inl ⟨by rfl, ?yq011⟩) (by assumption) ?tq011
          case yq011 => (intro wz hSw; clear hSw; go_simp; try with_reducible rfl)
          simp only [Act.put, List.setIfInBounds_toArray, List.set_cons_zero, List.set_cons_succ]
          refine wpAnyH_take (i := 12) (oi := { dst := some 38, op := Op.load 23 (Operand.tmp 4), type := 23, pos := "law.go:181", after := #[{ on := 11, ground := Ground.guard }], guard := some (11, true) }) (v := undef) rfl (by kernel_rfl) (by kernel_rfl) (by kernel_rfl) (fun _ _ _ h => h) (Or.inr ⟨by rfl, rfl⟩) (by assumption) ?_
          simp only [Act.put, List.setIfInBounds_toArray, List.set_cons_zero, List.set_cons_succ]
          refine wpAnyH_take (i := 13) (oi := { dst := some 39, op := Op.call { callee := Callee.value (Operand.func 16), args := #[Operand.tmp 38], argTypes := #[23] }, type := 4, pos := "law.go:181", after := #[{ on := 12, ground := Ground.data }, { on := 11, ground := Ground.chain }, { on := 11, ground := Ground.guard }], guard := some (11, true) }) (v := undef) rfl (by kernel_rfl) (by kernel_rfl) (by kernel_rfl) (fun _ _ _ h => h) (Or.inr ⟨by rfl, rfl⟩) (by assumption) ?_
          simp only [Act.put, List.setIfInBounds_toArray, List.set_cons_zero, List.set_cons_succ]
          refine wpAnyH_take (i := 14) (oi := { dst := some 40, op := Op.fieldAddr 23 (Operand.tmp 4) 3, type := 0, pos := "law.go:181", after := #[{ on := 11, ground := Ground.guard }], guard := some (11, true) }) (v := undef) rfl (by kernel_rfl) (by kernel_rfl) (by kernel_rfl) (fun _ _ _ h => h) (Or.inr ⟨by rfl, rfl⟩) (by assumption) ?_
          simp only [Act.put, List.setIfInBounds_toArray, List.set_cons_zero, List.set_cons_succ]
          refine wpAnyH_take (i := 15) (oi := { dst := some 41, op := Op.load 3 (Operand.tmp 40), type := 3, pos := "law.go:181", after := #[{ on := 14, ground := Ground.data }, { on := 11, ground := Ground.guard }], guard := some (11, true) }) (v := undef) rfl (by kernel_rfl) (by kernel_rfl) (by kernel_rfl) (fun _ _ _ h => h) (Or.inr ⟨by rfl, rfl⟩) (by assumption) ?_
          simp only [Act.put, List.setIfInBounds_toArray, List.set_cons_zero, List.set_cons_succ]
          refine wpAnyH_take (i := 16) (oi := { dst := some 42, op := Op.binOp BinOp.geq 3 (Operand.tmp 41) (Operand.const (Value.int IntKind.i64 0)) 3, type := 4, pos := "law.go:181", after := #[{ on := 15, ground := Ground.data }, { on := 11, ground := Ground.guard }], guard := some (11, true) }) (v := undef) rfl (by kernel_rfl) (by kernel_rfl) (by kernel_rfl) (fun _ _ _ h => h) (Or.inr ⟨by rfl, rfl⟩) (by assumption) ?_
          simp only [Act.put, List.setIfInBounds_toArray, List.set_cons_zero, List.set_cons_succ]
          refine wpAnyH_take (i := 17) (oi := { dst := some 43, op := Op.move (Operand.tmp 42), type := 4, pos := "law.go:181", after := #[{ on := 16, ground := Ground.data }, { on := 13, ground := Ground.chain }, { on := 11, ground := Ground.guard }], guard := some (11, true) }) (v := undef) rfl (by kernel_rfl) (by kernel_rfl) (by kernel_rfl) (fun _ _ _ h => h) (Or.inr ⟨by rfl, rfl⟩) (by assumption) ?_
          simp only [Act.put, List.setIfInBounds_toArray, List.set_cons_zero, List.set_cons_succ]
          refine wpAnyH_take (i := 18) (oi := { dst := some 44, op := Op.fieldAddr 23 (Operand.tmp 4) 3, type := 0, pos := "law.go:181", after := #[{ on := 17, ground := Ground.guard }], guard := some (17, true) }) (v := undef) rfl (by kernel_rfl) (by kernel_rfl) (by kernel_rfl) (fun _ _ _ h => h) (Or.inr ⟨by rfl, rfl⟩) (by assumption) ?_
          simp only [Act.put, List.setIfInBounds_toArray, List.set_cons_zero, List.set_cons_succ]
          refine wpAnyH_take (i := 19) (oi := { dst := some 45, op := Op.load 3 (Operand.tmp 44), type := 3, pos := "law.go:181", after := #[{ on := 18, ground := Ground.data }, { on := 17, ground := Ground.guard }], guard := some (17, true) }) (v := undef) rfl (by kernel_rfl) (by kernel_rfl) (by kernel_rfl) (fun _ _ _ h => h) (Or.inr ⟨by rfl, rfl⟩) (by assumption) ?_
          simp only [Act.put, List.setIfInBounds_toArray, List.set_cons_zero, List.set_cons_succ]
          refine wpAnyH_take (i := 20) (oi := { dst := some 46, op := Op.binOp BinOp.leq 3 (Operand.tmp 45) (Operand.const (Value.int IntKind.i64 100000)) 3, type := 4, pos := "law.go:181", after := #[{ on := 19, ground := Ground.data }, { on := 17, ground := Ground.guard }], guard := some (17, true) }) (v := undef) rfl (by kernel_rfl) (by kernel_rfl) (by kernel_rfl) (fun _ _ _ h => h) (Or.inr ⟨by rfl, rfl⟩) (by assumption) ?_
          simp only [Act.put, List.setIfInBounds_toArray, List.set_cons_zero, List.set_cons_succ]
          refine wpAnyH_take (i := 21) (oi := { dst := some 47, op := Op.pick (Operand.tmp 43) (Operand.tmp 46) (Operand.const (Value.bool false)), type := 4, pos := "law.go:181", after := #[{ on := 17, ground := Ground.data }, { on := 20, ground := Ground.data }, { on := 11, ground := Ground.guard }], guard := some (11, true) }) (v := undef) rfl (by kernel_rfl) (by kernel_rfl) (by kernel_rfl) (fun _ _ _ h => h) (Or.inr ⟨by rfl, rfl⟩) (by assumption) ?_
          simp only [Act.put, List.setIfInBounds_toArray, List.set_cons_zero, List.set_cons_succ]
          refine wpAnyH_take (i := 22) (oi := { dst := some 48, op := Op.binOp BinOp.neq 4 (Operand.tmp 39) (Operand.tmp 47) 4, type := 4, pos := "law.go:181", after := #[{ on := 13, ground := Ground.data }, { on := 21, ground := Ground.data }, { on := 11, ground := Ground.guard }], guard := some (11, true) }) (v := undef) rfl (by kernel_rfl) (by kernel_rfl) (by kernel_rfl) (fun _ _ _ h => h) (Or.inr ⟨by rfl, rfl⟩) (by assumption) ?_
          simp only [Act.put, List.setIfInBounds_toArray, List.set_cons_zero, List.set_cons_succ]
          refine wpAnyH_take (i := 23) (oi := { dst := some 49, op := Op.pick (Operand.tmp 37) (Operand.tmp 48) (Operand.const (Value.bool false)), type := 4, pos := "law.go:181", after := #[{ on := 11, ground := Ground.data }, { on := 22, ground := Ground.data }, { on := 8, ground := Ground.guard }], guard := some (8, false) }) (v := ?vq023) rfl (by kernel_rfl) (by kernel_rfl) (by kernel_rfl) (fun _ _ _ h => h) (Or.inl ⟨by rfl, ?yq023⟩) (by assumption) ?tq023
          case yq023 => (intro wz hSw; clear hSw; go_simp; try with_reducible rfl)
          simp only [Act.put, List.setIfInBounds_toArray, List.set_cons_zero, List.set_cons_succ]
          refine wpAnyH_take (i := 24) (oi := { dst := some 50, op := Op.pick (Operand.tmp 34) (Operand.const (Value.bool true)) (Operand.tmp 49), type := 4, pos := "law.go:181", after := #[{ on := 8, ground := Ground.data }, { on := 23, ground := Ground.data }], guard := none }) (v := ?vq024) rfl (by kernel_rfl) (by kernel_rfl) (by kernel_rfl) (fun _ _ _ h => h) (Or.inl ⟨by rfl, ?yq024⟩) (by assumption) ?tq024
          case yq024 => (intro wz hSw; clear hSw; go_simp; try with_reducible rfl)
          simp only [Act.put, List.setIfInBounds_toArray, List.set_cons_zero, List.set_cons_succ]
          refine wpAnyH_done (by kernel_rfl) ?_ _
          have HF7 := Lib.hid hHeld.1
          have HG7 := Lib.hid hHeld.2.1
          have HB7 := Lib.hid hHeld.2.2
          clear hHeld
          have c2 := box_cell HG7.out 2 (.int .i64 H.v) rfl
          have z2 := box_fz HG7.out 2
          have l2 := lt_of_block HG7.out
          have HC := one_ch wz bg 2 (.int .i64 ver)
          have HF8 := Lib.hid ((HC.block _ (lt_of_block HF7.out) (by have := HNe.out; omega)).trans HF7.out)
          have HG8 := Lib.hid (show (wz.setCell ⟨bg, 2, none⟩ (.int .i64 ver)).heap[bg]? = some (factObj { H with v := ver }) from block_set HG7.out (o := 2) _)
          have HB8 := Lib.hid (HB7.out.trans (HC.below (B := W.heap.size) (Nat.le_of_lt (lt_of_block HF7.out)) (fun k e => by have := HNe.out; omega)))
          clear HC HF7 HB7
          go_upto_region 10 with (fail)
          clear c2 z2 l2 HG7 HVf HVg
          generalize wz.setCell ⟨bg, 2, none⟩ (.int .i64 ver) = w8 at *
          have HS2 := Lib.hid (show ({ H with v := ver } : Fact).tx.size ≤ maxLen from HSH.out)
          have HK2 := Lib.hid (HK.out ver)
          generalize ({ H with v := ver } : Fact) = J at *
          have HVf := Lib.hid (fun V h => valid_any G V h HS.out)
          have HVg := Lib.hid (fun V h => valid_any J V h HS2.out)
          have HKf := Lib.hid (fun V h => key_any G V h HS.out)
          have HKg := Lib.hid (fun V h => key_any J V h HS2.out)
          unfold BoolPost at HVf HVg
          unfold StrPost at HKf HKg
          rw [HvF.out] at HVf
          refine wp_region_held_drew (S := (fun v => v.heap[W.heap.size]? = some (factObj G) ∧ v.heap[bg]? = some (factObj J) ∧ Below W.heap.size W v)) (by kernel_rfl) (⟨HF8.out, HG8.out, HB8.out.drew⟩) (fun hHeld => ?_)
          generalize w8.drew = wd at *
          refine wpAnyH_take (i := 0) (oi := { dst := some 53, op := Op.move (Operand.tmp 9), type := 4, pos := "law.go:185", after := #[], guard := none }) (v := ?vq0n0) rfl (by kernel_rfl) (by kernel_rfl) (by kernel_rfl) (fun _ _ _ h => h) (Or.inl ⟨by rfl, ?yq0n0⟩) (by assumption) ?tq0n0
          case yq0n0 => (intro wz hSw; clear hSw; go_simp; try with_reducible rfl)
          simp only [Act.put, List.setIfInBounds_toArray, List.set_cons_zero, List.set_cons_succ]
          refine wpAnyH_take (i := 1) (oi := { dst := some 54, op := Op.move (Operand.tmp 53), type := 4, pos := "law.go:185", after := #[{ on := 0, ground := Ground.data }], guard := none }) (v := ?vq0n1) rfl (by kernel_rfl) (by kernel_rfl) (by kernel_rfl) (fun _ _ _ h => h) (Or.inl ⟨by rfl, ?yq0n1⟩) (by assumption) ?tq0n1
          case yq0n1 => (intro wz hSw; clear hSw; go_simp; try with_reducible rfl)
          simp only [Act.put, List.setIfInBounds_toArray, List.set_cons_zero, List.set_cons_succ]
          refine wpAnyH_take (i := 2) (oi := { dst := some 55, op := Op.load 23 (Operand.tmp 4), type := 23, pos := "law.go:185", after := #[{ on := 1, ground := Ground.guard }], guard := some (1, true) }) (v := factV G) rfl (by kernel_rfl) (by kernel_rfl) (by kernel_rfl) (fun _ _ _ h => h) (Or.inl ⟨by rfl, fun wz hSw => sem_load_fact _ rfl (W.heap.size) rfl G (hSw.1)⟩) (by assumption) ?tq0n2
          simp only [Act.put, List.setIfInBounds_toArray, List.set_cons_zero, List.set_cons_succ]
          refine wpAnyH_ready (rs := [3]) (by kernel_rfl) (by simp) ?_
          refine AllReadyH.cons (o := { dst := some 56, op := Op.call { callee := Callee.value (Operand.func 16), args := #[Operand.tmp 55], argTypes := #[23] }, type := 4, pos := "law.go:185", after := #[{ on := 2, ground := Ground.data }, { on := 1, ground := Ground.chain }, { on := 1, ground := Ground.guard }], guard := some (1, true) }) rfl (fun K hK => ?_) AllReadyH.nil
          have HH := Lib.hid hHeld
          go_simp
          refine (HVf.out _ (HTW.out.below HH.out.2.2)).mono ?_; rintro e wz ⟨rfl, gz⟩
          have hz : wz.heap[W.heap.size]? = some (factObj G) ∧ wz.heap[bg]? = some (factObj J) ∧ Below W.heap.size W wz := ⟨box_below HH.out.1 gz, box_below HH.out.2.1 gz, below_step HH.out.2.2 gz⟩
          clear gz HH
          refine hK.out _ _ (hz) (fun hHeld' => ?_)
          clear hK K hHeld
          have hHeld := hHeld'; clear hHeld'
          try simp only [Act.put, List.setIfInBounds_toArray, List.set_cons_zero, List.set_cons_succ]
          refine wpAnyH_take (i := 4) (oi := { dst := some 57, op := Op.unOp UnOp.not 4 (Operand.tmp 56), type := 4, pos := "law.go:185", after := #[{ on := 3, ground := Ground.data }, { on := 1, ground := Ground.guard }], guard := some (1, true) }) (v := ?vq0n4) rfl (by kernel_rfl) (by kernel_rfl) (by kernel_rfl) (fun _ _ _ h => h) (Or.inl ⟨by rfl, ?yq0n4⟩) (by assumption) ?tq0n4
          case yq0n4 => (intro wz hSw; clear hSw; go_simp; try with_reducible rfl)
          simp only [Act.put, List.setIfInBounds_toArray, List.set_cons_zero, List.set_cons_succ]
          refine wpAnyH_take (i := 5) (oi := { dst := some 58, op := Op.move (Operand.tmp 57), type := 4, pos := "law.go:185", after := #[{ on := 4, ground := Ground.data }, { on := 3, ground := Ground.chain }, { on := 1, ground := Ground.guard }], guard := some (1, true) }) (v := ?vq0n5) rfl (by kernel_rfl) (by kernel_rfl) (by kernel_rfl) (fun _ _ _ h => h) (Or.inl ⟨by rfl, ?yq0n5⟩) (by assumption) ?tq0n5
          case yq0n5 => (intro wz hSw; clear hSw; go_simp; try with_reducible rfl)
          simp only [Act.put, List.setIfInBounds_toArray, List.set_cons_zero, List.set_cons_succ]
          refine wpAnyH_take (i := 6) (oi := { dst := some 59, op := Op.load 23 (Operand.tmp 10), type := 23, pos := "law.go:185", after := #[{ on := 5, ground := Ground.guard }], guard := some (5, false) }) (v := undef) rfl (by kernel_rfl) (by kernel_rfl) (by kernel_rfl) (fun _ _ _ h => h) (Or.inr ⟨by rfl, rfl⟩) (by assumption) ?_
          simp only [Act.put, List.setIfInBounds_toArray, List.set_cons_zero, List.set_cons_succ]
          refine wpAnyH_take (i := 7) (oi := { dst := some 60, op := Op.call { callee := Callee.value (Operand.func 16), args := #[Operand.tmp 59], argTypes := #[23] }, type := 4, pos := "law.go:185", after := #[{ on := 6, ground := Ground.data }, { on := 5, ground := Ground.chain }, { on := 5, ground := Ground.guard }], guard := some (5, false) }) (v := undef) rfl (by kernel_rfl) (by kernel_rfl) (by kernel_rfl) (fun _ _ _ h => h) (Or.inr ⟨by rfl, rfl⟩) (by assumption) ?_
          simp only [Act.put, List.setIfInBounds_toArray, List.set_cons_zero, List.set_cons_succ]
          refine wpAnyH_take (i := 8) (oi := { dst := some 61, op := Op.unOp UnOp.not 4 (Operand.tmp 60), type := 4, pos := "law.go:185", after := #[{ on := 7, ground := Ground.data }, { on := 5, ground := Ground.guard }], guard := some (5, false) }) (v := undef) rfl (by kernel_rfl) (by kernel_rfl) (by kernel_rfl) (fun _ _ _ h => h) (Or.inr ⟨by rfl, rfl⟩) (by assumption) ?_
          simp only [Act.put, List.setIfInBounds_toArray, List.set_cons_zero, List.set_cons_succ]
          refine wpAnyH_take (i := 9) (oi := { dst := some 62, op := Op.pick (Operand.tmp 58) (Operand.const (Value.bool true)) (Operand.tmp 61), type := 4, pos := "law.go:185", after := #[{ on := 5, ground := Ground.data }, { on := 8, ground := Ground.data }, { on := 1, ground := Ground.guard }], guard := some (1, true) }) (v := ?vq0n9) rfl (by kernel_rfl) (by kernel_rfl) (by kernel_rfl) (fun _ _ _ h => h) (Or.inl ⟨by rfl, ?yq0n9⟩) (by assumption) ?tq0n9
          case yq0n9 => (intro wz hSw; clear hSw; go_simp; try with_reducible rfl)
          simp only [Act.put, List.setIfInBounds_toArray, List.set_cons_zero, List.set_cons_succ]
          refine wpAnyH_take (i := 10) (oi := { dst := some 63, op := Op.move (Operand.tmp 62), type := 4, pos := "law.go:185", after := #[{ on := 9, ground := Ground.data }, { on := 7, ground := Ground.chain }, { on := 1, ground := Ground.guard }], guard := some (1, true) }) (v := ?vq0n10) rfl (by kernel_rfl) (by kernel_rfl) (by kernel_rfl) (fun _ _ _ h => h) (Or.inl ⟨by rfl, ?yq0n10⟩) (by assumption) ?tq0n10
          case yq0n10 => (intro wz hSw; clear hSw; go_simp; try with_reducible rfl)
          simp only [Act.put, List.setIfInBounds_toArray, List.set_cons_zero, List.set_cons_succ]
          refine wpAnyH_take (i := 11) (oi := { dst := some 64, op := Op.load 23 (Operand.tmp 4), type := 23, pos := "law.go:185", after := #[{ on := 10, ground := Ground.guard }], guard := some (10, false) }) (v := undef) rfl (by kernel_rfl) (by kernel_rfl) (by kernel_rfl) (fun _ _ _ h => h) (Or.inr ⟨by rfl, rfl⟩) (by assumption) ?_
          simp only [Act.put, List.setIfInBounds_toArray, List.set_cons_zero, List.set_cons_succ]
          refine wpAnyH_take (i := 12) (oi := { dst := some 65, op := Op.call { callee := Callee.value (Operand.func 18), args := #[Operand.tmp 64], argTypes := #[23] }, type := 9, pos := "law.go:185", after := #[{ on := 11, ground := Ground.data }, { on := 10, ground := Ground.chain }, { on := 10, ground := Ground.guard }], guard := some (10, false) }) (v := undef) rfl (by kernel_rfl) (by kernel_rfl) (by kernel_rfl) (fun _ _ _ h => h) (Or.inr ⟨by rfl, rfl⟩) (by assumption) ?_
          simp only [Act.put, List.setIfInBounds_toArray, List.set_cons_zero, List.set_cons_succ]
          refine wpAnyH_take (i := 13) (oi := { dst := some 66, op := Op.load 23 (Operand.tmp 10), type := 23, pos := "law.go:185", after := #[{ on := 10, ground := Ground.guard }], guard := some (10, false) }) (v := undef) rfl (by kernel_rfl) (by kernel_rfl) (by kernel_rfl) (fun _ _ _ h => h) (Or.inr ⟨by rfl, rfl⟩) (by assumption) ?_
          simp only [Act.put, List.setIfInBounds_toArray, List.set_cons_zero, List.set_cons_succ]
          refine wpAnyH_take (i := 14) (oi := { dst := some 67, op := Op.call { callee := Callee.value (Operand.func 18), args := #[Operand.tmp 66], argTypes := #[23] }, type := 9, pos := "law.go:185", after := #[{ on := 13, ground := Ground.data }, { on := 12, ground := Ground.chain }, { on := 10, ground := Ground.guard }], guard := some (10, false) }) (v := undef) rfl (by kernel_rfl) (by kernel_rfl) (by kernel_rfl) (fun _ _ _ h => h) (Or.inr ⟨by rfl, rfl⟩) (by assumption) ?_
          simp only [Act.put, List.setIfInBounds_toArray, List.set_cons_zero, List.set_cons_succ]
          refine wpAnyH_take (i := 15) (oi := { dst := some 68, op := Op.binOp BinOp.eql 9 (Operand.tmp 65) (Operand.tmp 67) 9, type := 4, pos := "law.go:185", after := #[{ on := 12, ground := Ground.data }, { on := 14, ground := Ground.data }, { on := 10, ground := Ground.guard }], guard := some (10, false) }) (v := undef) rfl (by kernel_rfl) (by kernel_rfl) (by kernel_rfl) (fun _ _ _ h => h) (Or.inr ⟨by rfl, rfl⟩) (by assumption) ?_
          simp only [Act.put, List.setIfInBounds_toArray, List.set_cons_zero, List.set_cons_succ]
          refine wpAnyH_take (i := 16) (oi := { dst := some 69, op := Op.pick (Operand.tmp 63) (Operand.const (Value.bool true)) (Operand.tmp 68), type := 4, pos := "law.go:185", after := #[{ on := 10, ground := Ground.data }, { on := 15, ground := Ground.data }, { on := 1, ground := Ground.guard }], guard := some (1, true) }) (v := ?vq0n16) rfl (by kernel_rfl) (by kernel_rfl) (by kernel_rfl) (fun _ _ _ h => h) (Or.inl ⟨by rfl, ?yq0n16⟩) (by assumption) ?tq0n16
          case yq0n16 => (intro wz hSw; clear hSw; go_simp; try with_reducible rfl)
          simp only [Act.put, List.setIfInBounds_toArray, List.set_cons_zero, List.set_cons_succ]
          refine wpAnyH_take (i := 17) (oi := { dst := some 70, op := Op.pick (Operand.tmp 54) (Operand.tmp 69) (Operand.const (Value.bool false)), type := 4, pos := "law.go:185", after := #[{ on := 1, ground := Ground.data }, { on := 16, ground := Ground.data }], guard := none }) (v := ?vq0n17) rfl (by kernel_rfl) (by kernel_rfl) (by kernel_rfl) (fun _ _ _ h => h) (Or.inl ⟨by rfl, ?yq0n17⟩) (by assumption) ?tq0n17
          case yq0n17 => (intro wz hSw; clear hSw; go_simp; try with_reducible rfl)
          simp only [Act.put, List.setIfInBounds_toArray, List.set_cons_zero, List.set_cons_succ]
          refine wpAnyH_take (i := 18) (oi := { dst := some 8, op := Op.assign (Operand.tmp 70), type := 4, pos := "law.go:185", after := #[{ on := 17, ground := Ground.data }, { on := 14, ground := Ground.chain }, { on := 0, ground := Ground.phase }, { on := 1, ground := Ground.phase }, { on := 2, ground := Ground.phase }, { on := 3, ground := Ground.phase }, { on := 4, ground := Ground.phase }, { on := 5, ground := Ground.phase }, { on := 6, ground := Ground.phase }, { on := 7, ground := Ground.phase }, { on := 8, ground := Ground.phase }, { on := 9, ground := Ground.phase }, { on := 10, ground := Ground.phase }, { on := 11, ground := Ground.phase }, { on := 12, ground := Ground.phase }, { on := 13, ground := Ground.phase }, { on := 14, ground := Ground.phase }, { on := 15, ground := Ground.phase }, { on := 16, ground := Ground.phase }, { on := 17, ground := Ground.phase }], guard := none }) (v := ?vq0n18) rfl (by kernel_rfl) (by kernel_rfl) (by kernel_rfl) (fun _ _ _ h => h) (Or.inl ⟨by rfl, ?yq0n18⟩) (by assumption) ?tq0n18
          case yq0n18 => (intro wz hSw; clear hSw; go_simp; try with_reducible rfl)
          simp only [Act.put, List.setIfInBounds_toArray, List.set_cons_zero, List.set_cons_succ]
          refine wpAnyH_done (by kernel_rfl) ?_ _
          have HFin := Lib.hid hHeld
          go_wp2_with fail
          go_ret
          exact ⟨rfl, HFin.out.2.2⟩
        | true =>
          exact absurd (valid_iff.1 hvg).2.2.1 HOut.out
      | true =>
        have hvg : validB H = false := by
          cases h : validB H with
          | false => rfl
          | true => exact absurd (valid_iff.1 h).2.2.1 HOut.out
        unfold BoolPost at HVf HVg
        have HvF := Lib.hid hvf
        rw [hvf] at HVf
        rw [hvg] at HVg
        clear hvf hvg
        refine wp_region_held_drew (S := (fun v => v.heap[W.heap.size]? = some (factObj G) ∧ v.heap[bg]? = some (factObj H) ∧ Below W.heap.size W v)) (by kernel_rfl) (⟨HF5.out, HG5.out, HB5.out.drew⟩) (fun hHeld => ?_)
        generalize w5.drew = wd at *
        refine wpAnyH_take (i := 0) (oi := { dst := some 26, op := Op.load 23 (Operand.tmp 4), type := 23, pos := "law.go:181", after := #[], guard := none }) (v := factV G) rfl (by kernel_rfl) (by kernel_rfl) (by kernel_rfl) (fun _ _ _ h => h) (Or.inl ⟨by rfl, fun wz hSw => sem_load_fact _ rfl (W.heap.size) rfl G (hSw.1)⟩) (by assumption) ?tq40
        simp only [Act.put, List.setIfInBounds_toArray, List.set_cons_zero, List.set_cons_succ]
        refine wpAnyH_ready (rs := [1]) (by kernel_rfl) (by simp) ?_
        refine AllReadyH.cons (o := { dst := some 27, op := Op.call { callee := Callee.value (Operand.func 16), args := #[Operand.tmp 26], argTypes := #[23] }, type := 4, pos := "law.go:181", after := #[{ on := 0, ground := Ground.data }], guard := none }) rfl (fun K hK => ?_) AllReadyH.nil
        have HH := Lib.hid hHeld
        go_simp
        refine (HVf.out _ (HTW.out.below HH.out.2.2)).mono ?_; rintro e wz ⟨rfl, gz⟩
        have hz : wz.heap[W.heap.size]? = some (factObj G) ∧ wz.heap[bg]? = some (factObj H) ∧ Below W.heap.size W wz := ⟨box_below HH.out.1 gz, box_below HH.out.2.1 gz, below_step HH.out.2.2 gz⟩
        clear gz HH
        refine hK.out _ _ (hz) (fun hHeld' => ?_)
        clear hK K hHeld
        have hHeld := hHeld'; clear hHeld'
        try simp only [Act.put, List.setIfInBounds_toArray, List.set_cons_zero, List.set_cons_succ]
        refine wpAnyH_take (i := 2) (oi := { dst := some 28, op := Op.move (Operand.tmp 27), type := 4, pos := "law.go:181", after := #[{ on := 1, ground := Ground.data }, { on := 1, ground := Ground.chain }], guard := none }) (v := ?vq42) rfl (by kernel_rfl) (by kernel_rfl) (by kernel_rfl) (fun _ _ _ h => h) (Or.inl ⟨by rfl, ?yq42⟩) (by assumption) ?tq42
        case yq42 => (intro wz hSw; clear hSw; go_simp; try with_reducible rfl)
        simp only [Act.put, List.setIfInBounds_toArray, List.set_cons_zero, List.set_cons_succ]
        refine wpAnyH_take (i := 3) (oi := { dst := some 29, op := Op.load 23 (Operand.tmp 10), type := 23, pos := "law.go:181", after := #[{ on := 2, ground := Ground.guard }], guard := some (2, true) }) (v := factV H) rfl (by kernel_rfl) (by kernel_rfl) (by kernel_rfl) (fun _ _ _ h => h) (Or.inl ⟨by rfl, fun wz hSw => sem_load_fact _ rfl (bg) rfl H (hSw.2.1)⟩) (by assumption) ?tq43
        simp only [Act.put, List.setIfInBounds_toArray, List.set_cons_zero, List.set_cons_succ]
        refine wpAnyH_take (i := 5) (oi := { dst := some 31, op := Op.move (Operand.tmp 11), type := 4, pos := "law.go:181", after := #[{ on := 2, ground := Ground.guard }], guard := some (2, true) }) (v := ?vq45) rfl (by kernel_rfl) (by kernel_rfl) (by kernel_rfl) (fun _ _ _ h => h) (Or.inl ⟨by rfl, ?yq45⟩) (by assumption) ?tq45
        case yq45 => (intro wz hSw; clear hSw; go_simp; try with_reducible rfl)
        simp only [Act.put, List.setIfInBounds_toArray, List.set_cons_zero, List.set_cons_succ]
        refine wpAnyH_ready (rs := [4]) (by kernel_rfl) (by simp) ?_
        refine AllReadyH.cons (o := { dst := some 30, op := Op.call { callee := Callee.value (Operand.func 16), args := #[Operand.tmp 29], argTypes := #[23] }, type := 4, pos := "law.go:181", after := #[{ on := 3, ground := Ground.data }, { on := 2, ground := Ground.chain }, { on := 2, ground := Ground.guard }], guard := some (2, true) }) rfl (fun K hK => ?_) AllReadyH.nil
        have HH := Lib.hid hHeld
        go_simp
        refine (HVg.out _ (HTW.out.below HH.out.2.2)).mono ?_; rintro e wz ⟨rfl, gz⟩
        have hz : wz.heap[W.heap.size]? = some (factObj G) ∧ wz.heap[bg]? = some (factObj H) ∧ Below W.heap.size W wz := ⟨box_below HH.out.1 gz, box_below HH.out.2.1 gz, below_step HH.out.2.2 gz⟩
        clear gz HH
        refine hK.out _ _ (hz) (fun hHeld' => ?_)
        clear hK K hHeld
        have hHeld := hHeld'; clear hHeld'
        try simp only [Act.put, List.setIfInBounds_toArray, List.set_cons_zero, List.set_cons_succ]
        refine wpAnyH_take (i := 6) (oi := { dst := some 32, op := Op.binOp BinOp.neq 4 (Operand.tmp 30) (Operand.tmp 31) 4, type := 4, pos := "law.go:181", after := #[{ on := 4, ground := Ground.data }, { on := 5, ground := Ground.data }, { on := 2, ground := Ground.guard }], guard := some (2, true) }) (v := ?vq46) rfl (by kernel_rfl) (by kernel_rfl) (by kernel_rfl) (fun _ _ _ h => h) (Or.inl ⟨by rfl, ?yq46⟩) (by assumption) ?tq46
        case yq46 => (intro wz hSw; clear hSw; go_simp; try with_reducible rfl)
        simp only [Act.put, List.setIfInBounds_toArray, List.set_cons_zero, List.set_cons_succ]
        refine wpAnyH_take (i := 7) (oi := { dst := some 33, op := Op.pick (Operand.tmp 28) (Operand.tmp 32) (Operand.const (Value.bool false)), type := 4, pos := "law.go:181", after := #[{ on := 2, ground := Ground.data }, { on := 6, ground := Ground.data }], guard := none }) (v := ?vq47) rfl (by kernel_rfl) (by kernel_rfl) (by kernel_rfl) (fun _ _ _ h => h) (Or.inl ⟨by rfl, ?yq47⟩) (by assumption) ?tq47
        case yq47 => (intro wz hSw; clear hSw; go_simp; try with_reducible rfl)
        simp only [Act.put, List.setIfInBounds_toArray, List.set_cons_zero, List.set_cons_succ]
        refine wpAnyH_take (i := 8) (oi := { dst := some 34, op := Op.move (Operand.tmp 33), type := 4, pos := "law.go:181", after := #[{ on := 7, ground := Ground.data }, { on := 4, ground := Ground.chain }], guard := none }) (v := ?vq48) rfl (by kernel_rfl) (by kernel_rfl) (by kernel_rfl) (fun _ _ _ h => h) (Or.inl ⟨by rfl, ?yq48⟩) (by assumption) ?tq48
        case yq48 => (intro wz hSw; clear hSw; go_simp; try with_reducible rfl)
        simp only [Act.put, List.setIfInBounds_toArray, List.set_cons_zero, List.set_cons_succ]
        refine wpAnyH_take (i := 9) (oi := { dst := some 35, op := Op.load 23 (Operand.tmp 10), type := 23, pos := "law.go:181", after := #[{ on := 8, ground := Ground.guard }], guard := some (8, false) }) (v := factV H) rfl (by kernel_rfl) (by kernel_rfl) (by kernel_rfl) (fun _ _ _ h => h) (Or.inl ⟨by rfl, fun wz hSw => sem_load_fact _ rfl (bg) rfl H (hSw.2.1)⟩) (by assumption) ?tq49
        simp only [Act.put, List.setIfInBounds_toArray, List.set_cons_zero, List.set_cons_succ]
        refine wpAnyH_ready (rs := [10]) (by kernel_rfl) (by simp) ?_
        refine AllReadyH.cons (o := { dst := some 36, op := Op.call { callee := Callee.value (Operand.func 16), args := #[Operand.tmp 35], argTypes := #[23] }, type := 4, pos := "law.go:181", after := #[{ on := 9, ground := Ground.data }, { on := 8, ground := Ground.chain }, { on := 8, ground := Ground.guard }], guard := some (8, false) }) rfl (fun K hK => ?_) AllReadyH.nil
        have HH := Lib.hid hHeld
        go_simp
        refine (HVg.out _ (HTW.out.below HH.out.2.2)).mono ?_; rintro e wz ⟨rfl, gz⟩
        have hz : wz.heap[W.heap.size]? = some (factObj G) ∧ wz.heap[bg]? = some (factObj H) ∧ Below W.heap.size W wz := ⟨box_below HH.out.1 gz, box_below HH.out.2.1 gz, below_step HH.out.2.2 gz⟩
        clear gz HH
        refine hK.out _ _ (hz) (fun hHeld' => ?_)
        clear hK K hHeld
        have hHeld := hHeld'; clear hHeld'
        try simp only [Act.put, List.setIfInBounds_toArray, List.set_cons_zero, List.set_cons_succ]
        refine wpAnyH_take (i := 11) (oi := { dst := some 37, op := Op.move (Operand.tmp 36), type := 4, pos := "law.go:181", after := #[{ on := 10, ground := Ground.data }, { on := 10, ground := Ground.chain }, { on := 8, ground := Ground.guard }], guard := some (8, false) }) (v := ?vq411) rfl (by kernel_rfl) (by kernel_rfl) (by kernel_rfl) (fun _ _ _ h => h) (Or.inl ⟨by rfl, ?yq411⟩) (by assumption) ?tq411
        case yq411 => (intro wz hSw; clear hSw; go_simp; try with_reducible rfl)
        simp only [Act.put, List.setIfInBounds_toArray, List.set_cons_zero, List.set_cons_succ]
        refine wpAnyH_take (i := 12) (oi := { dst := some 38, op := Op.load 23 (Operand.tmp 4), type := 23, pos := "law.go:181", after := #[{ on := 11, ground := Ground.guard }], guard := some (11, true) }) (v := undef) rfl (by kernel_rfl) (by kernel_rfl) (by kernel_rfl) (fun _ _ _ h => h) (Or.inr ⟨by rfl, rfl⟩) (by assumption) ?_
        simp only [Act.put, List.setIfInBounds_toArray, List.set_cons_zero, List.set_cons_succ]
        refine wpAnyH_take (i := 13) (oi := { dst := some 39, op := Op.call { callee := Callee.value (Operand.func 16), args := #[Operand.tmp 38], argTypes := #[23] }, type := 4, pos := "law.go:181", after := #[{ on := 12, ground := Ground.data }, { on := 11, ground := Ground.chain }, { on := 11, ground := Ground.guard }], guard := some (11, true) }) (v := undef) rfl (by kernel_rfl) (by kernel_rfl) (by kernel_rfl) (fun _ _ _ h => h) (Or.inr ⟨by rfl, rfl⟩) (by assumption) ?_
        simp only [Act.put, List.setIfInBounds_toArray, List.set_cons_zero, List.set_cons_succ]
        refine wpAnyH_take (i := 14) (oi := { dst := some 40, op := Op.fieldAddr 23 (Operand.tmp 4) 3, type := 0, pos := "law.go:181", after := #[{ on := 11, ground := Ground.guard }], guard := some (11, true) }) (v := undef) rfl (by kernel_rfl) (by kernel_rfl) (by kernel_rfl) (fun _ _ _ h => h) (Or.inr ⟨by rfl, rfl⟩) (by assumption) ?_
        simp only [Act.put, List.setIfInBounds_toArray, List.set_cons_zero, List.set_cons_succ]
        refine wpAnyH_take (i := 15) (oi := { dst := some 41, op := Op.load 3 (Operand.tmp 40), type := 3, pos := "law.go:181", after := #[{ on := 14, ground := Ground.data }, { on := 11, ground := Ground.guard }], guard := some (11, true) }) (v := undef) rfl (by kernel_rfl) (by kernel_rfl) (by kernel_rfl) (fun _ _ _ h => h) (Or.inr ⟨by rfl, rfl⟩) (by assumption) ?_
        simp only [Act.put, List.setIfInBounds_toArray, List.set_cons_zero, List.set_cons_succ]
        refine wpAnyH_take (i := 16) (oi := { dst := some 42, op := Op.binOp BinOp.geq 3 (Operand.tmp 41) (Operand.const (Value.int IntKind.i64 0)) 3, type := 4, pos := "law.go:181", after := #[{ on := 15, ground := Ground.data }, { on := 11, ground := Ground.guard }], guard := some (11, true) }) (v := undef) rfl (by kernel_rfl) (by kernel_rfl) (by kernel_rfl) (fun _ _ _ h => h) (Or.inr ⟨by rfl, rfl⟩) (by assumption) ?_
        simp only [Act.put, List.setIfInBounds_toArray, List.set_cons_zero, List.set_cons_succ]
        refine wpAnyH_take (i := 17) (oi := { dst := some 43, op := Op.move (Operand.tmp 42), type := 4, pos := "law.go:181", after := #[{ on := 16, ground := Ground.data }, { on := 13, ground := Ground.chain }, { on := 11, ground := Ground.guard }], guard := some (11, true) }) (v := undef) rfl (by kernel_rfl) (by kernel_rfl) (by kernel_rfl) (fun _ _ _ h => h) (Or.inr ⟨by rfl, rfl⟩) (by assumption) ?_
        simp only [Act.put, List.setIfInBounds_toArray, List.set_cons_zero, List.set_cons_succ]
        refine wpAnyH_take (i := 18) (oi := { dst := some 44, op := Op.fieldAddr 23 (Operand.tmp 4) 3, type := 0, pos := "law.go:181", after := #[{ on := 17, ground := Ground.guard }], guard := some (17, true) }) (v := undef) rfl (by kernel_rfl) (by kernel_rfl) (by kernel_rfl) (fun _ _ _ h => h) (Or.inr ⟨by rfl, rfl⟩) (by assumption) ?_
        simp only [Act.put, List.setIfInBounds_toArray, List.set_cons_zero, List.set_cons_succ]
        refine wpAnyH_take (i := 19) (oi := { dst := some 45, op := Op.load 3 (Operand.tmp 44), type := 3, pos := "law.go:181", after := #[{ on := 18, ground := Ground.data }, { on := 17, ground := Ground.guard }], guard := some (17, true) }) (v := undef) rfl (by kernel_rfl) (by kernel_rfl) (by kernel_rfl) (fun _ _ _ h => h) (Or.inr ⟨by rfl, rfl⟩) (by assumption) ?_
        simp only [Act.put, List.setIfInBounds_toArray, List.set_cons_zero, List.set_cons_succ]
        refine wpAnyH_take (i := 20) (oi := { dst := some 46, op := Op.binOp BinOp.leq 3 (Operand.tmp 45) (Operand.const (Value.int IntKind.i64 100000)) 3, type := 4, pos := "law.go:181", after := #[{ on := 19, ground := Ground.data }, { on := 17, ground := Ground.guard }], guard := some (17, true) }) (v := undef) rfl (by kernel_rfl) (by kernel_rfl) (by kernel_rfl) (fun _ _ _ h => h) (Or.inr ⟨by rfl, rfl⟩) (by assumption) ?_
        simp only [Act.put, List.setIfInBounds_toArray, List.set_cons_zero, List.set_cons_succ]
        refine wpAnyH_take (i := 21) (oi := { dst := some 47, op := Op.pick (Operand.tmp 43) (Operand.tmp 46) (Operand.const (Value.bool false)), type := 4, pos := "law.go:181", after := #[{ on := 17, ground := Ground.data }, { on := 20, ground := Ground.data }, { on := 11, ground := Ground.guard }], guard := some (11, true) }) (v := undef) rfl (by kernel_rfl) (by kernel_rfl) (by kernel_rfl) (fun _ _ _ h => h) (Or.inr ⟨by rfl, rfl⟩) (by assumption) ?_
        simp only [Act.put, List.setIfInBounds_toArray, List.set_cons_zero, List.set_cons_succ]
        refine wpAnyH_take (i := 22) (oi := { dst := some 48, op := Op.binOp BinOp.neq 4 (Operand.tmp 39) (Operand.tmp 47) 4, type := 4, pos := "law.go:181", after := #[{ on := 13, ground := Ground.data }, { on := 21, ground := Ground.data }, { on := 11, ground := Ground.guard }], guard := some (11, true) }) (v := undef) rfl (by kernel_rfl) (by kernel_rfl) (by kernel_rfl) (fun _ _ _ h => h) (Or.inr ⟨by rfl, rfl⟩) (by assumption) ?_
        simp only [Act.put, List.setIfInBounds_toArray, List.set_cons_zero, List.set_cons_succ]
        refine wpAnyH_take (i := 23) (oi := { dst := some 49, op := Op.pick (Operand.tmp 37) (Operand.tmp 48) (Operand.const (Value.bool false)), type := 4, pos := "law.go:181", after := #[{ on := 11, ground := Ground.data }, { on := 22, ground := Ground.data }, { on := 8, ground := Ground.guard }], guard := some (8, false) }) (v := ?vq423) rfl (by kernel_rfl) (by kernel_rfl) (by kernel_rfl) (fun _ _ _ h => h) (Or.inl ⟨by rfl, ?yq423⟩) (by assumption) ?tq423
        case yq423 => (intro wz hSw; clear hSw; go_simp; try with_reducible rfl)
        simp only [Act.put, List.setIfInBounds_toArray, List.set_cons_zero, List.set_cons_succ]
        refine wpAnyH_take (i := 24) (oi := { dst := some 50, op := Op.pick (Operand.tmp 34) (Operand.const (Value.bool true)) (Operand.tmp 49), type := 4, pos := "law.go:181", after := #[{ on := 8, ground := Ground.data }, { on := 23, ground := Ground.data }], guard := none }) (v := ?vq424) rfl (by kernel_rfl) (by kernel_rfl) (by kernel_rfl) (fun _ _ _ h => h) (Or.inl ⟨by rfl, ?yq424⟩) (by assumption) ?tq424
        case yq424 => (intro wz hSw; clear hSw; go_simp; try with_reducible rfl)
        simp only [Act.put, List.setIfInBounds_toArray, List.set_cons_zero, List.set_cons_succ]
        refine wpAnyH_done (by kernel_rfl) ?_ _
        have HF7 := Lib.hid hHeld.1
        have HG7 := Lib.hid hHeld.2.1
        have HB7 := Lib.hid hHeld.2.2
        clear hHeld
        have c2 := box_cell HG7.out 2 (.int .i64 H.v) rfl
        have z2 := box_fz HG7.out 2
        have l2 := lt_of_block HG7.out
        have HC := one_ch wz bg 2 (.int .i64 ver)
        have HF8 := Lib.hid ((HC.block _ (lt_of_block HF7.out) (by have := HNe.out; omega)).trans HF7.out)
        have HG8 := Lib.hid (show (wz.setCell ⟨bg, 2, none⟩ (.int .i64 ver)).heap[bg]? = some (factObj { H with v := ver }) from block_set HG7.out (o := 2) _)
        have HB8 := Lib.hid (HB7.out.trans (HC.below (B := W.heap.size) (Nat.le_of_lt (lt_of_block HF7.out)) (fun k e => by have := HNe.out; omega)))
        clear HC HF7 HB7
        go_upto_region 10 with (fail)
        clear c2 z2 l2 HG7 HVf HVg
        generalize wz.setCell ⟨bg, 2, none⟩ (.int .i64 ver) = w8 at *
        have HS2 := Lib.hid (show ({ H with v := ver } : Fact).tx.size ≤ maxLen from HSH.out)
        have HK2 := Lib.hid (HK.out ver)
        generalize ({ H with v := ver } : Fact) = J at *
        have HVf := Lib.hid (fun V h => valid_any G V h HS.out)
        have HVg := Lib.hid (fun V h => valid_any J V h HS2.out)
        have HKf := Lib.hid (fun V h => key_any G V h HS.out)
        have HKg := Lib.hid (fun V h => key_any J V h HS2.out)
        unfold BoolPost at HVf HVg
        unfold StrPost at HKf HKg
        rw [HvF.out] at HVf
        cases hk : validB J with
        | false =>
          rw [hk] at HVg
          clear hk
          refine wp_region_held_drew (S := (fun v => v.heap[W.heap.size]? = some (factObj G) ∧ v.heap[bg]? = some (factObj J) ∧ Below W.heap.size W v)) (by kernel_rfl) (⟨HF8.out, HG8.out, HB8.out.drew⟩) (fun hHeld => ?_)
          generalize w8.drew = wd at *
          refine wpAnyH_take (i := 0) (oi := { dst := some 53, op := Op.move (Operand.tmp 9), type := 4, pos := "law.go:185", after := #[], guard := none }) (v := ?vq4n0) rfl (by kernel_rfl) (by kernel_rfl) (by kernel_rfl) (fun _ _ _ h => h) (Or.inl ⟨by rfl, ?yq4n0⟩) (by assumption) ?tq4n0
          case yq4n0 => (intro wz hSw; clear hSw; go_simp; try with_reducible rfl)
          simp only [Act.put, List.setIfInBounds_toArray, List.set_cons_zero, List.set_cons_succ]
          refine wpAnyH_take (i := 1) (oi := { dst := some 54, op := Op.move (Operand.tmp 53), type := 4, pos := "law.go:185", after := #[{ on := 0, ground := Ground.data }], guard := none }) (v := ?vq4n1) rfl (by kernel_rfl) (by kernel_rfl) (by kernel_rfl) (fun _ _ _ h => h) (Or.inl ⟨by rfl, ?yq4n1⟩) (by assumption) ?tq4n1
          case yq4n1 => (intro wz hSw; clear hSw; go_simp; try with_reducible rfl)
          simp only [Act.put, List.setIfInBounds_toArray, List.set_cons_zero, List.set_cons_succ]
          refine wpAnyH_take (i := 2) (oi := { dst := some 55, op := Op.load 23 (Operand.tmp 4), type := 23, pos := "law.go:185", after := #[{ on := 1, ground := Ground.guard }], guard := some (1, true) }) (v := factV G) rfl (by kernel_rfl) (by kernel_rfl) (by kernel_rfl) (fun _ _ _ h => h) (Or.inl ⟨by rfl, fun wz hSw => sem_load_fact _ rfl (W.heap.size) rfl G (hSw.1)⟩) (by assumption) ?tq4n2
          simp only [Act.put, List.setIfInBounds_toArray, List.set_cons_zero, List.set_cons_succ]
          refine wpAnyH_ready (rs := [3]) (by kernel_rfl) (by simp) ?_
          refine AllReadyH.cons (o := { dst := some 56, op := Op.call { callee := Callee.value (Operand.func 16), args := #[Operand.tmp 55], argTypes := #[23] }, type := 4, pos := "law.go:185", after := #[{ on := 2, ground := Ground.data }, { on := 1, ground := Ground.chain }, { on := 1, ground := Ground.guard }], guard := some (1, true) }) rfl (fun K hK => ?_) AllReadyH.nil
          have HH := Lib.hid hHeld
          go_simp
          refine (HVf.out _ (HTW.out.below HH.out.2.2)).mono ?_; rintro e wz ⟨rfl, gz⟩
          have hz : wz.heap[W.heap.size]? = some (factObj G) ∧ wz.heap[bg]? = some (factObj J) ∧ Below W.heap.size W wz := ⟨box_below HH.out.1 gz, box_below HH.out.2.1 gz, below_step HH.out.2.2 gz⟩
          clear gz HH
          refine hK.out _ _ (hz) (fun hHeld' => ?_)
          clear hK K hHeld
          have hHeld := hHeld'; clear hHeld'
          try simp only [Act.put, List.setIfInBounds_toArray, List.set_cons_zero, List.set_cons_succ]
          refine wpAnyH_take (i := 4) (oi := { dst := some 57, op := Op.unOp UnOp.not 4 (Operand.tmp 56), type := 4, pos := "law.go:185", after := #[{ on := 3, ground := Ground.data }, { on := 1, ground := Ground.guard }], guard := some (1, true) }) (v := ?vq4n4) rfl (by kernel_rfl) (by kernel_rfl) (by kernel_rfl) (fun _ _ _ h => h) (Or.inl ⟨by rfl, ?yq4n4⟩) (by assumption) ?tq4n4
          case yq4n4 => (intro wz hSw; clear hSw; go_simp; try with_reducible rfl)
          simp only [Act.put, List.setIfInBounds_toArray, List.set_cons_zero, List.set_cons_succ]
          refine wpAnyH_take (i := 5) (oi := { dst := some 58, op := Op.move (Operand.tmp 57), type := 4, pos := "law.go:185", after := #[{ on := 4, ground := Ground.data }, { on := 3, ground := Ground.chain }, { on := 1, ground := Ground.guard }], guard := some (1, true) }) (v := ?vq4n5) rfl (by kernel_rfl) (by kernel_rfl) (by kernel_rfl) (fun _ _ _ h => h) (Or.inl ⟨by rfl, ?yq4n5⟩) (by assumption) ?tq4n5
          case yq4n5 => (intro wz hSw; clear hSw; go_simp; try with_reducible rfl)
          simp only [Act.put, List.setIfInBounds_toArray, List.set_cons_zero, List.set_cons_succ]
          refine wpAnyH_take (i := 6) (oi := { dst := some 59, op := Op.load 23 (Operand.tmp 10), type := 23, pos := "law.go:185", after := #[{ on := 5, ground := Ground.guard }], guard := some (5, false) }) (v := factV J) rfl (by kernel_rfl) (by kernel_rfl) (by kernel_rfl) (fun _ _ _ h => h) (Or.inl ⟨by rfl, fun wz hSw => sem_load_fact _ rfl (bg) rfl J (hSw.2.1)⟩) (by assumption) ?tq4n6
          simp only [Act.put, List.setIfInBounds_toArray, List.set_cons_zero, List.set_cons_succ]
          refine wpAnyH_ready (rs := [7]) (by kernel_rfl) (by simp) ?_
          refine AllReadyH.cons (o := { dst := some 60, op := Op.call { callee := Callee.value (Operand.func 16), args := #[Operand.tmp 59], argTypes := #[23] }, type := 4, pos := "law.go:185", after := #[{ on := 6, ground := Ground.data }, { on := 5, ground := Ground.chain }, { on := 5, ground := Ground.guard }], guard := some (5, false) }) rfl (fun K hK => ?_) AllReadyH.nil
          have HH := Lib.hid hHeld
          go_simp
          refine (HVg.out _ (HTW.out.below HH.out.2.2)).mono ?_; rintro e wz ⟨rfl, gz⟩
          have hz : wz.heap[W.heap.size]? = some (factObj G) ∧ wz.heap[bg]? = some (factObj J) ∧ Below W.heap.size W wz := ⟨box_below HH.out.1 gz, box_below HH.out.2.1 gz, below_step HH.out.2.2 gz⟩
          clear gz HH
          refine hK.out _ _ (hz) (fun hHeld' => ?_)
          clear hK K hHeld
          have hHeld := hHeld'; clear hHeld'
          try simp only [Act.put, List.setIfInBounds_toArray, List.set_cons_zero, List.set_cons_succ]
          refine wpAnyH_take (i := 8) (oi := { dst := some 61, op := Op.unOp UnOp.not 4 (Operand.tmp 60), type := 4, pos := "law.go:185", after := #[{ on := 7, ground := Ground.data }, { on := 5, ground := Ground.guard }], guard := some (5, false) }) (v := ?vq4n8) rfl (by kernel_rfl) (by kernel_rfl) (by kernel_rfl) (fun _ _ _ h => h) (Or.inl ⟨by rfl, ?yq4n8⟩) (by assumption) ?tq4n8
          case yq4n8 => (intro wz hSw; clear hSw; go_simp; try with_reducible rfl)
          simp only [Act.put, List.setIfInBounds_toArray, List.set_cons_zero, List.set_cons_succ]
          refine wpAnyH_take (i := 9) (oi := { dst := some 62, op := Op.pick (Operand.tmp 58) (Operand.const (Value.bool true)) (Operand.tmp 61), type := 4, pos := "law.go:185", after := #[{ on := 5, ground := Ground.data }, { on := 8, ground := Ground.data }, { on := 1, ground := Ground.guard }], guard := some (1, true) }) (v := ?vq4n9) rfl (by kernel_rfl) (by kernel_rfl) (by kernel_rfl) (fun _ _ _ h => h) (Or.inl ⟨by rfl, ?yq4n9⟩) (by assumption) ?tq4n9
          case yq4n9 => (intro wz hSw; clear hSw; go_simp; try with_reducible rfl)
          simp only [Act.put, List.setIfInBounds_toArray, List.set_cons_zero, List.set_cons_succ]
          refine wpAnyH_take (i := 10) (oi := { dst := some 63, op := Op.move (Operand.tmp 62), type := 4, pos := "law.go:185", after := #[{ on := 9, ground := Ground.data }, { on := 7, ground := Ground.chain }, { on := 1, ground := Ground.guard }], guard := some (1, true) }) (v := ?vq4n10) rfl (by kernel_rfl) (by kernel_rfl) (by kernel_rfl) (fun _ _ _ h => h) (Or.inl ⟨by rfl, ?yq4n10⟩) (by assumption) ?tq4n10
          case yq4n10 => (intro wz hSw; clear hSw; go_simp; try with_reducible rfl)
          simp only [Act.put, List.setIfInBounds_toArray, List.set_cons_zero, List.set_cons_succ]
          refine wpAnyH_take (i := 11) (oi := { dst := some 64, op := Op.load 23 (Operand.tmp 4), type := 23, pos := "law.go:185", after := #[{ on := 10, ground := Ground.guard }], guard := some (10, false) }) (v := undef) rfl (by kernel_rfl) (by kernel_rfl) (by kernel_rfl) (fun _ _ _ h => h) (Or.inr ⟨by rfl, rfl⟩) (by assumption) ?_
          simp only [Act.put, List.setIfInBounds_toArray, List.set_cons_zero, List.set_cons_succ]
          refine wpAnyH_take (i := 12) (oi := { dst := some 65, op := Op.call { callee := Callee.value (Operand.func 18), args := #[Operand.tmp 64], argTypes := #[23] }, type := 9, pos := "law.go:185", after := #[{ on := 11, ground := Ground.data }, { on := 10, ground := Ground.chain }, { on := 10, ground := Ground.guard }], guard := some (10, false) }) (v := undef) rfl (by kernel_rfl) (by kernel_rfl) (by kernel_rfl) (fun _ _ _ h => h) (Or.inr ⟨by rfl, rfl⟩) (by assumption) ?_
          simp only [Act.put, List.setIfInBounds_toArray, List.set_cons_zero, List.set_cons_succ]
          refine wpAnyH_take (i := 13) (oi := { dst := some 66, op := Op.load 23 (Operand.tmp 10), type := 23, pos := "law.go:185", after := #[{ on := 10, ground := Ground.guard }], guard := some (10, false) }) (v := undef) rfl (by kernel_rfl) (by kernel_rfl) (by kernel_rfl) (fun _ _ _ h => h) (Or.inr ⟨by rfl, rfl⟩) (by assumption) ?_
          simp only [Act.put, List.setIfInBounds_toArray, List.set_cons_zero, List.set_cons_succ]
          refine wpAnyH_take (i := 14) (oi := { dst := some 67, op := Op.call { callee := Callee.value (Operand.func 18), args := #[Operand.tmp 66], argTypes := #[23] }, type := 9, pos := "law.go:185", after := #[{ on := 13, ground := Ground.data }, { on := 12, ground := Ground.chain }, { on := 10, ground := Ground.guard }], guard := some (10, false) }) (v := undef) rfl (by kernel_rfl) (by kernel_rfl) (by kernel_rfl) (fun _ _ _ h => h) (Or.inr ⟨by rfl, rfl⟩) (by assumption) ?_
          simp only [Act.put, List.setIfInBounds_toArray, List.set_cons_zero, List.set_cons_succ]
          refine wpAnyH_take (i := 15) (oi := { dst := some 68, op := Op.binOp BinOp.eql 9 (Operand.tmp 65) (Operand.tmp 67) 9, type := 4, pos := "law.go:185", after := #[{ on := 12, ground := Ground.data }, { on := 14, ground := Ground.data }, { on := 10, ground := Ground.guard }], guard := some (10, false) }) (v := undef) rfl (by kernel_rfl) (by kernel_rfl) (by kernel_rfl) (fun _ _ _ h => h) (Or.inr ⟨by rfl, rfl⟩) (by assumption) ?_
          simp only [Act.put, List.setIfInBounds_toArray, List.set_cons_zero, List.set_cons_succ]
          refine wpAnyH_take (i := 16) (oi := { dst := some 69, op := Op.pick (Operand.tmp 63) (Operand.const (Value.bool true)) (Operand.tmp 68), type := 4, pos := "law.go:185", after := #[{ on := 10, ground := Ground.data }, { on := 15, ground := Ground.data }, { on := 1, ground := Ground.guard }], guard := some (1, true) }) (v := ?vq4n16) rfl (by kernel_rfl) (by kernel_rfl) (by kernel_rfl) (fun _ _ _ h => h) (Or.inl ⟨by rfl, ?yq4n16⟩) (by assumption) ?tq4n16
          case yq4n16 => (intro wz hSw; clear hSw; go_simp; try with_reducible rfl)
          simp only [Act.put, List.setIfInBounds_toArray, List.set_cons_zero, List.set_cons_succ]
          refine wpAnyH_take (i := 17) (oi := { dst := some 70, op := Op.pick (Operand.tmp 54) (Operand.tmp 69) (Operand.const (Value.bool false)), type := 4, pos := "law.go:185", after := #[{ on := 1, ground := Ground.data }, { on := 16, ground := Ground.data }], guard := none }) (v := ?vq4n17) rfl (by kernel_rfl) (by kernel_rfl) (by kernel_rfl) (fun _ _ _ h => h) (Or.inl ⟨by rfl, ?yq4n17⟩) (by assumption) ?tq4n17
          case yq4n17 => (intro wz hSw; clear hSw; go_simp; try with_reducible rfl)
          simp only [Act.put, List.setIfInBounds_toArray, List.set_cons_zero, List.set_cons_succ]
          refine wpAnyH_take (i := 18) (oi := { dst := some 8, op := Op.assign (Operand.tmp 70), type := 4, pos := "law.go:185", after := #[{ on := 17, ground := Ground.data }, { on := 14, ground := Ground.chain }, { on := 0, ground := Ground.phase }, { on := 1, ground := Ground.phase }, { on := 2, ground := Ground.phase }, { on := 3, ground := Ground.phase }, { on := 4, ground := Ground.phase }, { on := 5, ground := Ground.phase }, { on := 6, ground := Ground.phase }, { on := 7, ground := Ground.phase }, { on := 8, ground := Ground.phase }, { on := 9, ground := Ground.phase }, { on := 10, ground := Ground.phase }, { on := 11, ground := Ground.phase }, { on := 12, ground := Ground.phase }, { on := 13, ground := Ground.phase }, { on := 14, ground := Ground.phase }, { on := 15, ground := Ground.phase }, { on := 16, ground := Ground.phase }, { on := 17, ground := Ground.phase }], guard := none }) (v := ?vq4n18) rfl (by kernel_rfl) (by kernel_rfl) (by kernel_rfl) (fun _ _ _ h => h) (Or.inl ⟨by rfl, ?yq4n18⟩) (by assumption) ?tq4n18
          case yq4n18 => (intro wz hSw; clear hSw; go_simp; try with_reducible rfl)
          simp only [Act.put, List.setIfInBounds_toArray, List.set_cons_zero, List.set_cons_succ]
          refine wpAnyH_done (by kernel_rfl) ?_ _
          have HFin := Lib.hid hHeld
          go_wp2_with fail
          go_ret
          exact ⟨rfl, HFin.out.2.2⟩
        | true =>
          rw [hk] at HVg
          rw [HK2.out HvF.out hk] at HKg
          clear hk HK2
          generalize bs (keyB G) = KK at *
          refine wp_region_held_drew (S := (fun v => v.heap[W.heap.size]? = some (factObj G) ∧ v.heap[bg]? = some (factObj J) ∧ Below W.heap.size W v)) (by kernel_rfl) (⟨HF8.out, HG8.out, HB8.out.drew⟩) (fun hHeld => ?_)
          generalize w8.drew = wd at *
          refine wpAnyH_take (i := 0) (oi := { dst := some 53, op := Op.move (Operand.tmp 9), type := 4, pos := "law.go:185", after := #[], guard := none }) (v := ?vq4y0) rfl (by kernel_rfl) (by kernel_rfl) (by kernel_rfl) (fun _ _ _ h => h) (Or.inl ⟨by rfl, ?yq4y0⟩) (by assumption) ?tq4y0
          case yq4y0 => (intro wz hSw; clear hSw; go_simp; try with_reducible rfl)
          simp only [Act.put, List.setIfInBounds_toArray, List.set_cons_zero, List.set_cons_succ]
          refine wpAnyH_take (i := 1) (oi := { dst := some 54, op := Op.move (Operand.tmp 53), type := 4, pos := "law.go:185", after := #[{ on := 0, ground := Ground.data }], guard := none }) (v := ?vq4y1) rfl (by kernel_rfl) (by kernel_rfl) (by kernel_rfl) (fun _ _ _ h => h) (Or.inl ⟨by rfl, ?yq4y1⟩) (by assumption) ?tq4y1
          case yq4y1 => (intro wz hSw; clear hSw; go_simp; try with_reducible rfl)
          simp only [Act.put, List.setIfInBounds_toArray, List.set_cons_zero, List.set_cons_succ]
          refine wpAnyH_take (i := 2) (oi := { dst := some 55, op := Op.load 23 (Operand.tmp 4), type := 23, pos := "law.go:185", after := #[{ on := 1, ground := Ground.guard }], guard := some (1, true) }) (v := factV G) rfl (by kernel_rfl) (by kernel_rfl) (by kernel_rfl) (fun _ _ _ h => h) (Or.inl ⟨by rfl, fun wz hSw => sem_load_fact _ rfl (W.heap.size) rfl G (hSw.1)⟩) (by assumption) ?tq4y2
          simp only [Act.put, List.setIfInBounds_toArray, List.set_cons_zero, List.set_cons_succ]
          refine wpAnyH_ready (rs := [3]) (by kernel_rfl) (by simp) ?_
          refine AllReadyH.cons (o := { dst := some 56, op := Op.call { callee := Callee.value (Operand.func 16), args := #[Operand.tmp 55], argTypes := #[23] }, type := 4, pos := "law.go:185", after := #[{ on := 2, ground := Ground.data }, { on := 1, ground := Ground.chain }, { on := 1, ground := Ground.guard }], guard := some (1, true) }) rfl (fun K hK => ?_) AllReadyH.nil
          have HH := Lib.hid hHeld
          go_simp
          refine (HVf.out _ (HTW.out.below HH.out.2.2)).mono ?_; rintro e wz ⟨rfl, gz⟩
          have hz : wz.heap[W.heap.size]? = some (factObj G) ∧ wz.heap[bg]? = some (factObj J) ∧ Below W.heap.size W wz := ⟨box_below HH.out.1 gz, box_below HH.out.2.1 gz, below_step HH.out.2.2 gz⟩
          clear gz HH
          refine hK.out _ _ (hz) (fun hHeld' => ?_)
          clear hK K hHeld
          have hHeld := hHeld'; clear hHeld'
          try simp only [Act.put, List.setIfInBounds_toArray, List.set_cons_zero, List.set_cons_succ]
          refine wpAnyH_take (i := 4) (oi := { dst := some 57, op := Op.unOp UnOp.not 4 (Operand.tmp 56), type := 4, pos := "law.go:185", after := #[{ on := 3, ground := Ground.data }, { on := 1, ground := Ground.guard }], guard := some (1, true) }) (v := ?vq4y4) rfl (by kernel_rfl) (by kernel_rfl) (by kernel_rfl) (fun _ _ _ h => h) (Or.inl ⟨by rfl, ?yq4y4⟩) (by assumption) ?tq4y4
          case yq4y4 => (intro wz hSw; clear hSw; go_simp; try with_reducible rfl)
          simp only [Act.put, List.setIfInBounds_toArray, List.set_cons_zero, List.set_cons_succ]
          refine wpAnyH_take (i := 5) (oi := { dst := some 58, op := Op.move (Operand.tmp 57), type := 4, pos := "law.go:185", after := #[{ on := 4, ground := Ground.data }, { on := 3, ground := Ground.chain }, { on := 1, ground := Ground.guard }], guard := some (1, true) }) (v := ?vq4y5) rfl (by kernel_rfl) (by kernel_rfl) (by kernel_rfl) (fun _ _ _ h => h) (Or.inl ⟨by rfl, ?yq4y5⟩) (by assumption) ?tq4y5
          case yq4y5 => (intro wz hSw; clear hSw; go_simp; try with_reducible rfl)
          simp only [Act.put, List.setIfInBounds_toArray, List.set_cons_zero, List.set_cons_succ]
          refine wpAnyH_take (i := 6) (oi := { dst := some 59, op := Op.load 23 (Operand.tmp 10), type := 23, pos := "law.go:185", after := #[{ on := 5, ground := Ground.guard }], guard := some (5, false) }) (v := factV J) rfl (by kernel_rfl) (by kernel_rfl) (by kernel_rfl) (fun _ _ _ h => h) (Or.inl ⟨by rfl, fun wz hSw => sem_load_fact _ rfl (bg) rfl J (hSw.2.1)⟩) (by assumption) ?tq4y6
          simp only [Act.put, List.setIfInBounds_toArray, List.set_cons_zero, List.set_cons_succ]
          refine wpAnyH_ready (rs := [7]) (by kernel_rfl) (by simp) ?_
          refine AllReadyH.cons (o := { dst := some 60, op := Op.call { callee := Callee.value (Operand.func 16), args := #[Operand.tmp 59], argTypes := #[23] }, type := 4, pos := "law.go:185", after := #[{ on := 6, ground := Ground.data }, { on := 5, ground := Ground.chain }, { on := 5, ground := Ground.guard }], guard := some (5, false) }) rfl (fun K hK => ?_) AllReadyH.nil
          have HH := Lib.hid hHeld
          go_simp
          refine (HVg.out _ (HTW.out.below HH.out.2.2)).mono ?_; rintro e wz ⟨rfl, gz⟩
          have hz : wz.heap[W.heap.size]? = some (factObj G) ∧ wz.heap[bg]? = some (factObj J) ∧ Below W.heap.size W wz := ⟨box_below HH.out.1 gz, box_below HH.out.2.1 gz, below_step HH.out.2.2 gz⟩
          clear gz HH
          refine hK.out _ _ (hz) (fun hHeld' => ?_)
          clear hK K hHeld
          have hHeld := hHeld'; clear hHeld'
          try simp only [Act.put, List.setIfInBounds_toArray, List.set_cons_zero, List.set_cons_succ]
          refine wpAnyH_take (i := 8) (oi := { dst := some 61, op := Op.unOp UnOp.not 4 (Operand.tmp 60), type := 4, pos := "law.go:185", after := #[{ on := 7, ground := Ground.data }, { on := 5, ground := Ground.guard }], guard := some (5, false) }) (v := ?vq4y8) rfl (by kernel_rfl) (by kernel_rfl) (by kernel_rfl) (fun _ _ _ h => h) (Or.inl ⟨by rfl, ?yq4y8⟩) (by assumption) ?tq4y8
          case yq4y8 => (intro wz hSw; clear hSw; go_simp; try with_reducible rfl)
          simp only [Act.put, List.setIfInBounds_toArray, List.set_cons_zero, List.set_cons_succ]
          refine wpAnyH_take (i := 9) (oi := { dst := some 62, op := Op.pick (Operand.tmp 58) (Operand.const (Value.bool true)) (Operand.tmp 61), type := 4, pos := "law.go:185", after := #[{ on := 5, ground := Ground.data }, { on := 8, ground := Ground.data }, { on := 1, ground := Ground.guard }], guard := some (1, true) }) (v := ?vq4y9) rfl (by kernel_rfl) (by kernel_rfl) (by kernel_rfl) (fun _ _ _ h => h) (Or.inl ⟨by rfl, ?yq4y9⟩) (by assumption) ?tq4y9
          case yq4y9 => (intro wz hSw; clear hSw; go_simp; try with_reducible rfl)
          simp only [Act.put, List.setIfInBounds_toArray, List.set_cons_zero, List.set_cons_succ]
          refine wpAnyH_take (i := 10) (oi := { dst := some 63, op := Op.move (Operand.tmp 62), type := 4, pos := "law.go:185", after := #[{ on := 9, ground := Ground.data }, { on := 7, ground := Ground.chain }, { on := 1, ground := Ground.guard }], guard := some (1, true) }) (v := ?vq4y10) rfl (by kernel_rfl) (by kernel_rfl) (by kernel_rfl) (fun _ _ _ h => h) (Or.inl ⟨by rfl, ?yq4y10⟩) (by assumption) ?tq4y10
          case yq4y10 => (intro wz hSw; clear hSw; go_simp; try with_reducible rfl)
          simp only [Act.put, List.setIfInBounds_toArray, List.set_cons_zero, List.set_cons_succ]
          refine wpAnyH_take (i := 11) (oi := { dst := some 64, op := Op.load 23 (Operand.tmp 4), type := 23, pos := "law.go:185", after := #[{ on := 10, ground := Ground.guard }], guard := some (10, false) }) (v := factV G) rfl (by kernel_rfl) (by kernel_rfl) (by kernel_rfl) (fun _ _ _ h => h) (Or.inl ⟨by rfl, fun wz hSw => sem_load_fact _ rfl (W.heap.size) rfl G (hSw.1)⟩) (by assumption) ?tq4y11
          simp only [Act.put, List.setIfInBounds_toArray, List.set_cons_zero, List.set_cons_succ]
          refine wpAnyH_take (i := 13) (oi := { dst := some 66, op := Op.load 23 (Operand.tmp 10), type := 23, pos := "law.go:185", after := #[{ on := 10, ground := Ground.guard }], guard := some (10, false) }) (v := factV J) rfl (by kernel_rfl) (by kernel_rfl) (by kernel_rfl) (fun _ _ _ h => h) (Or.inl ⟨by rfl, fun wz hSw => sem_load_fact _ rfl (bg) rfl J (hSw.2.1)⟩) (by assumption) ?tq4y13
          simp only [Act.put, List.setIfInBounds_toArray, List.set_cons_zero, List.set_cons_succ]
          refine wpAnyH_ready (rs := [12]) (by kernel_rfl) (by simp) ?_
          refine AllReadyH.cons (o := { dst := some 65, op := Op.call { callee := Callee.value (Operand.func 18), args := #[Operand.tmp 64], argTypes := #[23] }, type := 9, pos := "law.go:185", after := #[{ on := 11, ground := Ground.data }, { on := 10, ground := Ground.chain }, { on := 10, ground := Ground.guard }], guard := some (10, false) }) rfl (fun K hK => ?_) AllReadyH.nil
          have HH := Lib.hid hHeld
          go_simp
          refine (HKf.out _ (HTW.out.below HH.out.2.2)).mono ?_; rintro e wz ⟨rfl, gz⟩
          have hz : wz.heap[W.heap.size]? = some (factObj G) ∧ wz.heap[bg]? = some (factObj J) ∧ Below W.heap.size W wz := ⟨box_below HH.out.1 gz, box_below HH.out.2.1 gz, below_step HH.out.2.2 gz⟩
          clear gz HH
          refine hK.out _ _ (hz) (fun hHeld' => ?_)
          clear hK K hHeld
          have hHeld := hHeld'; clear hHeld'
          try simp only [Act.put, List.setIfInBounds_toArray, List.set_cons_zero, List.set_cons_succ]
          refine wpAnyH_ready (rs := [14]) (by kernel_rfl) (by simp) ?_
          refine AllReadyH.cons (o := { dst := some 67, op := Op.call { callee := Callee.value (Operand.func 18), args := #[Operand.tmp 66], argTypes := #[23] }, type := 9, pos := "law.go:185", after := #[{ on := 13, ground := Ground.data }, { on := 12, ground := Ground.chain }, { on := 10, ground := Ground.guard }], guard := some (10, false) }) rfl (fun K hK => ?_) AllReadyH.nil
          have HH := Lib.hid hHeld
          go_simp
          refine (HKg.out _ (HTW.out.below HH.out.2.2)).mono ?_; rintro e wz ⟨rfl, gz⟩
          have hz : wz.heap[W.heap.size]? = some (factObj G) ∧ wz.heap[bg]? = some (factObj J) ∧ Below W.heap.size W wz := ⟨box_below HH.out.1 gz, box_below HH.out.2.1 gz, below_step HH.out.2.2 gz⟩
          clear gz HH
          refine hK.out _ _ (hz) (fun hHeld' => ?_)
          clear hK K hHeld
          have hHeld := hHeld'; clear hHeld'
          try simp only [Act.put, List.setIfInBounds_toArray, List.set_cons_zero, List.set_cons_succ]
          refine wpAnyH_take (i := 15) (oi := { dst := some 68, op := Op.binOp BinOp.eql 9 (Operand.tmp 65) (Operand.tmp 67) 9, type := 4, pos := "law.go:185", after := #[{ on := 12, ground := Ground.data }, { on := 14, ground := Ground.data }, { on := 10, ground := Ground.guard }], guard := some (10, false) }) (v := ?vq4y15) rfl (by kernel_rfl) (by kernel_rfl) (by kernel_rfl) (fun _ _ _ h => h) (Or.inl ⟨by rfl, ?yq4y15⟩) (by assumption) ?tq4y15
          case yq4y15 => (intro wz hSw; clear hSw; go_simp; try with_reducible rfl)
          simp only [Act.put, List.setIfInBounds_toArray, List.set_cons_zero, List.set_cons_succ]
          refine wpAnyH_take (i := 16) (oi := { dst := some 69, op := Op.pick (Operand.tmp 63) (Operand.const (Value.bool true)) (Operand.tmp 68), type := 4, pos := "law.go:185", after := #[{ on := 10, ground := Ground.data }, { on := 15, ground := Ground.data }, { on := 1, ground := Ground.guard }], guard := some (1, true) }) (v := ?vq4y16) rfl (by kernel_rfl) (by kernel_rfl) (by kernel_rfl) (fun _ _ _ h => h) (Or.inl ⟨by rfl, ?yq4y16⟩) (by assumption) ?tq4y16
          case yq4y16 => (intro wz hSw; clear hSw; go_simp; try with_reducible rfl)
          simp only [Act.put, List.setIfInBounds_toArray, List.set_cons_zero, List.set_cons_succ]
          refine wpAnyH_take (i := 17) (oi := { dst := some 70, op := Op.pick (Operand.tmp 54) (Operand.tmp 69) (Operand.const (Value.bool false)), type := 4, pos := "law.go:185", after := #[{ on := 1, ground := Ground.data }, { on := 16, ground := Ground.data }], guard := none }) (v := ?vq4y17) rfl (by kernel_rfl) (by kernel_rfl) (by kernel_rfl) (fun _ _ _ h => h) (Or.inl ⟨by rfl, ?yq4y17⟩) (by assumption) ?tq4y17
          case yq4y17 => (intro wz hSw; clear hSw; go_simp; try with_reducible rfl)
          simp only [Act.put, List.setIfInBounds_toArray, List.set_cons_zero, List.set_cons_succ]
          refine wpAnyH_take (i := 18) (oi := { dst := some 8, op := Op.assign (Operand.tmp 70), type := 4, pos := "law.go:185", after := #[{ on := 17, ground := Ground.data }, { on := 14, ground := Ground.chain }, { on := 0, ground := Ground.phase }, { on := 1, ground := Ground.phase }, { on := 2, ground := Ground.phase }, { on := 3, ground := Ground.phase }, { on := 4, ground := Ground.phase }, { on := 5, ground := Ground.phase }, { on := 6, ground := Ground.phase }, { on := 7, ground := Ground.phase }, { on := 8, ground := Ground.phase }, { on := 9, ground := Ground.phase }, { on := 10, ground := Ground.phase }, { on := 11, ground := Ground.phase }, { on := 12, ground := Ground.phase }, { on := 13, ground := Ground.phase }, { on := 14, ground := Ground.phase }, { on := 15, ground := Ground.phase }, { on := 16, ground := Ground.phase }, { on := 17, ground := Ground.phase }], guard := none }) (v := ?vq4y18) rfl (by kernel_rfl) (by kernel_rfl) (by kernel_rfl) (fun _ _ _ h => h) (Or.inl ⟨by rfl, ?yq4y18⟩) (by assumption) ?tq4y18
          case yq4y18 => (intro wz hSw; clear hSw; go_simp; try with_reducible rfl)
          simp only [Act.put, List.setIfInBounds_toArray, List.set_cons_zero, List.set_cons_succ]
          refine wpAnyH_done (by kernel_rfl) ?_ _
          have HFin := Lib.hid hHeld
          go_wp2_with fail
          go_ret
          exact ⟨rfl, HFin.out.2.2⟩
  · have HOut := Lib.hid (show ¬ (0 ≤ H.d ∧ H.d ≤ 100000) from by rw [HIn'.out]; exact fun h => h0 h.1)
    go_upto_region 7 with (fail)
    clear h0
    cases hvf : validB G with
    | false =>
      cases hvg : validB H with
      | false =>
        unfold BoolPost at HVf HVg
        have HvF := Lib.hid hvf
        rw [hvf] at HVf
        rw [hvg] at HVg
        clear hvf hvg
        refine wp_region_held_drew (S := (fun v => v.heap[W.heap.size]? = some (factObj G) ∧ v.heap[bg]? = some (factObj H) ∧ Below W.heap.size W v)) (by kernel_rfl) (⟨HF5.out, HG5.out, HB5.out.drew⟩) (fun hHeld => ?_)
        generalize w5.drew = wd at *
        refine wpAnyH_take (i := 0) (oi := { dst := some 26, op := Op.load 23 (Operand.tmp 4), type := 23, pos := "law.go:181", after := #[], guard := none }) (v := factV G) rfl (by kernel_rfl) (by kernel_rfl) (by kernel_rfl) (fun _ _ _ h => h) (Or.inl ⟨by rfl, fun wz hSw => sem_load_fact _ rfl (W.heap.size) rfl G (hSw.1)⟩) (by assumption) ?tr00
        simp only [Act.put, List.setIfInBounds_toArray, List.set_cons_zero, List.set_cons_succ]
        refine wpAnyH_ready (rs := [1]) (by kernel_rfl) (by simp) ?_
        refine AllReadyH.cons (o := { dst := some 27, op := Op.call { callee := Callee.value (Operand.func 16), args := #[Operand.tmp 26], argTypes := #[23] }, type := 4, pos := "law.go:181", after := #[{ on := 0, ground := Ground.data }], guard := none }) rfl (fun K hK => ?_) AllReadyH.nil
        have HH := Lib.hid hHeld
        go_simp
        refine (HVf.out _ (HTW.out.below HH.out.2.2)).mono ?_; rintro e wz ⟨rfl, gz⟩
        have hz : wz.heap[W.heap.size]? = some (factObj G) ∧ wz.heap[bg]? = some (factObj H) ∧ Below W.heap.size W wz := ⟨box_below HH.out.1 gz, box_below HH.out.2.1 gz, below_step HH.out.2.2 gz⟩
        clear gz HH
        refine hK.out _ _ (hz) (fun hHeld' => ?_)
        clear hK K hHeld
        have hHeld := hHeld'; clear hHeld'
        try simp only [Act.put, List.setIfInBounds_toArray, List.set_cons_zero, List.set_cons_succ]
        refine wpAnyH_take (i := 2) (oi := { dst := some 28, op := Op.move (Operand.tmp 27), type := 4, pos := "law.go:181", after := #[{ on := 1, ground := Ground.data }, { on := 1, ground := Ground.chain }], guard := none }) (v := ?vr02) rfl (by kernel_rfl) (by kernel_rfl) (by kernel_rfl) (fun _ _ _ h => h) (Or.inl ⟨by rfl, ?yr02⟩) (by assumption) ?tr02
        case yr02 => (intro wz hSw; clear hSw; go_simp; try with_reducible rfl)
        simp only [Act.put, List.setIfInBounds_toArray, List.set_cons_zero, List.set_cons_succ]
        refine wpAnyH_take (i := 3) (oi := { dst := some 29, op := Op.load 23 (Operand.tmp 10), type := 23, pos := "law.go:181", after := #[{ on := 2, ground := Ground.guard }], guard := some (2, true) }) (v := undef) rfl (by kernel_rfl) (by kernel_rfl) (by kernel_rfl) (fun _ _ _ h => h) (Or.inr ⟨by rfl, rfl⟩) (by assumption) ?_
        simp only [Act.put, List.setIfInBounds_toArray, List.set_cons_zero, List.set_cons_succ]
        refine wpAnyH_take (i := 4) (oi := { dst := some 30, op := Op.call { callee := Callee.value (Operand.func 16), args := #[Operand.tmp 29], argTypes := #[23] }, type := 4, pos := "law.go:181", after := #[{ on := 3, ground := Ground.data }, { on := 2, ground := Ground.chain }, { on := 2, ground := Ground.guard }], guard := some (2, true) }) (v := undef) rfl (by kernel_rfl) (by kernel_rfl) (by kernel_rfl) (fun _ _ _ h => h) (Or.inr ⟨by rfl, rfl⟩) (by assumption) ?_
        simp only [Act.put, List.setIfInBounds_toArray, List.set_cons_zero, List.set_cons_succ]
        refine wpAnyH_take (i := 5) (oi := { dst := some 31, op := Op.move (Operand.tmp 11), type := 4, pos := "law.go:181", after := #[{ on := 2, ground := Ground.guard }], guard := some (2, true) }) (v := undef) rfl (by kernel_rfl) (by kernel_rfl) (by kernel_rfl) (fun _ _ _ h => h) (Or.inr ⟨by rfl, rfl⟩) (by assumption) ?_
        simp only [Act.put, List.setIfInBounds_toArray, List.set_cons_zero, List.set_cons_succ]
        refine wpAnyH_take (i := 6) (oi := { dst := some 32, op := Op.binOp BinOp.neq 4 (Operand.tmp 30) (Operand.tmp 31) 4, type := 4, pos := "law.go:181", after := #[{ on := 4, ground := Ground.data }, { on := 5, ground := Ground.data }, { on := 2, ground := Ground.guard }], guard := some (2, true) }) (v := undef) rfl (by kernel_rfl) (by kernel_rfl) (by kernel_rfl) (fun _ _ _ h => h) (Or.inr ⟨by rfl, rfl⟩) (by assumption) ?_
        simp only [Act.put, List.setIfInBounds_toArray, List.set_cons_zero, List.set_cons_succ]
        refine wpAnyH_take (i := 7) (oi := { dst := some 33, op := Op.pick (Operand.tmp 28) (Operand.tmp 32) (Operand.const (Value.bool false)), type := 4, pos := "law.go:181", after := #[{ on := 2, ground := Ground.data }, { on := 6, ground := Ground.data }], guard := none }) (v := ?vr07) rfl (by kernel_rfl) (by kernel_rfl) (by kernel_rfl) (fun _ _ _ h => h) (Or.inl ⟨by rfl, ?yr07⟩) (by assumption) ?tr07
        case yr07 => (intro wz hSw; clear hSw; go_simp; try with_reducible rfl)
        simp only [Act.put, List.setIfInBounds_toArray, List.set_cons_zero, List.set_cons_succ]
        refine wpAnyH_take (i := 8) (oi := { dst := some 34, op := Op.move (Operand.tmp 33), type := 4, pos := "law.go:181", after := #[{ on := 7, ground := Ground.data }, { on := 4, ground := Ground.chain }], guard := none }) (v := ?vr08) rfl (by kernel_rfl) (by kernel_rfl) (by kernel_rfl) (fun _ _ _ h => h) (Or.inl ⟨by rfl, ?yr08⟩) (by assumption) ?tr08
        case yr08 => (intro wz hSw; clear hSw; go_simp; try with_reducible rfl)
        simp only [Act.put, List.setIfInBounds_toArray, List.set_cons_zero, List.set_cons_succ]
        refine wpAnyH_take (i := 9) (oi := { dst := some 35, op := Op.load 23 (Operand.tmp 10), type := 23, pos := "law.go:181", after := #[{ on := 8, ground := Ground.guard }], guard := some (8, false) }) (v := factV H) rfl (by kernel_rfl) (by kernel_rfl) (by kernel_rfl) (fun _ _ _ h => h) (Or.inl ⟨by rfl, fun wz hSw => sem_load_fact _ rfl (bg) rfl H (hSw.2.1)⟩) (by assumption) ?tr09
        simp only [Act.put, List.setIfInBounds_toArray, List.set_cons_zero, List.set_cons_succ]
        refine wpAnyH_ready (rs := [10]) (by kernel_rfl) (by simp) ?_
        refine AllReadyH.cons (o := { dst := some 36, op := Op.call { callee := Callee.value (Operand.func 16), args := #[Operand.tmp 35], argTypes := #[23] }, type := 4, pos := "law.go:181", after := #[{ on := 9, ground := Ground.data }, { on := 8, ground := Ground.chain }, { on := 8, ground := Ground.guard }], guard := some (8, false) }) rfl (fun K hK => ?_) AllReadyH.nil
        have HH := Lib.hid hHeld
        go_simp
        refine (HVg.out _ (HTW.out.below HH.out.2.2)).mono ?_; rintro e wz ⟨rfl, gz⟩
        have hz : wz.heap[W.heap.size]? = some (factObj G) ∧ wz.heap[bg]? = some (factObj H) ∧ Below W.heap.size W wz := ⟨box_below HH.out.1 gz, box_below HH.out.2.1 gz, below_step HH.out.2.2 gz⟩
        clear gz HH
        refine hK.out _ _ (hz) (fun hHeld' => ?_)
        clear hK K hHeld
        have hHeld := hHeld'; clear hHeld'
        try simp only [Act.put, List.setIfInBounds_toArray, List.set_cons_zero, List.set_cons_succ]
        refine wpAnyH_take (i := 11) (oi := { dst := some 37, op := Op.move (Operand.tmp 36), type := 4, pos := "law.go:181", after := #[{ on := 10, ground := Ground.data }, { on := 10, ground := Ground.chain }, { on := 8, ground := Ground.guard }], guard := some (8, false) }) (v := ?vr011) rfl (by kernel_rfl) (by kernel_rfl) (by kernel_rfl) (fun _ _ _ h => h) (Or.inl ⟨by rfl, ?yr011⟩) (by assumption) ?tr011
        case yr011 => (intro wz hSw; clear hSw; go_simp; try with_reducible rfl)
        simp only [Act.put, List.setIfInBounds_toArray, List.set_cons_zero, List.set_cons_succ]
        refine wpAnyH_take (i := 12) (oi := { dst := some 38, op := Op.load 23 (Operand.tmp 4), type := 23, pos := "law.go:181", after := #[{ on := 11, ground := Ground.guard }], guard := some (11, true) }) (v := undef) rfl (by kernel_rfl) (by kernel_rfl) (by kernel_rfl) (fun _ _ _ h => h) (Or.inr ⟨by rfl, rfl⟩) (by assumption) ?_
        simp only [Act.put, List.setIfInBounds_toArray, List.set_cons_zero, List.set_cons_succ]
        refine wpAnyH_take (i := 13) (oi := { dst := some 39, op := Op.call { callee := Callee.value (Operand.func 16), args := #[Operand.tmp 38], argTypes := #[23] }, type := 4, pos := "law.go:181", after := #[{ on := 12, ground := Ground.data }, { on := 11, ground := Ground.chain }, { on := 11, ground := Ground.guard }], guard := some (11, true) }) (v := undef) rfl (by kernel_rfl) (by kernel_rfl) (by kernel_rfl) (fun _ _ _ h => h) (Or.inr ⟨by rfl, rfl⟩) (by assumption) ?_
        simp only [Act.put, List.setIfInBounds_toArray, List.set_cons_zero, List.set_cons_succ]
        refine wpAnyH_take (i := 14) (oi := { dst := some 40, op := Op.fieldAddr 23 (Operand.tmp 4) 3, type := 0, pos := "law.go:181", after := #[{ on := 11, ground := Ground.guard }], guard := some (11, true) }) (v := undef) rfl (by kernel_rfl) (by kernel_rfl) (by kernel_rfl) (fun _ _ _ h => h) (Or.inr ⟨by rfl, rfl⟩) (by assumption) ?_
        simp only [Act.put, List.setIfInBounds_toArray, List.set_cons_zero, List.set_cons_succ]
        refine wpAnyH_take (i := 15) (oi := { dst := some 41, op := Op.load 3 (Operand.tmp 40), type := 3, pos := "law.go:181", after := #[{ on := 14, ground := Ground.data }, { on := 11, ground := Ground.guard }], guard := some (11, true) }) (v := undef) rfl (by kernel_rfl) (by kernel_rfl) (by kernel_rfl) (fun _ _ _ h => h) (Or.inr ⟨by rfl, rfl⟩) (by assumption) ?_
        simp only [Act.put, List.setIfInBounds_toArray, List.set_cons_zero, List.set_cons_succ]
        refine wpAnyH_take (i := 16) (oi := { dst := some 42, op := Op.binOp BinOp.geq 3 (Operand.tmp 41) (Operand.const (Value.int IntKind.i64 0)) 3, type := 4, pos := "law.go:181", after := #[{ on := 15, ground := Ground.data }, { on := 11, ground := Ground.guard }], guard := some (11, true) }) (v := undef) rfl (by kernel_rfl) (by kernel_rfl) (by kernel_rfl) (fun _ _ _ h => h) (Or.inr ⟨by rfl, rfl⟩) (by assumption) ?_
        simp only [Act.put, List.setIfInBounds_toArray, List.set_cons_zero, List.set_cons_succ]
        refine wpAnyH_take (i := 17) (oi := { dst := some 43, op := Op.move (Operand.tmp 42), type := 4, pos := "law.go:181", after := #[{ on := 16, ground := Ground.data }, { on := 13, ground := Ground.chain }, { on := 11, ground := Ground.guard }], guard := some (11, true) }) (v := undef) rfl (by kernel_rfl) (by kernel_rfl) (by kernel_rfl) (fun _ _ _ h => h) (Or.inr ⟨by rfl, rfl⟩) (by assumption) ?_
        simp only [Act.put, List.setIfInBounds_toArray, List.set_cons_zero, List.set_cons_succ]
        refine wpAnyH_take (i := 18) (oi := { dst := some 44, op := Op.fieldAddr 23 (Operand.tmp 4) 3, type := 0, pos := "law.go:181", after := #[{ on := 17, ground := Ground.guard }], guard := some (17, true) }) (v := undef) rfl (by kernel_rfl) (by kernel_rfl) (by kernel_rfl) (fun _ _ _ h => h) (Or.inr ⟨by rfl, rfl⟩) (by assumption) ?_
        simp only [Act.put, List.setIfInBounds_toArray, List.set_cons_zero, List.set_cons_succ]
        refine wpAnyH_take (i := 19) (oi := { dst := some 45, op := Op.load 3 (Operand.tmp 44), type := 3, pos := "law.go:181", after := #[{ on := 18, ground := Ground.data }, { on := 17, ground := Ground.guard }], guard := some (17, true) }) (v := undef) rfl (by kernel_rfl) (by kernel_rfl) (by kernel_rfl) (fun _ _ _ h => h) (Or.inr ⟨by rfl, rfl⟩) (by assumption) ?_
        simp only [Act.put, List.setIfInBounds_toArray, List.set_cons_zero, List.set_cons_succ]
        refine wpAnyH_take (i := 20) (oi := { dst := some 46, op := Op.binOp BinOp.leq 3 (Operand.tmp 45) (Operand.const (Value.int IntKind.i64 100000)) 3, type := 4, pos := "law.go:181", after := #[{ on := 19, ground := Ground.data }, { on := 17, ground := Ground.guard }], guard := some (17, true) }) (v := undef) rfl (by kernel_rfl) (by kernel_rfl) (by kernel_rfl) (fun _ _ _ h => h) (Or.inr ⟨by rfl, rfl⟩) (by assumption) ?_
        simp only [Act.put, List.setIfInBounds_toArray, List.set_cons_zero, List.set_cons_succ]
        refine wpAnyH_take (i := 21) (oi := { dst := some 47, op := Op.pick (Operand.tmp 43) (Operand.tmp 46) (Operand.const (Value.bool false)), type := 4, pos := "law.go:181", after := #[{ on := 17, ground := Ground.data }, { on := 20, ground := Ground.data }, { on := 11, ground := Ground.guard }], guard := some (11, true) }) (v := undef) rfl (by kernel_rfl) (by kernel_rfl) (by kernel_rfl) (fun _ _ _ h => h) (Or.inr ⟨by rfl, rfl⟩) (by assumption) ?_
        simp only [Act.put, List.setIfInBounds_toArray, List.set_cons_zero, List.set_cons_succ]
        refine wpAnyH_take (i := 22) (oi := { dst := some 48, op := Op.binOp BinOp.neq 4 (Operand.tmp 39) (Operand.tmp 47) 4, type := 4, pos := "law.go:181", after := #[{ on := 13, ground := Ground.data }, { on := 21, ground := Ground.data }, { on := 11, ground := Ground.guard }], guard := some (11, true) }) (v := undef) rfl (by kernel_rfl) (by kernel_rfl) (by kernel_rfl) (fun _ _ _ h => h) (Or.inr ⟨by rfl, rfl⟩) (by assumption) ?_
        simp only [Act.put, List.setIfInBounds_toArray, List.set_cons_zero, List.set_cons_succ]
        refine wpAnyH_take (i := 23) (oi := { dst := some 49, op := Op.pick (Operand.tmp 37) (Operand.tmp 48) (Operand.const (Value.bool false)), type := 4, pos := "law.go:181", after := #[{ on := 11, ground := Ground.data }, { on := 22, ground := Ground.data }, { on := 8, ground := Ground.guard }], guard := some (8, false) }) (v := ?vr023) rfl (by kernel_rfl) (by kernel_rfl) (by kernel_rfl) (fun _ _ _ h => h) (Or.inl ⟨by rfl, ?yr023⟩) (by assumption) ?tr023
        case yr023 => (intro wz hSw; clear hSw; go_simp; try with_reducible rfl)
        simp only [Act.put, List.setIfInBounds_toArray, List.set_cons_zero, List.set_cons_succ]
        refine wpAnyH_take (i := 24) (oi := { dst := some 50, op := Op.pick (Operand.tmp 34) (Operand.const (Value.bool true)) (Operand.tmp 49), type := 4, pos := "law.go:181", after := #[{ on := 8, ground := Ground.data }, { on := 23, ground := Ground.data }], guard := none }) (v := ?vr024) rfl (by kernel_rfl) (by kernel_rfl) (by kernel_rfl) (fun _ _ _ h => h) (Or.inl ⟨by rfl, ?yr024⟩) (by assumption) ?tr024
        case yr024 => (intro wz hSw; clear hSw; go_simp; try with_reducible rfl)
        simp only [Act.put, List.setIfInBounds_toArray, List.set_cons_zero, List.set_cons_succ]
        refine wpAnyH_done (by kernel_rfl) ?_ _
        have HF7 := Lib.hid hHeld.1
        have HG7 := Lib.hid hHeld.2.1
        have HB7 := Lib.hid hHeld.2.2
        clear hHeld
        have c2 := box_cell HG7.out 2 (.int .i64 H.v) rfl
        have z2 := box_fz HG7.out 2
        have l2 := lt_of_block HG7.out
        have HC := one_ch wz bg 2 (.int .i64 ver)
        have HF8 := Lib.hid ((HC.block _ (lt_of_block HF7.out) (by have := HNe.out; omega)).trans HF7.out)
        have HG8 := Lib.hid (show (wz.setCell ⟨bg, 2, none⟩ (.int .i64 ver)).heap[bg]? = some (factObj { H with v := ver }) from block_set HG7.out (o := 2) _)
        have HB8 := Lib.hid (HB7.out.trans (HC.below (B := W.heap.size) (Nat.le_of_lt (lt_of_block HF7.out)) (fun k e => by have := HNe.out; omega)))
        clear HC HF7 HB7
        go_upto_region 10 with (fail)
        clear c2 z2 l2 HG7 HVf HVg
        generalize wz.setCell ⟨bg, 2, none⟩ (.int .i64 ver) = w8 at *
        have HS2 := Lib.hid (show ({ H with v := ver } : Fact).tx.size ≤ maxLen from HSH.out)
        have HK2 := Lib.hid (HK.out ver)
        generalize ({ H with v := ver } : Fact) = J at *
        have HVf := Lib.hid (fun V h => valid_any G V h HS.out)
        have HVg := Lib.hid (fun V h => valid_any J V h HS2.out)
        have HKf := Lib.hid (fun V h => key_any G V h HS.out)
        have HKg := Lib.hid (fun V h => key_any J V h HS2.out)
        unfold BoolPost at HVf HVg
        unfold StrPost at HKf HKg
        rw [HvF.out] at HVf
        refine wp_region_held_drew (S := (fun v => v.heap[W.heap.size]? = some (factObj G) ∧ v.heap[bg]? = some (factObj J) ∧ Below W.heap.size W v)) (by kernel_rfl) (⟨HF8.out, HG8.out, HB8.out.drew⟩) (fun hHeld => ?_)
        generalize w8.drew = wd at *
        refine wpAnyH_take (i := 0) (oi := { dst := some 53, op := Op.move (Operand.tmp 9), type := 4, pos := "law.go:185", after := #[], guard := none }) (v := ?vr0n0) rfl (by kernel_rfl) (by kernel_rfl) (by kernel_rfl) (fun _ _ _ h => h) (Or.inl ⟨by rfl, ?yr0n0⟩) (by assumption) ?tr0n0
        case yr0n0 => (intro wz hSw; clear hSw; go_simp; try with_reducible rfl)
        simp only [Act.put, List.setIfInBounds_toArray, List.set_cons_zero, List.set_cons_succ]
        refine wpAnyH_take (i := 1) (oi := { dst := some 54, op := Op.move (Operand.tmp 53), type := 4, pos := "law.go:185", after := #[{ on := 0, ground := Ground.data }], guard := none }) (v := ?vr0n1) rfl (by kernel_rfl) (by kernel_rfl) (by kernel_rfl) (fun _ _ _ h => h) (Or.inl ⟨by rfl, ?yr0n1⟩) (by assumption) ?tr0n1
        case yr0n1 => (intro wz hSw; clear hSw; go_simp; try with_reducible rfl)
        simp only [Act.put, List.setIfInBounds_toArray, List.set_cons_zero, List.set_cons_succ]
        refine wpAnyH_take (i := 2) (oi := { dst := some 55, op := Op.load 23 (Operand.tmp 4), type := 23, pos := "law.go:185", after := #[{ on := 1, ground := Ground.guard }], guard := some (1, true) }) (v := factV G) rfl (by kernel_rfl) (by kernel_rfl) (by kernel_rfl) (fun _ _ _ h => h) (Or.inl ⟨by rfl, fun wz hSw => sem_load_fact _ rfl (W.heap.size) rfl G (hSw.1)⟩) (by assumption) ?tr0n2
        simp only [Act.put, List.setIfInBounds_toArray, List.set_cons_zero, List.set_cons_succ]
        refine wpAnyH_ready (rs := [3]) (by kernel_rfl) (by simp) ?_
        refine AllReadyH.cons (o := { dst := some 56, op := Op.call { callee := Callee.value (Operand.func 16), args := #[Operand.tmp 55], argTypes := #[23] }, type := 4, pos := "law.go:185", after := #[{ on := 2, ground := Ground.data }, { on := 1, ground := Ground.chain }, { on := 1, ground := Ground.guard }], guard := some (1, true) }) rfl (fun K hK => ?_) AllReadyH.nil
        have HH := Lib.hid hHeld
        go_simp
        refine (HVf.out _ (HTW.out.below HH.out.2.2)).mono ?_; rintro e wz ⟨rfl, gz⟩
        have hz : wz.heap[W.heap.size]? = some (factObj G) ∧ wz.heap[bg]? = some (factObj J) ∧ Below W.heap.size W wz := ⟨box_below HH.out.1 gz, box_below HH.out.2.1 gz, below_step HH.out.2.2 gz⟩
        clear gz HH
        refine hK.out _ _ (hz) (fun hHeld' => ?_)
        clear hK K hHeld
        have hHeld := hHeld'; clear hHeld'
        try simp only [Act.put, List.setIfInBounds_toArray, List.set_cons_zero, List.set_cons_succ]
        refine wpAnyH_take (i := 4) (oi := { dst := some 57, op := Op.unOp UnOp.not 4 (Operand.tmp 56), type := 4, pos := "law.go:185", after := #[{ on := 3, ground := Ground.data }, { on := 1, ground := Ground.guard }], guard := some (1, true) }) (v := ?vr0n4) rfl (by kernel_rfl) (by kernel_rfl) (by kernel_rfl) (fun _ _ _ h => h) (Or.inl ⟨by rfl, ?yr0n4⟩) (by assumption) ?tr0n4
        case yr0n4 => (intro wz hSw; clear hSw; go_simp; try with_reducible rfl)
        simp only [Act.put, List.setIfInBounds_toArray, List.set_cons_zero, List.set_cons_succ]
        refine wpAnyH_take (i := 5) (oi := { dst := some 58, op := Op.move (Operand.tmp 57), type := 4, pos := "law.go:185", after := #[{ on := 4, ground := Ground.data }, { on := 3, ground := Ground.chain }, { on := 1, ground := Ground.guard }], guard := some (1, true) }) (v := ?vr0n5) rfl (by kernel_rfl) (by kernel_rfl) (by kernel_rfl) (fun _ _ _ h => h) (Or.inl ⟨by rfl, ?yr0n5⟩) (by assumption) ?tr0n5
        case yr0n5 => (intro wz hSw; clear hSw; go_simp; try with_reducible rfl)
        simp only [Act.put, List.setIfInBounds_toArray, List.set_cons_zero, List.set_cons_succ]
        refine wpAnyH_take (i := 6) (oi := { dst := some 59, op := Op.load 23 (Operand.tmp 10), type := 23, pos := "law.go:185", after := #[{ on := 5, ground := Ground.guard }], guard := some (5, false) }) (v := undef) rfl (by kernel_rfl) (by kernel_rfl) (by kernel_rfl) (fun _ _ _ h => h) (Or.inr ⟨by rfl, rfl⟩) (by assumption) ?_
        simp only [Act.put, List.setIfInBounds_toArray, List.set_cons_zero, List.set_cons_succ]
        refine wpAnyH_take (i := 7) (oi := { dst := some 60, op := Op.call { callee := Callee.value (Operand.func 16), args := #[Operand.tmp 59], argTypes := #[23] }, type := 4, pos := "law.go:185", after := #[{ on := 6, ground := Ground.data }, { on := 5, ground := Ground.chain }, { on := 5, ground := Ground.guard }], guard := some (5, false) }) (v := undef) rfl (by kernel_rfl) (by kernel_rfl) (by kernel_rfl) (fun _ _ _ h => h) (Or.inr ⟨by rfl, rfl⟩) (by assumption) ?_
        simp only [Act.put, List.setIfInBounds_toArray, List.set_cons_zero, List.set_cons_succ]
        refine wpAnyH_take (i := 8) (oi := { dst := some 61, op := Op.unOp UnOp.not 4 (Operand.tmp 60), type := 4, pos := "law.go:185", after := #[{ on := 7, ground := Ground.data }, { on := 5, ground := Ground.guard }], guard := some (5, false) }) (v := undef) rfl (by kernel_rfl) (by kernel_rfl) (by kernel_rfl) (fun _ _ _ h => h) (Or.inr ⟨by rfl, rfl⟩) (by assumption) ?_
        simp only [Act.put, List.setIfInBounds_toArray, List.set_cons_zero, List.set_cons_succ]
        refine wpAnyH_take (i := 9) (oi := { dst := some 62, op := Op.pick (Operand.tmp 58) (Operand.const (Value.bool true)) (Operand.tmp 61), type := 4, pos := "law.go:185", after := #[{ on := 5, ground := Ground.data }, { on := 8, ground := Ground.data }, { on := 1, ground := Ground.guard }], guard := some (1, true) }) (v := ?vr0n9) rfl (by kernel_rfl) (by kernel_rfl) (by kernel_rfl) (fun _ _ _ h => h) (Or.inl ⟨by rfl, ?yr0n9⟩) (by assumption) ?tr0n9
        case yr0n9 => (intro wz hSw; clear hSw; go_simp; try with_reducible rfl)
        simp only [Act.put, List.setIfInBounds_toArray, List.set_cons_zero, List.set_cons_succ]
        refine wpAnyH_take (i := 10) (oi := { dst := some 63, op := Op.move (Operand.tmp 62), type := 4, pos := "law.go:185", after := #[{ on := 9, ground := Ground.data }, { on := 7, ground := Ground.chain }, { on := 1, ground := Ground.guard }], guard := some (1, true) }) (v := ?vr0n10) rfl (by kernel_rfl) (by kernel_rfl) (by kernel_rfl) (fun _ _ _ h => h) (Or.inl ⟨by rfl, ?yr0n10⟩) (by assumption) ?tr0n10
        case yr0n10 => (intro wz hSw; clear hSw; go_simp; try with_reducible rfl)
        simp only [Act.put, List.setIfInBounds_toArray, List.set_cons_zero, List.set_cons_succ]
        refine wpAnyH_take (i := 11) (oi := { dst := some 64, op := Op.load 23 (Operand.tmp 4), type := 23, pos := "law.go:185", after := #[{ on := 10, ground := Ground.guard }], guard := some (10, false) }) (v := undef) rfl (by kernel_rfl) (by kernel_rfl) (by kernel_rfl) (fun _ _ _ h => h) (Or.inr ⟨by rfl, rfl⟩) (by assumption) ?_
        simp only [Act.put, List.setIfInBounds_toArray, List.set_cons_zero, List.set_cons_succ]
        refine wpAnyH_take (i := 12) (oi := { dst := some 65, op := Op.call { callee := Callee.value (Operand.func 18), args := #[Operand.tmp 64], argTypes := #[23] }, type := 9, pos := "law.go:185", after := #[{ on := 11, ground := Ground.data }, { on := 10, ground := Ground.chain }, { on := 10, ground := Ground.guard }], guard := some (10, false) }) (v := undef) rfl (by kernel_rfl) (by kernel_rfl) (by kernel_rfl) (fun _ _ _ h => h) (Or.inr ⟨by rfl, rfl⟩) (by assumption) ?_
        simp only [Act.put, List.setIfInBounds_toArray, List.set_cons_zero, List.set_cons_succ]
        refine wpAnyH_take (i := 13) (oi := { dst := some 66, op := Op.load 23 (Operand.tmp 10), type := 23, pos := "law.go:185", after := #[{ on := 10, ground := Ground.guard }], guard := some (10, false) }) (v := undef) rfl (by kernel_rfl) (by kernel_rfl) (by kernel_rfl) (fun _ _ _ h => h) (Or.inr ⟨by rfl, rfl⟩) (by assumption) ?_
        simp only [Act.put, List.setIfInBounds_toArray, List.set_cons_zero, List.set_cons_succ]
        refine wpAnyH_take (i := 14) (oi := { dst := some 67, op := Op.call { callee := Callee.value (Operand.func 18), args := #[Operand.tmp 66], argTypes := #[23] }, type := 9, pos := "law.go:185", after := #[{ on := 13, ground := Ground.data }, { on := 12, ground := Ground.chain }, { on := 10, ground := Ground.guard }], guard := some (10, false) }) (v := undef) rfl (by kernel_rfl) (by kernel_rfl) (by kernel_rfl) (fun _ _ _ h => h) (Or.inr ⟨by rfl, rfl⟩) (by assumption) ?_
        simp only [Act.put, List.setIfInBounds_toArray, List.set_cons_zero, List.set_cons_succ]
        refine wpAnyH_take (i := 15) (oi := { dst := some 68, op := Op.binOp BinOp.eql 9 (Operand.tmp 65) (Operand.tmp 67) 9, type := 4, pos := "law.go:185", after := #[{ on := 12, ground := Ground.data }, { on := 14, ground := Ground.data }, { on := 10, ground := Ground.guard }], guard := some (10, false) }) (v := undef) rfl (by kernel_rfl) (by kernel_rfl) (by kernel_rfl) (fun _ _ _ h => h) (Or.inr ⟨by rfl, rfl⟩) (by assumption) ?_
        simp only [Act.put, List.setIfInBounds_toArray, List.set_cons_zero, List.set_cons_succ]
        refine wpAnyH_take (i := 16) (oi := { dst := some 69, op := Op.pick (Operand.tmp 63) (Operand.const (Value.bool true)) (Operand.tmp 68), type := 4, pos := "law.go:185", after := #[{ on := 10, ground := Ground.data }, { on := 15, ground := Ground.data }, { on := 1, ground := Ground.guard }], guard := some (1, true) }) (v := ?vr0n16) rfl (by kernel_rfl) (by kernel_rfl) (by kernel_rfl) (fun _ _ _ h => h) (Or.inl ⟨by rfl, ?yr0n16⟩) (by assumption) ?tr0n16
        case yr0n16 => (intro wz hSw; clear hSw; go_simp; try with_reducible rfl)
        simp only [Act.put, List.setIfInBounds_toArray, List.set_cons_zero, List.set_cons_succ]
        refine wpAnyH_take (i := 17) (oi := { dst := some 70, op := Op.pick (Operand.tmp 54) (Operand.tmp 69) (Operand.const (Value.bool false)), type := 4, pos := "law.go:185", after := #[{ on := 1, ground := Ground.data }, { on := 16, ground := Ground.data }], guard := none }) (v := ?vr0n17) rfl (by kernel_rfl) (by kernel_rfl) (by kernel_rfl) (fun _ _ _ h => h) (Or.inl ⟨by rfl, ?yr0n17⟩) (by assumption) ?tr0n17
        case yr0n17 => (intro wz hSw; clear hSw; go_simp; try with_reducible rfl)
        simp only [Act.put, List.setIfInBounds_toArray, List.set_cons_zero, List.set_cons_succ]
        refine wpAnyH_take (i := 18) (oi := { dst := some 8, op := Op.assign (Operand.tmp 70), type := 4, pos := "law.go:185", after := #[{ on := 17, ground := Ground.data }, { on := 14, ground := Ground.chain }, { on := 0, ground := Ground.phase }, { on := 1, ground := Ground.phase }, { on := 2, ground := Ground.phase }, { on := 3, ground := Ground.phase }, { on := 4, ground := Ground.phase }, { on := 5, ground := Ground.phase }, { on := 6, ground := Ground.phase }, { on := 7, ground := Ground.phase }, { on := 8, ground := Ground.phase }, { on := 9, ground := Ground.phase }, { on := 10, ground := Ground.phase }, { on := 11, ground := Ground.phase }, { on := 12, ground := Ground.phase }, { on := 13, ground := Ground.phase }, { on := 14, ground := Ground.phase }, { on := 15, ground := Ground.phase }, { on := 16, ground := Ground.phase }, { on := 17, ground := Ground.phase }], guard := none }) (v := ?vr0n18) rfl (by kernel_rfl) (by kernel_rfl) (by kernel_rfl) (fun _ _ _ h => h) (Or.inl ⟨by rfl, ?yr0n18⟩) (by assumption) ?tr0n18
        case yr0n18 => (intro wz hSw; clear hSw; go_simp; try with_reducible rfl)
        simp only [Act.put, List.setIfInBounds_toArray, List.set_cons_zero, List.set_cons_succ]
        refine wpAnyH_done (by kernel_rfl) ?_ _
        have HFin := Lib.hid hHeld
        go_wp2_with fail
        go_ret
        exact ⟨rfl, HFin.out.2.2⟩
      | true =>
        exact absurd (valid_iff.1 hvg).2.2.1 HOut.out
    | true =>
      have hvg : validB H = false := by
        cases h : validB H with
        | false => rfl
        | true => exact absurd (valid_iff.1 h).2.2.1 HOut.out
      unfold BoolPost at HVf HVg
      have HvF := Lib.hid hvf
      rw [hvf] at HVf
      rw [hvg] at HVg
      clear hvf hvg
      refine wp_region_held_drew (S := (fun v => v.heap[W.heap.size]? = some (factObj G) ∧ v.heap[bg]? = some (factObj H) ∧ Below W.heap.size W v)) (by kernel_rfl) (⟨HF5.out, HG5.out, HB5.out.drew⟩) (fun hHeld => ?_)
      generalize w5.drew = wd at *
      refine wpAnyH_take (i := 0) (oi := { dst := some 26, op := Op.load 23 (Operand.tmp 4), type := 23, pos := "law.go:181", after := #[], guard := none }) (v := factV G) rfl (by kernel_rfl) (by kernel_rfl) (by kernel_rfl) (fun _ _ _ h => h) (Or.inl ⟨by rfl, fun wz hSw => sem_load_fact _ rfl (W.heap.size) rfl G (hSw.1)⟩) (by assumption) ?tr40
      simp only [Act.put, List.setIfInBounds_toArray, List.set_cons_zero, List.set_cons_succ]
      refine wpAnyH_ready (rs := [1]) (by kernel_rfl) (by simp) ?_
      refine AllReadyH.cons (o := { dst := some 27, op := Op.call { callee := Callee.value (Operand.func 16), args := #[Operand.tmp 26], argTypes := #[23] }, type := 4, pos := "law.go:181", after := #[{ on := 0, ground := Ground.data }], guard := none }) rfl (fun K hK => ?_) AllReadyH.nil
      have HH := Lib.hid hHeld
      go_simp
      refine (HVf.out _ (HTW.out.below HH.out.2.2)).mono ?_; rintro e wz ⟨rfl, gz⟩
      have hz : wz.heap[W.heap.size]? = some (factObj G) ∧ wz.heap[bg]? = some (factObj H) ∧ Below W.heap.size W wz := ⟨box_below HH.out.1 gz, box_below HH.out.2.1 gz, below_step HH.out.2.2 gz⟩
      clear gz HH
      refine hK.out _ _ (hz) (fun hHeld' => ?_)
      clear hK K hHeld
      have hHeld := hHeld'; clear hHeld'
      try simp only [Act.put, List.setIfInBounds_toArray, List.set_cons_zero, List.set_cons_succ]
      refine wpAnyH_take (i := 2) (oi := { dst := some 28, op := Op.move (Operand.tmp 27), type := 4, pos := "law.go:181", after := #[{ on := 1, ground := Ground.data }, { on := 1, ground := Ground.chain }], guard := none }) (v := ?vr42) rfl (by kernel_rfl) (by kernel_rfl) (by kernel_rfl) (fun _ _ _ h => h) (Or.inl ⟨by rfl, ?yr42⟩) (by assumption) ?tr42
      case yr42 => (intro wz hSw; clear hSw; go_simp; try with_reducible rfl)
      simp only [Act.put, List.setIfInBounds_toArray, List.set_cons_zero, List.set_cons_succ]
      refine wpAnyH_take (i := 3) (oi := { dst := some 29, op := Op.load 23 (Operand.tmp 10), type := 23, pos := "law.go:181", after := #[{ on := 2, ground := Ground.guard }], guard := some (2, true) }) (v := factV H) rfl (by kernel_rfl) (by kernel_rfl) (by kernel_rfl) (fun _ _ _ h => h) (Or.inl ⟨by rfl, fun wz hSw => sem_load_fact _ rfl (bg) rfl H (hSw.2.1)⟩) (by assumption) ?tr43
      simp only [Act.put, List.setIfInBounds_toArray, List.set_cons_zero, List.set_cons_succ]
      refine wpAnyH_take (i := 5) (oi := { dst := some 31, op := Op.move (Operand.tmp 11), type := 4, pos := "law.go:181", after := #[{ on := 2, ground := Ground.guard }], guard := some (2, true) }) (v := ?vr45) rfl (by kernel_rfl) (by kernel_rfl) (by kernel_rfl) (fun _ _ _ h => h) (Or.inl ⟨by rfl, ?yr45⟩) (by assumption) ?tr45
      case yr45 => (intro wz hSw; clear hSw; go_simp; try with_reducible rfl)
      simp only [Act.put, List.setIfInBounds_toArray, List.set_cons_zero, List.set_cons_succ]
      refine wpAnyH_ready (rs := [4]) (by kernel_rfl) (by simp) ?_
      refine AllReadyH.cons (o := { dst := some 30, op := Op.call { callee := Callee.value (Operand.func 16), args := #[Operand.tmp 29], argTypes := #[23] }, type := 4, pos := "law.go:181", after := #[{ on := 3, ground := Ground.data }, { on := 2, ground := Ground.chain }, { on := 2, ground := Ground.guard }], guard := some (2, true) }) rfl (fun K hK => ?_) AllReadyH.nil
      have HH := Lib.hid hHeld
      go_simp
      refine (HVg.out _ (HTW.out.below HH.out.2.2)).mono ?_; rintro e wz ⟨rfl, gz⟩
      have hz : wz.heap[W.heap.size]? = some (factObj G) ∧ wz.heap[bg]? = some (factObj H) ∧ Below W.heap.size W wz := ⟨box_below HH.out.1 gz, box_below HH.out.2.1 gz, below_step HH.out.2.2 gz⟩
      clear gz HH
      refine hK.out _ _ (hz) (fun hHeld' => ?_)
      clear hK K hHeld
      have hHeld := hHeld'; clear hHeld'
      try simp only [Act.put, List.setIfInBounds_toArray, List.set_cons_zero, List.set_cons_succ]
      refine wpAnyH_take (i := 6) (oi := { dst := some 32, op := Op.binOp BinOp.neq 4 (Operand.tmp 30) (Operand.tmp 31) 4, type := 4, pos := "law.go:181", after := #[{ on := 4, ground := Ground.data }, { on := 5, ground := Ground.data }, { on := 2, ground := Ground.guard }], guard := some (2, true) }) (v := ?vr46) rfl (by kernel_rfl) (by kernel_rfl) (by kernel_rfl) (fun _ _ _ h => h) (Or.inl ⟨by rfl, ?yr46⟩) (by assumption) ?tr46
      case yr46 => (intro wz hSw; clear hSw; go_simp; try with_reducible rfl)
      simp only [Act.put, List.setIfInBounds_toArray, List.set_cons_zero, List.set_cons_succ]
      refine wpAnyH_take (i := 7) (oi := { dst := some 33, op := Op.pick (Operand.tmp 28) (Operand.tmp 32) (Operand.const (Value.bool false)), type := 4, pos := "law.go:181", after := #[{ on := 2, ground := Ground.data }, { on := 6, ground := Ground.data }], guard := none }) (v := ?vr47) rfl (by kernel_rfl) (by kernel_rfl) (by kernel_rfl) (fun _ _ _ h => h) (Or.inl ⟨by rfl, ?yr47⟩) (by assumption) ?tr47
      case yr47 => (intro wz hSw; clear hSw; go_simp; try with_reducible rfl)
      simp only [Act.put, List.setIfInBounds_toArray, List.set_cons_zero, List.set_cons_succ]
      refine wpAnyH_take (i := 8) (oi := { dst := some 34, op := Op.move (Operand.tmp 33), type := 4, pos := "law.go:181", after := #[{ on := 7, ground := Ground.data }, { on := 4, ground := Ground.chain }], guard := none }) (v := ?vr48) rfl (by kernel_rfl) (by kernel_rfl) (by kernel_rfl) (fun _ _ _ h => h) (Or.inl ⟨by rfl, ?yr48⟩) (by assumption) ?tr48
      case yr48 => (intro wz hSw; clear hSw; go_simp; try with_reducible rfl)
      simp only [Act.put, List.setIfInBounds_toArray, List.set_cons_zero, List.set_cons_succ]
      refine wpAnyH_take (i := 9) (oi := { dst := some 35, op := Op.load 23 (Operand.tmp 10), type := 23, pos := "law.go:181", after := #[{ on := 8, ground := Ground.guard }], guard := some (8, false) }) (v := factV H) rfl (by kernel_rfl) (by kernel_rfl) (by kernel_rfl) (fun _ _ _ h => h) (Or.inl ⟨by rfl, fun wz hSw => sem_load_fact _ rfl (bg) rfl H (hSw.2.1)⟩) (by assumption) ?tr49
      simp only [Act.put, List.setIfInBounds_toArray, List.set_cons_zero, List.set_cons_succ]
      refine wpAnyH_ready (rs := [10]) (by kernel_rfl) (by simp) ?_
      refine AllReadyH.cons (o := { dst := some 36, op := Op.call { callee := Callee.value (Operand.func 16), args := #[Operand.tmp 35], argTypes := #[23] }, type := 4, pos := "law.go:181", after := #[{ on := 9, ground := Ground.data }, { on := 8, ground := Ground.chain }, { on := 8, ground := Ground.guard }], guard := some (8, false) }) rfl (fun K hK => ?_) AllReadyH.nil
      have HH := Lib.hid hHeld
      go_simp
      refine (HVg.out _ (HTW.out.below HH.out.2.2)).mono ?_; rintro e wz ⟨rfl, gz⟩
      have hz : wz.heap[W.heap.size]? = some (factObj G) ∧ wz.heap[bg]? = some (factObj H) ∧ Below W.heap.size W wz := ⟨box_below HH.out.1 gz, box_below HH.out.2.1 gz, below_step HH.out.2.2 gz⟩
      clear gz HH
      refine hK.out _ _ (hz) (fun hHeld' => ?_)
      clear hK K hHeld
      have hHeld := hHeld'; clear hHeld'
      try simp only [Act.put, List.setIfInBounds_toArray, List.set_cons_zero, List.set_cons_succ]
      refine wpAnyH_take (i := 11) (oi := { dst := some 37, op := Op.move (Operand.tmp 36), type := 4, pos := "law.go:181", after := #[{ on := 10, ground := Ground.data }, { on := 10, ground := Ground.chain }, { on := 8, ground := Ground.guard }], guard := some (8, false) }) (v := ?vr411) rfl (by kernel_rfl) (by kernel_rfl) (by kernel_rfl) (fun _ _ _ h => h) (Or.inl ⟨by rfl, ?yr411⟩) (by assumption) ?tr411
      case yr411 => (intro wz hSw; clear hSw; go_simp; try with_reducible rfl)
      simp only [Act.put, List.setIfInBounds_toArray, List.set_cons_zero, List.set_cons_succ]
      refine wpAnyH_take (i := 12) (oi := { dst := some 38, op := Op.load 23 (Operand.tmp 4), type := 23, pos := "law.go:181", after := #[{ on := 11, ground := Ground.guard }], guard := some (11, true) }) (v := undef) rfl (by kernel_rfl) (by kernel_rfl) (by kernel_rfl) (fun _ _ _ h => h) (Or.inr ⟨by rfl, rfl⟩) (by assumption) ?_
      simp only [Act.put, List.setIfInBounds_toArray, List.set_cons_zero, List.set_cons_succ]
      refine wpAnyH_take (i := 13) (oi := { dst := some 39, op := Op.call { callee := Callee.value (Operand.func 16), args := #[Operand.tmp 38], argTypes := #[23] }, type := 4, pos := "law.go:181", after := #[{ on := 12, ground := Ground.data }, { on := 11, ground := Ground.chain }, { on := 11, ground := Ground.guard }], guard := some (11, true) }) (v := undef) rfl (by kernel_rfl) (by kernel_rfl) (by kernel_rfl) (fun _ _ _ h => h) (Or.inr ⟨by rfl, rfl⟩) (by assumption) ?_
      simp only [Act.put, List.setIfInBounds_toArray, List.set_cons_zero, List.set_cons_succ]
      refine wpAnyH_take (i := 14) (oi := { dst := some 40, op := Op.fieldAddr 23 (Operand.tmp 4) 3, type := 0, pos := "law.go:181", after := #[{ on := 11, ground := Ground.guard }], guard := some (11, true) }) (v := undef) rfl (by kernel_rfl) (by kernel_rfl) (by kernel_rfl) (fun _ _ _ h => h) (Or.inr ⟨by rfl, rfl⟩) (by assumption) ?_
      simp only [Act.put, List.setIfInBounds_toArray, List.set_cons_zero, List.set_cons_succ]
      refine wpAnyH_take (i := 15) (oi := { dst := some 41, op := Op.load 3 (Operand.tmp 40), type := 3, pos := "law.go:181", after := #[{ on := 14, ground := Ground.data }, { on := 11, ground := Ground.guard }], guard := some (11, true) }) (v := undef) rfl (by kernel_rfl) (by kernel_rfl) (by kernel_rfl) (fun _ _ _ h => h) (Or.inr ⟨by rfl, rfl⟩) (by assumption) ?_
      simp only [Act.put, List.setIfInBounds_toArray, List.set_cons_zero, List.set_cons_succ]
      refine wpAnyH_take (i := 16) (oi := { dst := some 42, op := Op.binOp BinOp.geq 3 (Operand.tmp 41) (Operand.const (Value.int IntKind.i64 0)) 3, type := 4, pos := "law.go:181", after := #[{ on := 15, ground := Ground.data }, { on := 11, ground := Ground.guard }], guard := some (11, true) }) (v := undef) rfl (by kernel_rfl) (by kernel_rfl) (by kernel_rfl) (fun _ _ _ h => h) (Or.inr ⟨by rfl, rfl⟩) (by assumption) ?_
      simp only [Act.put, List.setIfInBounds_toArray, List.set_cons_zero, List.set_cons_succ]
      refine wpAnyH_take (i := 17) (oi := { dst := some 43, op := Op.move (Operand.tmp 42), type := 4, pos := "law.go:181", after := #[{ on := 16, ground := Ground.data }, { on := 13, ground := Ground.chain }, { on := 11, ground := Ground.guard }], guard := some (11, true) }) (v := undef) rfl (by kernel_rfl) (by kernel_rfl) (by kernel_rfl) (fun _ _ _ h => h) (Or.inr ⟨by rfl, rfl⟩) (by assumption) ?_
      simp only [Act.put, List.setIfInBounds_toArray, List.set_cons_zero, List.set_cons_succ]
      refine wpAnyH_take (i := 18) (oi := { dst := some 44, op := Op.fieldAddr 23 (Operand.tmp 4) 3, type := 0, pos := "law.go:181", after := #[{ on := 17, ground := Ground.guard }], guard := some (17, true) }) (v := undef) rfl (by kernel_rfl) (by kernel_rfl) (by kernel_rfl) (fun _ _ _ h => h) (Or.inr ⟨by rfl, rfl⟩) (by assumption) ?_
      simp only [Act.put, List.setIfInBounds_toArray, List.set_cons_zero, List.set_cons_succ]
      refine wpAnyH_take (i := 19) (oi := { dst := some 45, op := Op.load 3 (Operand.tmp 44), type := 3, pos := "law.go:181", after := #[{ on := 18, ground := Ground.data }, { on := 17, ground := Ground.guard }], guard := some (17, true) }) (v := undef) rfl (by kernel_rfl) (by kernel_rfl) (by kernel_rfl) (fun _ _ _ h => h) (Or.inr ⟨by rfl, rfl⟩) (by assumption) ?_
      simp only [Act.put, List.setIfInBounds_toArray, List.set_cons_zero, List.set_cons_succ]
      refine wpAnyH_take (i := 20) (oi := { dst := some 46, op := Op.binOp BinOp.leq 3 (Operand.tmp 45) (Operand.const (Value.int IntKind.i64 100000)) 3, type := 4, pos := "law.go:181", after := #[{ on := 19, ground := Ground.data }, { on := 17, ground := Ground.guard }], guard := some (17, true) }) (v := undef) rfl (by kernel_rfl) (by kernel_rfl) (by kernel_rfl) (fun _ _ _ h => h) (Or.inr ⟨by rfl, rfl⟩) (by assumption) ?_
      simp only [Act.put, List.setIfInBounds_toArray, List.set_cons_zero, List.set_cons_succ]
      refine wpAnyH_take (i := 21) (oi := { dst := some 47, op := Op.pick (Operand.tmp 43) (Operand.tmp 46) (Operand.const (Value.bool false)), type := 4, pos := "law.go:181", after := #[{ on := 17, ground := Ground.data }, { on := 20, ground := Ground.data }, { on := 11, ground := Ground.guard }], guard := some (11, true) }) (v := undef) rfl (by kernel_rfl) (by kernel_rfl) (by kernel_rfl) (fun _ _ _ h => h) (Or.inr ⟨by rfl, rfl⟩) (by assumption) ?_
      simp only [Act.put, List.setIfInBounds_toArray, List.set_cons_zero, List.set_cons_succ]
      refine wpAnyH_take (i := 22) (oi := { dst := some 48, op := Op.binOp BinOp.neq 4 (Operand.tmp 39) (Operand.tmp 47) 4, type := 4, pos := "law.go:181", after := #[{ on := 13, ground := Ground.data }, { on := 21, ground := Ground.data }, { on := 11, ground := Ground.guard }], guard := some (11, true) }) (v := undef) rfl (by kernel_rfl) (by kernel_rfl) (by kernel_rfl) (fun _ _ _ h => h) (Or.inr ⟨by rfl, rfl⟩) (by assumption) ?_
      simp only [Act.put, List.setIfInBounds_toArray, List.set_cons_zero, List.set_cons_succ]
      refine wpAnyH_take (i := 23) (oi := { dst := some 49, op := Op.pick (Operand.tmp 37) (Operand.tmp 48) (Operand.const (Value.bool false)), type := 4, pos := "law.go:181", after := #[{ on := 11, ground := Ground.data }, { on := 22, ground := Ground.data }, { on := 8, ground := Ground.guard }], guard := some (8, false) }) (v := ?vr423) rfl (by kernel_rfl) (by kernel_rfl) (by kernel_rfl) (fun _ _ _ h => h) (Or.inl ⟨by rfl, ?yr423⟩) (by assumption) ?tr423
      case yr423 => (intro wz hSw; clear hSw; go_simp; try with_reducible rfl)
      simp only [Act.put, List.setIfInBounds_toArray, List.set_cons_zero, List.set_cons_succ]
      refine wpAnyH_take (i := 24) (oi := { dst := some 50, op := Op.pick (Operand.tmp 34) (Operand.const (Value.bool true)) (Operand.tmp 49), type := 4, pos := "law.go:181", after := #[{ on := 8, ground := Ground.data }, { on := 23, ground := Ground.data }], guard := none }) (v := ?vr424) rfl (by kernel_rfl) (by kernel_rfl) (by kernel_rfl) (fun _ _ _ h => h) (Or.inl ⟨by rfl, ?yr424⟩) (by assumption) ?tr424
      case yr424 => (intro wz hSw; clear hSw; go_simp; try with_reducible rfl)
      simp only [Act.put, List.setIfInBounds_toArray, List.set_cons_zero, List.set_cons_succ]
      refine wpAnyH_done (by kernel_rfl) ?_ _
      have HF7 := Lib.hid hHeld.1
      have HG7 := Lib.hid hHeld.2.1
      have HB7 := Lib.hid hHeld.2.2
      clear hHeld
      have c2 := box_cell HG7.out 2 (.int .i64 H.v) rfl
      have z2 := box_fz HG7.out 2
      have l2 := lt_of_block HG7.out
      have HC := one_ch wz bg 2 (.int .i64 ver)
      have HF8 := Lib.hid ((HC.block _ (lt_of_block HF7.out) (by have := HNe.out; omega)).trans HF7.out)
      have HG8 := Lib.hid (show (wz.setCell ⟨bg, 2, none⟩ (.int .i64 ver)).heap[bg]? = some (factObj { H with v := ver }) from block_set HG7.out (o := 2) _)
      have HB8 := Lib.hid (HB7.out.trans (HC.below (B := W.heap.size) (Nat.le_of_lt (lt_of_block HF7.out)) (fun k e => by have := HNe.out; omega)))
      clear HC HF7 HB7
      go_upto_region 10 with (fail)
      clear c2 z2 l2 HG7 HVf HVg
      generalize wz.setCell ⟨bg, 2, none⟩ (.int .i64 ver) = w8 at *
      have HS2 := Lib.hid (show ({ H with v := ver } : Fact).tx.size ≤ maxLen from HSH.out)
      have HK2 := Lib.hid (HK.out ver)
      generalize ({ H with v := ver } : Fact) = J at *
      have HVf := Lib.hid (fun V h => valid_any G V h HS.out)
      have HVg := Lib.hid (fun V h => valid_any J V h HS2.out)
      have HKf := Lib.hid (fun V h => key_any G V h HS.out)
      have HKg := Lib.hid (fun V h => key_any J V h HS2.out)
      unfold BoolPost at HVf HVg
      unfold StrPost at HKf HKg
      rw [HvF.out] at HVf
      cases hk : validB J with
      | false =>
        rw [hk] at HVg
        clear hk
        refine wp_region_held_drew (S := (fun v => v.heap[W.heap.size]? = some (factObj G) ∧ v.heap[bg]? = some (factObj J) ∧ Below W.heap.size W v)) (by kernel_rfl) (⟨HF8.out, HG8.out, HB8.out.drew⟩) (fun hHeld => ?_)
        generalize w8.drew = wd at *
        refine wpAnyH_take (i := 0) (oi := { dst := some 53, op := Op.move (Operand.tmp 9), type := 4, pos := "law.go:185", after := #[], guard := none }) (v := ?vr4n0) rfl (by kernel_rfl) (by kernel_rfl) (by kernel_rfl) (fun _ _ _ h => h) (Or.inl ⟨by rfl, ?yr4n0⟩) (by assumption) ?tr4n0
        case yr4n0 => (intro wz hSw; clear hSw; go_simp; try with_reducible rfl)
        simp only [Act.put, List.setIfInBounds_toArray, List.set_cons_zero, List.set_cons_succ]
        refine wpAnyH_take (i := 1) (oi := { dst := some 54, op := Op.move (Operand.tmp 53), type := 4, pos := "law.go:185", after := #[{ on := 0, ground := Ground.data }], guard := none }) (v := ?vr4n1) rfl (by kernel_rfl) (by kernel_rfl) (by kernel_rfl) (fun _ _ _ h => h) (Or.inl ⟨by rfl, ?yr4n1⟩) (by assumption) ?tr4n1
        case yr4n1 => (intro wz hSw; clear hSw; go_simp; try with_reducible rfl)
        simp only [Act.put, List.setIfInBounds_toArray, List.set_cons_zero, List.set_cons_succ]
        refine wpAnyH_take (i := 2) (oi := { dst := some 55, op := Op.load 23 (Operand.tmp 4), type := 23, pos := "law.go:185", after := #[{ on := 1, ground := Ground.guard }], guard := some (1, true) }) (v := factV G) rfl (by kernel_rfl) (by kernel_rfl) (by kernel_rfl) (fun _ _ _ h => h) (Or.inl ⟨by rfl, fun wz hSw => sem_load_fact _ rfl (W.heap.size) rfl G (hSw.1)⟩) (by assumption) ?tr4n2
        simp only [Act.put, List.setIfInBounds_toArray, List.set_cons_zero, List.set_cons_succ]
        refine wpAnyH_ready (rs := [3]) (by kernel_rfl) (by simp) ?_
        refine AllReadyH.cons (o := { dst := some 56, op := Op.call { callee := Callee.value (Operand.func 16), args := #[Operand.tmp 55], argTypes := #[23] }, type := 4, pos := "law.go:185", after := #[{ on := 2, ground := Ground.data }, { on := 1, ground := Ground.chain }, { on := 1, ground := Ground.guard }], guard := some (1, true) }) rfl (fun K hK => ?_) AllReadyH.nil
        have HH := Lib.hid hHeld
        go_simp
        refine (HVf.out _ (HTW.out.below HH.out.2.2)).mono ?_; rintro e wz ⟨rfl, gz⟩
        have hz : wz.heap[W.heap.size]? = some (factObj G) ∧ wz.heap[bg]? = some (factObj J) ∧ Below W.heap.size W wz := ⟨box_below HH.out.1 gz, box_below HH.out.2.1 gz, below_step HH.out.2.2 gz⟩
        clear gz HH
        refine hK.out _ _ (hz) (fun hHeld' => ?_)
        clear hK K hHeld
        have hHeld := hHeld'; clear hHeld'
        try simp only [Act.put, List.setIfInBounds_toArray, List.set_cons_zero, List.set_cons_succ]
        refine wpAnyH_take (i := 4) (oi := { dst := some 57, op := Op.unOp UnOp.not 4 (Operand.tmp 56), type := 4, pos := "law.go:185", after := #[{ on := 3, ground := Ground.data }, { on := 1, ground := Ground.guard }], guard := some (1, true) }) (v := ?vr4n4) rfl (by kernel_rfl) (by kernel_rfl) (by kernel_rfl) (fun _ _ _ h => h) (Or.inl ⟨by rfl, ?yr4n4⟩) (by assumption) ?tr4n4
        case yr4n4 => (intro wz hSw; clear hSw; go_simp; try with_reducible rfl)
        simp only [Act.put, List.setIfInBounds_toArray, List.set_cons_zero, List.set_cons_succ]
        refine wpAnyH_take (i := 5) (oi := { dst := some 58, op := Op.move (Operand.tmp 57), type := 4, pos := "law.go:185", after := #[{ on := 4, ground := Ground.data }, { on := 3, ground := Ground.chain }, { on := 1, ground := Ground.guard }], guard := some (1, true) }) (v := ?vr4n5) rfl (by kernel_rfl) (by kernel_rfl) (by kernel_rfl) (fun _ _ _ h => h) (Or.inl ⟨by rfl, ?yr4n5⟩) (by assumption) ?tr4n5
        case yr4n5 => (intro wz hSw; clear hSw; go_simp; try with_reducible rfl)
        simp only [Act.put, List.setIfInBounds_toArray, List.set_cons_zero, List.set_cons_succ]
        refine wpAnyH_take (i := 6) (oi := { dst := some 59, op := Op.load 23 (Operand.tmp 10), type := 23, pos := "law.go:185", after := #[{ on := 5, ground := Ground.guard }], guard := some (5, false) }) (v := factV J) rfl (by kernel_rfl) (by kernel_rfl) (by kernel_rfl) (fun _ _ _ h => h) (Or.inl ⟨by rfl, fun wz hSw => sem_load_fact _ rfl (bg) rfl J (hSw.2.1)⟩) (by assumption) ?tr4n6
        simp only [Act.put, List.setIfInBounds_toArray, List.set_cons_zero, List.set_cons_succ]
        refine wpAnyH_ready (rs := [7]) (by kernel_rfl) (by simp) ?_
        refine AllReadyH.cons (o := { dst := some 60, op := Op.call { callee := Callee.value (Operand.func 16), args := #[Operand.tmp 59], argTypes := #[23] }, type := 4, pos := "law.go:185", after := #[{ on := 6, ground := Ground.data }, { on := 5, ground := Ground.chain }, { on := 5, ground := Ground.guard }], guard := some (5, false) }) rfl (fun K hK => ?_) AllReadyH.nil
        have HH := Lib.hid hHeld
        go_simp
        refine (HVg.out _ (HTW.out.below HH.out.2.2)).mono ?_; rintro e wz ⟨rfl, gz⟩
        have hz : wz.heap[W.heap.size]? = some (factObj G) ∧ wz.heap[bg]? = some (factObj J) ∧ Below W.heap.size W wz := ⟨box_below HH.out.1 gz, box_below HH.out.2.1 gz, below_step HH.out.2.2 gz⟩
        clear gz HH
        refine hK.out _ _ (hz) (fun hHeld' => ?_)
        clear hK K hHeld
        have hHeld := hHeld'; clear hHeld'
        try simp only [Act.put, List.setIfInBounds_toArray, List.set_cons_zero, List.set_cons_succ]
        refine wpAnyH_take (i := 8) (oi := { dst := some 61, op := Op.unOp UnOp.not 4 (Operand.tmp 60), type := 4, pos := "law.go:185", after := #[{ on := 7, ground := Ground.data }, { on := 5, ground := Ground.guard }], guard := some (5, false) }) (v := ?vr4n8) rfl (by kernel_rfl) (by kernel_rfl) (by kernel_rfl) (fun _ _ _ h => h) (Or.inl ⟨by rfl, ?yr4n8⟩) (by assumption) ?tr4n8
        case yr4n8 => (intro wz hSw; clear hSw; go_simp; try with_reducible rfl)
        simp only [Act.put, List.setIfInBounds_toArray, List.set_cons_zero, List.set_cons_succ]
        refine wpAnyH_take (i := 9) (oi := { dst := some 62, op := Op.pick (Operand.tmp 58) (Operand.const (Value.bool true)) (Operand.tmp 61), type := 4, pos := "law.go:185", after := #[{ on := 5, ground := Ground.data }, { on := 8, ground := Ground.data }, { on := 1, ground := Ground.guard }], guard := some (1, true) }) (v := ?vr4n9) rfl (by kernel_rfl) (by kernel_rfl) (by kernel_rfl) (fun _ _ _ h => h) (Or.inl ⟨by rfl, ?yr4n9⟩) (by assumption) ?tr4n9
        case yr4n9 => (intro wz hSw; clear hSw; go_simp; try with_reducible rfl)
        simp only [Act.put, List.setIfInBounds_toArray, List.set_cons_zero, List.set_cons_succ]
        refine wpAnyH_take (i := 10) (oi := { dst := some 63, op := Op.move (Operand.tmp 62), type := 4, pos := "law.go:185", after := #[{ on := 9, ground := Ground.data }, { on := 7, ground := Ground.chain }, { on := 1, ground := Ground.guard }], guard := some (1, true) }) (v := ?vr4n10) rfl (by kernel_rfl) (by kernel_rfl) (by kernel_rfl) (fun _ _ _ h => h) (Or.inl ⟨by rfl, ?yr4n10⟩) (by assumption) ?tr4n10
        case yr4n10 => (intro wz hSw; clear hSw; go_simp; try with_reducible rfl)
        simp only [Act.put, List.setIfInBounds_toArray, List.set_cons_zero, List.set_cons_succ]
        refine wpAnyH_take (i := 11) (oi := { dst := some 64, op := Op.load 23 (Operand.tmp 4), type := 23, pos := "law.go:185", after := #[{ on := 10, ground := Ground.guard }], guard := some (10, false) }) (v := undef) rfl (by kernel_rfl) (by kernel_rfl) (by kernel_rfl) (fun _ _ _ h => h) (Or.inr ⟨by rfl, rfl⟩) (by assumption) ?_
        simp only [Act.put, List.setIfInBounds_toArray, List.set_cons_zero, List.set_cons_succ]
        refine wpAnyH_take (i := 12) (oi := { dst := some 65, op := Op.call { callee := Callee.value (Operand.func 18), args := #[Operand.tmp 64], argTypes := #[23] }, type := 9, pos := "law.go:185", after := #[{ on := 11, ground := Ground.data }, { on := 10, ground := Ground.chain }, { on := 10, ground := Ground.guard }], guard := some (10, false) }) (v := undef) rfl (by kernel_rfl) (by kernel_rfl) (by kernel_rfl) (fun _ _ _ h => h) (Or.inr ⟨by rfl, rfl⟩) (by assumption) ?_
        simp only [Act.put, List.setIfInBounds_toArray, List.set_cons_zero, List.set_cons_succ]
        refine wpAnyH_take (i := 13) (oi := { dst := some 66, op := Op.load 23 (Operand.tmp 10), type := 23, pos := "law.go:185", after := #[{ on := 10, ground := Ground.guard }], guard := some (10, false) }) (v := undef) rfl (by kernel_rfl) (by kernel_rfl) (by kernel_rfl) (fun _ _ _ h => h) (Or.inr ⟨by rfl, rfl⟩) (by assumption) ?_
        simp only [Act.put, List.setIfInBounds_toArray, List.set_cons_zero, List.set_cons_succ]
        refine wpAnyH_take (i := 14) (oi := { dst := some 67, op := Op.call { callee := Callee.value (Operand.func 18), args := #[Operand.tmp 66], argTypes := #[23] }, type := 9, pos := "law.go:185", after := #[{ on := 13, ground := Ground.data }, { on := 12, ground := Ground.chain }, { on := 10, ground := Ground.guard }], guard := some (10, false) }) (v := undef) rfl (by kernel_rfl) (by kernel_rfl) (by kernel_rfl) (fun _ _ _ h => h) (Or.inr ⟨by rfl, rfl⟩) (by assumption) ?_
        simp only [Act.put, List.setIfInBounds_toArray, List.set_cons_zero, List.set_cons_succ]
        refine wpAnyH_take (i := 15) (oi := { dst := some 68, op := Op.binOp BinOp.eql 9 (Operand.tmp 65) (Operand.tmp 67) 9, type := 4, pos := "law.go:185", after := #[{ on := 12, ground := Ground.data }, { on := 14, ground := Ground.data }, { on := 10, ground := Ground.guard }], guard := some (10, false) }) (v := undef) rfl (by kernel_rfl) (by kernel_rfl) (by kernel_rfl) (fun _ _ _ h => h) (Or.inr ⟨by rfl, rfl⟩) (by assumption) ?_
        simp only [Act.put, List.setIfInBounds_toArray, List.set_cons_zero, List.set_cons_succ]
        refine wpAnyH_take (i := 16) (oi := { dst := some 69, op := Op.pick (Operand.tmp 63) (Operand.const (Value.bool true)) (Operand.tmp 68), type := 4, pos := "law.go:185", after := #[{ on := 10, ground := Ground.data }, { on := 15, ground := Ground.data }, { on := 1, ground := Ground.guard }], guard := some (1, true) }) (v := ?vr4n16) rfl (by kernel_rfl) (by kernel_rfl) (by kernel_rfl) (fun _ _ _ h => h) (Or.inl ⟨by rfl, ?yr4n16⟩) (by assumption) ?tr4n16
        case yr4n16 => (intro wz hSw; clear hSw; go_simp; try with_reducible rfl)
        simp only [Act.put, List.setIfInBounds_toArray, List.set_cons_zero, List.set_cons_succ]
        refine wpAnyH_take (i := 17) (oi := { dst := some 70, op := Op.pick (Operand.tmp 54) (Operand.tmp 69) (Operand.const (Value.bool false)), type := 4, pos := "law.go:185", after := #[{ on := 1, ground := Ground.data }, { on := 16, ground := Ground.data }], guard := none }) (v := ?vr4n17) rfl (by kernel_rfl) (by kernel_rfl) (by kernel_rfl) (fun _ _ _ h => h) (Or.inl ⟨by rfl, ?yr4n17⟩) (by assumption) ?tr4n17
        case yr4n17 => (intro wz hSw; clear hSw; go_simp; try with_reducible rfl)
        simp only [Act.put, List.setIfInBounds_toArray, List.set_cons_zero, List.set_cons_succ]
        refine wpAnyH_take (i := 18) (oi := { dst := some 8, op := Op.assign (Operand.tmp 70), type := 4, pos := "law.go:185", after := #[{ on := 17, ground := Ground.data }, { on := 14, ground := Ground.chain }, { on := 0, ground := Ground.phase }, { on := 1, ground := Ground.phase }, { on := 2, ground := Ground.phase }, { on := 3, ground := Ground.phase }, { on := 4, ground := Ground.phase }, { on := 5, ground := Ground.phase }, { on := 6, ground := Ground.phase }, { on := 7, ground := Ground.phase }, { on := 8, ground := Ground.phase }, { on := 9, ground := Ground.phase }, { on := 10, ground := Ground.phase }, { on := 11, ground := Ground.phase }, { on := 12, ground := Ground.phase }, { on := 13, ground := Ground.phase }, { on := 14, ground := Ground.phase }, { on := 15, ground := Ground.phase }, { on := 16, ground := Ground.phase }, { on := 17, ground := Ground.phase }], guard := none }) (v := ?vr4n18) rfl (by kernel_rfl) (by kernel_rfl) (by kernel_rfl) (fun _ _ _ h => h) (Or.inl ⟨by rfl, ?yr4n18⟩) (by assumption) ?tr4n18
        case yr4n18 => (intro wz hSw; clear hSw; go_simp; try with_reducible rfl)
        simp only [Act.put, List.setIfInBounds_toArray, List.set_cons_zero, List.set_cons_succ]
        refine wpAnyH_done (by kernel_rfl) ?_ _
        have HFin := Lib.hid hHeld
        go_wp2_with fail
        go_ret
        exact ⟨rfl, HFin.out.2.2⟩
      | true =>
        rw [hk] at HVg
        rw [HK2.out HvF.out hk] at HKg
        clear hk HK2
        generalize bs (keyB G) = KK at *
        refine wp_region_held_drew (S := (fun v => v.heap[W.heap.size]? = some (factObj G) ∧ v.heap[bg]? = some (factObj J) ∧ Below W.heap.size W v)) (by kernel_rfl) (⟨HF8.out, HG8.out, HB8.out.drew⟩) (fun hHeld => ?_)
        generalize w8.drew = wd at *
        refine wpAnyH_take (i := 0) (oi := { dst := some 53, op := Op.move (Operand.tmp 9), type := 4, pos := "law.go:185", after := #[], guard := none }) (v := ?vr4y0) rfl (by kernel_rfl) (by kernel_rfl) (by kernel_rfl) (fun _ _ _ h => h) (Or.inl ⟨by rfl, ?yr4y0⟩) (by assumption) ?tr4y0
        case yr4y0 => (intro wz hSw; clear hSw; go_simp; try with_reducible rfl)
        simp only [Act.put, List.setIfInBounds_toArray, List.set_cons_zero, List.set_cons_succ]
        refine wpAnyH_take (i := 1) (oi := { dst := some 54, op := Op.move (Operand.tmp 53), type := 4, pos := "law.go:185", after := #[{ on := 0, ground := Ground.data }], guard := none }) (v := ?vr4y1) rfl (by kernel_rfl) (by kernel_rfl) (by kernel_rfl) (fun _ _ _ h => h) (Or.inl ⟨by rfl, ?yr4y1⟩) (by assumption) ?tr4y1
        case yr4y1 => (intro wz hSw; clear hSw; go_simp; try with_reducible rfl)
        simp only [Act.put, List.setIfInBounds_toArray, List.set_cons_zero, List.set_cons_succ]
        refine wpAnyH_take (i := 2) (oi := { dst := some 55, op := Op.load 23 (Operand.tmp 4), type := 23, pos := "law.go:185", after := #[{ on := 1, ground := Ground.guard }], guard := some (1, true) }) (v := factV G) rfl (by kernel_rfl) (by kernel_rfl) (by kernel_rfl) (fun _ _ _ h => h) (Or.inl ⟨by rfl, fun wz hSw => sem_load_fact _ rfl (W.heap.size) rfl G (hSw.1)⟩) (by assumption) ?tr4y2
        simp only [Act.put, List.setIfInBounds_toArray, List.set_cons_zero, List.set_cons_succ]
        refine wpAnyH_ready (rs := [3]) (by kernel_rfl) (by simp) ?_
        refine AllReadyH.cons (o := { dst := some 56, op := Op.call { callee := Callee.value (Operand.func 16), args := #[Operand.tmp 55], argTypes := #[23] }, type := 4, pos := "law.go:185", after := #[{ on := 2, ground := Ground.data }, { on := 1, ground := Ground.chain }, { on := 1, ground := Ground.guard }], guard := some (1, true) }) rfl (fun K hK => ?_) AllReadyH.nil
        have HH := Lib.hid hHeld
        go_simp
        refine (HVf.out _ (HTW.out.below HH.out.2.2)).mono ?_; rintro e wz ⟨rfl, gz⟩
        have hz : wz.heap[W.heap.size]? = some (factObj G) ∧ wz.heap[bg]? = some (factObj J) ∧ Below W.heap.size W wz := ⟨box_below HH.out.1 gz, box_below HH.out.2.1 gz, below_step HH.out.2.2 gz⟩
        clear gz HH
        refine hK.out _ _ (hz) (fun hHeld' => ?_)
        clear hK K hHeld
        have hHeld := hHeld'; clear hHeld'
        try simp only [Act.put, List.setIfInBounds_toArray, List.set_cons_zero, List.set_cons_succ]
        refine wpAnyH_take (i := 4) (oi := { dst := some 57, op := Op.unOp UnOp.not 4 (Operand.tmp 56), type := 4, pos := "law.go:185", after := #[{ on := 3, ground := Ground.data }, { on := 1, ground := Ground.guard }], guard := some (1, true) }) (v := ?vr4y4) rfl (by kernel_rfl) (by kernel_rfl) (by kernel_rfl) (fun _ _ _ h => h) (Or.inl ⟨by rfl, ?yr4y4⟩) (by assumption) ?tr4y4
        case yr4y4 => (intro wz hSw; clear hSw; go_simp; try with_reducible rfl)
        simp only [Act.put, List.setIfInBounds_toArray, List.set_cons_zero, List.set_cons_succ]
        refine wpAnyH_take (i := 5) (oi := { dst := some 58, op := Op.move (Operand.tmp 57), type := 4, pos := "law.go:185", after := #[{ on := 4, ground := Ground.data }, { on := 3, ground := Ground.chain }, { on := 1, ground := Ground.guard }], guard := some (1, true) }) (v := ?vr4y5) rfl (by kernel_rfl) (by kernel_rfl) (by kernel_rfl) (fun _ _ _ h => h) (Or.inl ⟨by rfl, ?yr4y5⟩) (by assumption) ?tr4y5
        case yr4y5 => (intro wz hSw; clear hSw; go_simp; try with_reducible rfl)
        simp only [Act.put, List.setIfInBounds_toArray, List.set_cons_zero, List.set_cons_succ]
        refine wpAnyH_take (i := 6) (oi := { dst := some 59, op := Op.load 23 (Operand.tmp 10), type := 23, pos := "law.go:185", after := #[{ on := 5, ground := Ground.guard }], guard := some (5, false) }) (v := factV J) rfl (by kernel_rfl) (by kernel_rfl) (by kernel_rfl) (fun _ _ _ h => h) (Or.inl ⟨by rfl, fun wz hSw => sem_load_fact _ rfl (bg) rfl J (hSw.2.1)⟩) (by assumption) ?tr4y6
        simp only [Act.put, List.setIfInBounds_toArray, List.set_cons_zero, List.set_cons_succ]
        refine wpAnyH_ready (rs := [7]) (by kernel_rfl) (by simp) ?_
        refine AllReadyH.cons (o := { dst := some 60, op := Op.call { callee := Callee.value (Operand.func 16), args := #[Operand.tmp 59], argTypes := #[23] }, type := 4, pos := "law.go:185", after := #[{ on := 6, ground := Ground.data }, { on := 5, ground := Ground.chain }, { on := 5, ground := Ground.guard }], guard := some (5, false) }) rfl (fun K hK => ?_) AllReadyH.nil
        have HH := Lib.hid hHeld
        go_simp
        refine (HVg.out _ (HTW.out.below HH.out.2.2)).mono ?_; rintro e wz ⟨rfl, gz⟩
        have hz : wz.heap[W.heap.size]? = some (factObj G) ∧ wz.heap[bg]? = some (factObj J) ∧ Below W.heap.size W wz := ⟨box_below HH.out.1 gz, box_below HH.out.2.1 gz, below_step HH.out.2.2 gz⟩
        clear gz HH
        refine hK.out _ _ (hz) (fun hHeld' => ?_)
        clear hK K hHeld
        have hHeld := hHeld'; clear hHeld'
        try simp only [Act.put, List.setIfInBounds_toArray, List.set_cons_zero, List.set_cons_succ]
        refine wpAnyH_take (i := 8) (oi := { dst := some 61, op := Op.unOp UnOp.not 4 (Operand.tmp 60), type := 4, pos := "law.go:185", after := #[{ on := 7, ground := Ground.data }, { on := 5, ground := Ground.guard }], guard := some (5, false) }) (v := ?vr4y8) rfl (by kernel_rfl) (by kernel_rfl) (by kernel_rfl) (fun _ _ _ h => h) (Or.inl ⟨by rfl, ?yr4y8⟩) (by assumption) ?tr4y8
        case yr4y8 => (intro wz hSw; clear hSw; go_simp; try with_reducible rfl)
        simp only [Act.put, List.setIfInBounds_toArray, List.set_cons_zero, List.set_cons_succ]
        refine wpAnyH_take (i := 9) (oi := { dst := some 62, op := Op.pick (Operand.tmp 58) (Operand.const (Value.bool true)) (Operand.tmp 61), type := 4, pos := "law.go:185", after := #[{ on := 5, ground := Ground.data }, { on := 8, ground := Ground.data }, { on := 1, ground := Ground.guard }], guard := some (1, true) }) (v := ?vr4y9) rfl (by kernel_rfl) (by kernel_rfl) (by kernel_rfl) (fun _ _ _ h => h) (Or.inl ⟨by rfl, ?yr4y9⟩) (by assumption) ?tr4y9
        case yr4y9 => (intro wz hSw; clear hSw; go_simp; try with_reducible rfl)
        simp only [Act.put, List.setIfInBounds_toArray, List.set_cons_zero, List.set_cons_succ]
        refine wpAnyH_take (i := 10) (oi := { dst := some 63, op := Op.move (Operand.tmp 62), type := 4, pos := "law.go:185", after := #[{ on := 9, ground := Ground.data }, { on := 7, ground := Ground.chain }, { on := 1, ground := Ground.guard }], guard := some (1, true) }) (v := ?vr4y10) rfl (by kernel_rfl) (by kernel_rfl) (by kernel_rfl) (fun _ _ _ h => h) (Or.inl ⟨by rfl, ?yr4y10⟩) (by assumption) ?tr4y10
        case yr4y10 => (intro wz hSw; clear hSw; go_simp; try with_reducible rfl)
        simp only [Act.put, List.setIfInBounds_toArray, List.set_cons_zero, List.set_cons_succ]
        refine wpAnyH_take (i := 11) (oi := { dst := some 64, op := Op.load 23 (Operand.tmp 4), type := 23, pos := "law.go:185", after := #[{ on := 10, ground := Ground.guard }], guard := some (10, false) }) (v := factV G) rfl (by kernel_rfl) (by kernel_rfl) (by kernel_rfl) (fun _ _ _ h => h) (Or.inl ⟨by rfl, fun wz hSw => sem_load_fact _ rfl (W.heap.size) rfl G (hSw.1)⟩) (by assumption) ?tr4y11
        simp only [Act.put, List.setIfInBounds_toArray, List.set_cons_zero, List.set_cons_succ]
        refine wpAnyH_take (i := 13) (oi := { dst := some 66, op := Op.load 23 (Operand.tmp 10), type := 23, pos := "law.go:185", after := #[{ on := 10, ground := Ground.guard }], guard := some (10, false) }) (v := factV J) rfl (by kernel_rfl) (by kernel_rfl) (by kernel_rfl) (fun _ _ _ h => h) (Or.inl ⟨by rfl, fun wz hSw => sem_load_fact _ rfl (bg) rfl J (hSw.2.1)⟩) (by assumption) ?tr4y13
        simp only [Act.put, List.setIfInBounds_toArray, List.set_cons_zero, List.set_cons_succ]
        refine wpAnyH_ready (rs := [12]) (by kernel_rfl) (by simp) ?_
        refine AllReadyH.cons (o := { dst := some 65, op := Op.call { callee := Callee.value (Operand.func 18), args := #[Operand.tmp 64], argTypes := #[23] }, type := 9, pos := "law.go:185", after := #[{ on := 11, ground := Ground.data }, { on := 10, ground := Ground.chain }, { on := 10, ground := Ground.guard }], guard := some (10, false) }) rfl (fun K hK => ?_) AllReadyH.nil
        have HH := Lib.hid hHeld
        go_simp
        refine (HKf.out _ (HTW.out.below HH.out.2.2)).mono ?_; rintro e wz ⟨rfl, gz⟩
        have hz : wz.heap[W.heap.size]? = some (factObj G) ∧ wz.heap[bg]? = some (factObj J) ∧ Below W.heap.size W wz := ⟨box_below HH.out.1 gz, box_below HH.out.2.1 gz, below_step HH.out.2.2 gz⟩
        clear gz HH
        refine hK.out _ _ (hz) (fun hHeld' => ?_)
        clear hK K hHeld
        have hHeld := hHeld'; clear hHeld'
        try simp only [Act.put, List.setIfInBounds_toArray, List.set_cons_zero, List.set_cons_succ]
        refine wpAnyH_ready (rs := [14]) (by kernel_rfl) (by simp) ?_
        refine AllReadyH.cons (o := { dst := some 67, op := Op.call { callee := Callee.value (Operand.func 18), args := #[Operand.tmp 66], argTypes := #[23] }, type := 9, pos := "law.go:185", after := #[{ on := 13, ground := Ground.data }, { on := 12, ground := Ground.chain }, { on := 10, ground := Ground.guard }], guard := some (10, false) }) rfl (fun K hK => ?_) AllReadyH.nil
        have HH := Lib.hid hHeld
        go_simp
        refine (HKg.out _ (HTW.out.below HH.out.2.2)).mono ?_; rintro e wz ⟨rfl, gz⟩
        have hz : wz.heap[W.heap.size]? = some (factObj G) ∧ wz.heap[bg]? = some (factObj J) ∧ Below W.heap.size W wz := ⟨box_below HH.out.1 gz, box_below HH.out.2.1 gz, below_step HH.out.2.2 gz⟩
        clear gz HH
        refine hK.out _ _ (hz) (fun hHeld' => ?_)
        clear hK K hHeld
        have hHeld := hHeld'; clear hHeld'
        try simp only [Act.put, List.setIfInBounds_toArray, List.set_cons_zero, List.set_cons_succ]
        refine wpAnyH_take (i := 15) (oi := { dst := some 68, op := Op.binOp BinOp.eql 9 (Operand.tmp 65) (Operand.tmp 67) 9, type := 4, pos := "law.go:185", after := #[{ on := 12, ground := Ground.data }, { on := 14, ground := Ground.data }, { on := 10, ground := Ground.guard }], guard := some (10, false) }) (v := ?vr4y15) rfl (by kernel_rfl) (by kernel_rfl) (by kernel_rfl) (fun _ _ _ h => h) (Or.inl ⟨by rfl, ?yr4y15⟩) (by assumption) ?tr4y15
        case yr4y15 => (intro wz hSw; clear hSw; go_simp; try with_reducible rfl)
        simp only [Act.put, List.setIfInBounds_toArray, List.set_cons_zero, List.set_cons_succ]
        refine wpAnyH_take (i := 16) (oi := { dst := some 69, op := Op.pick (Operand.tmp 63) (Operand.const (Value.bool true)) (Operand.tmp 68), type := 4, pos := "law.go:185", after := #[{ on := 10, ground := Ground.data }, { on := 15, ground := Ground.data }, { on := 1, ground := Ground.guard }], guard := some (1, true) }) (v := ?vr4y16) rfl (by kernel_rfl) (by kernel_rfl) (by kernel_rfl) (fun _ _ _ h => h) (Or.inl ⟨by rfl, ?yr4y16⟩) (by assumption) ?tr4y16
        case yr4y16 => (intro wz hSw; clear hSw; go_simp; try with_reducible rfl)
        simp only [Act.put, List.setIfInBounds_toArray, List.set_cons_zero, List.set_cons_succ]
        refine wpAnyH_take (i := 17) (oi := { dst := some 70, op := Op.pick (Operand.tmp 54) (Operand.tmp 69) (Operand.const (Value.bool false)), type := 4, pos := "law.go:185", after := #[{ on := 1, ground := Ground.data }, { on := 16, ground := Ground.data }], guard := none }) (v := ?vr4y17) rfl (by kernel_rfl) (by kernel_rfl) (by kernel_rfl) (fun _ _ _ h => h) (Or.inl ⟨by rfl, ?yr4y17⟩) (by assumption) ?tr4y17
        case yr4y17 => (intro wz hSw; clear hSw; go_simp; try with_reducible rfl)
        simp only [Act.put, List.setIfInBounds_toArray, List.set_cons_zero, List.set_cons_succ]
        refine wpAnyH_take (i := 18) (oi := { dst := some 8, op := Op.assign (Operand.tmp 70), type := 4, pos := "law.go:185", after := #[{ on := 17, ground := Ground.data }, { on := 14, ground := Ground.chain }, { on := 0, ground := Ground.phase }, { on := 1, ground := Ground.phase }, { on := 2, ground := Ground.phase }, { on := 3, ground := Ground.phase }, { on := 4, ground := Ground.phase }, { on := 5, ground := Ground.phase }, { on := 6, ground := Ground.phase }, { on := 7, ground := Ground.phase }, { on := 8, ground := Ground.phase }, { on := 9, ground := Ground.phase }, { on := 10, ground := Ground.phase }, { on := 11, ground := Ground.phase }, { on := 12, ground := Ground.phase }, { on := 13, ground := Ground.phase }, { on := 14, ground := Ground.phase }, { on := 15, ground := Ground.phase }, { on := 16, ground := Ground.phase }, { on := 17, ground := Ground.phase }], guard := none }) (v := ?vr4y18) rfl (by kernel_rfl) (by kernel_rfl) (by kernel_rfl) (fun _ _ _ h => h) (Or.inl ⟨by rfl, ?yr4y18⟩) (by assumption) ?tr4y18
        case yr4y18 => (intro wz hSw; clear hSw; go_simp; try with_reducible rfl)
        simp only [Act.put, List.setIfInBounds_toArray, List.set_cons_zero, List.set_cons_succ]
        refine wpAnyH_done (by kernel_rfl) ?_ _
        have HFin := Lib.hid hHeld
        go_wp2_with fail
        go_ret
        exact ⟨rfl, HFin.out.2.2⟩
end Go.Proofs.YtnmjcjkjdbkpnaaDoor
