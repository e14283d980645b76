/-
  Contract of the reader's readLine (written by tools/l04_rline.py).
-/
import Derived.Test.YtcaclijkkbhfhaaGreatDoorKinds
namespace Go.Proofs.YtcaclijkkbhfhaaGreatDoor
open Go.RowKit Go.Shelf

/-- May a line with the first word z follow one with the first word l? -/
def mayFollow (z l : List UInt8) : Bool := if Fl.wMove = z then decide (l = []) else if Fl.wStep = z then decide (l = Fl.wMove) || decide (l = Fl.wStep) else if Fl.wWindow = z then decide (l = Fl.wStep) || decide (l = Fl.wWindow) else false
def readKind (z : List UInt8) (f : Fl.Flow) (r : Fl.Rest) : Option (Fl.Flow × Fl.Rest) := if Fl.wMove = z then Fl.readMove f r else if Fl.wStep = z then Fl.readStep f r else Fl.readWin f r
theorem readLine_eq (st : Fl.St) (l : List UInt8) : Fl.readLine st l = if mayFollow (Lib.cut l [32]).1 st.last = true then (readKind (Lib.cut l [32]).1 st.flow (tailR l)).bind fun p => if p.2 = none then some ⟨p.1, (Lib.cut l [32]).1⟩ else none else none := by
  unfold Fl.readLine
  rw [word_eq]
  simp only [wordOf, Option.bind_some]
  generalize (Lib.cut l [32]).1 = z
  unfold mayFollow readKind
  by_cases h1 : Fl.wMove = z
  · subst h1; rw [if_pos rfl, if_pos rfl, if_pos rfl]; by_cases h : st.last = [] <;> simp [h]
  · have h1' : ¬ z = Fl.wMove := fun e => h1 e.symm
    rw [if_neg h1, if_neg h1, if_neg h1']
    by_cases h2 : Fl.wStep = z
    · subst h2; rw [if_pos rfl, if_pos rfl, if_pos rfl]; by_cases h : st.last = Fl.wMove ∨ st.last = Fl.wStep <;> simp [h]
    · have h2' : ¬ z = Fl.wStep := fun e => h2 e.symm
      rw [if_neg h2, if_neg h2, if_neg h2']
      by_cases h3 : Fl.wWindow = z
      · subst h3; rw [if_pos rfl, if_pos rfl]; by_cases h : st.last = Fl.wStep ∨ st.last = Fl.wWindow <;> simp [h]
      · have h3' : ¬ z = Fl.wWindow := fun e => h3 e.symm
        rw [if_neg h3, if_neg h3']; simp
theorem bs_inj {x y : List UInt8} : bs x = bs y ↔ x = y := ⟨fun h => by have := congrArg (fun b => b.data.toList) h; simpa using this, fun h => by rw [h]⟩
theorem contains_one (x l : List UInt8) : Lib.containsS [bs x] (bs l) = decide (l = x) := by
  rw [Bool.eq_iff_iff, Lib.containsS_iff, decide_eq_true_eq, List.mem_singleton, bs_inj]
theorem contains_two (x y l : List UInt8) : Lib.containsS [bs x, bs y] (bs l) = (decide (l = x) || decide (l = y)) := by
  rw [Bool.eq_iff_iff, Lib.containsS_iff]; simp only [List.mem_cons, List.not_mem_nil, or_false, Bool.or_eq_true, decide_eq_true_eq, bs_inj]
theorem contains1 {b : Nat} {w : World} {x : List UInt8} (h : w.heap[b]? = some (.cells #[.string (bs x)] 9)) (l : List UInt8) :
    Calls Tryz.prog 83 #[.slice (some ⟨b, 0, none⟩) 1 1, .string (bs l)] w fun e w' => e = .returned (.bool (decide (l = x))) ∧ w = w' := by
  have := Tryz.slices_Contains_string b 0 1 1 [bs x] (bs l) w (by simp) (by decide) (fun j hj => by
    have : j = 0 := by simpa using hj
    subst this; exact box_cell h 0 _ rfl)
  rw [show List.take 1 [bs x] = [bs x] from rfl, contains_one] at this
  exact this.mono fun _ _ ⟨h1, h2⟩ => ⟨h1, h2.symm⟩
theorem contains2 {b : Nat} {w : World} {x y : List UInt8} (h : w.heap[b]? = some (.cells #[.string (bs x), .string (bs y)] 9)) (l : List UInt8) :
    Calls Tryz.prog 83 #[.slice (some ⟨b, 0, none⟩) 2 2, .string (bs l)] w fun e w' => e = .returned (.bool (decide (l = x) || decide (l = y))) ∧ w = w' := by
  have := Tryz.slices_Contains_string b 0 2 2 [bs x, bs y] (bs l) w (by simp) (by decide) (fun j hj => by
    have : j = 0 ∨ j = 1 := by simp at hj; omega
    rcases this with rfl | rfl
    · exact box_cell h 0 _ rfl
    · exact box_cell h 1 _ rfl)
  rw [show List.take 2 [bs x, bs y] = [bs x, bs y] from rfl, contains_two] at this
  exact this.mono fun _ _ ⟨h1, h2⟩ => ⟨h1, h2.symm⟩
/-- What readLine answers. -/
def LinePost (a : Addr) (B R : Nat) (c : Rd) (res : Option Fl.St) (w : World) (e : Ending) (w' : World) : Prop :=
  match res with
  | none => e = raised a ∧ Fr B R w w' ∧ ∃ c', RdAt w' R c' ∧ c'.line = c.line
  | some st => e = .returned (.tuple #[]) ∧ Fr B R w w' ∧ ∃ c' q', In a B R c' q' w' ∧ q'.f = st.flow ∧ c'.last = st.last ∧ c'.line = c.line

set_option maxRecDepth 100000 in
set_option maxHeartbeats 4000000 in
theorem readLine_any (a : Addr) (B R : Nat) (c : Rd) (q : FlowP) (l : List UInt8) (W : World) (h : In a B R c q W) (hl : l.length ≤ 1000000) :
    Calls Tryz.prog 62 #[.pointer (some ⟨R, 0, none⟩), .string (bs l)] W (LinePost a B R c (Fl.readLine ⟨q.f, c.last⟩ l) W) := by
  rw [readLine_eq]
  obtain ⟨z, hz⟩ : ∃ z, (Lib.cut l [32]).1 = z := ⟨_, rfl⟩
  obtain ⟨t, ht⟩ : ∃ t, tailR l = t := ⟨_, rfl⟩
  have hw : wordOf (some l) = some (z, t) := by rw [← hz, ← ht]; rfl
  rw [hz, ht]
  simp only
  obtain ⟨X, HX⟩ : ∃ X, Hid (X = if mayFollow z c.last = true then (readKind z q.f t).bind fun p => if p.2 = none then some (⟨p.1, z⟩ : Fl.St) else none else none) := ⟨_, Lib.hid rfl⟩
  rw [← HX.out]
  have I0 := Lib.hid h
  have HN := Lib.hid (fun w ht => require_no w a ht)
  have O1 := Lib.hid (((Only.refl R W).setCell 6 (.string (bs l))).setCell 7 (.bool true))
  have R1 : Hid (RdAt ((W.setCell ⟨R, 6, none⟩ (.string (bs l))).setCell ⟨R, 7, none⟩ (.bool true)) R { c with r := some l }) := Lib.hid (by
    unfold RdAt; rw [block_set (block_set h.ok.at_ _) _]; rfl)
  have I1 := Lib.hid (h.only O1.out R1.out hl rfl rfl rfl rfl)
  have x6 := h.ok.at_.cell 6 _ rfl; have x7 := h.ok.at_.cell 7 _ rfl
  have f6 := h.ok.at_.fz 6; have f7 := h.ok.at_.fz 7
  clear h hz ht hl R1
  go_enter Tryz.func62, Tryz.ntmps62
  go_wp2_with fail
  clear x6 x7 f6 f7
  generalize (W.setCell ⟨R, 6, none⟩ (.string (bs l))).setCell ⟨R, 7, none⟩ (.bool true) = w1 at *
  have HC := Lib.hid (word_yes I1.out hw); clear hw
  refine HC.out.mono ?_; rintro e w2 ⟨rfl, o2, i2⟩
  have I2 : Hid (In a B R { c with r := t } q w2) := Lib.hid i2
  have F2 := Lib.hid (Fr.only (O1.out.trans o2) I0.out.lt I0.out.holds.ge)
  clear o2 i2 HC O1 I1
  go_wp2_with fail
  have V2 : Hid ((w2.alloc (.cells #[.string (bs z)] 9)).heap[w2.heap.size]? = some (.cells #[.string (bs z)] 9)) := Lib.hid (heap_alloc_new _ _)
  have I3 := Lib.hid (I2.out.below (below_new w2 (.cells #[.string (bs z)] 9)))
  have F3 := Lib.hid (F2.out.trans (Fr.ofBelow (below_new w2 (.cells #[.string (bs z)] 9)) I2.out.lt))
  have HR3 := Lib.hid I2.out.ok.at_.lt
  clear I2 F2
  generalize w2.heap.size = V at *
  generalize w2.alloc (.cells #[.string (bs z)] 9) = w3 at *
  refine (kinds_any w3).mono ?_; rintro e w4 ⟨rfl, rfl⟩
  have K4 := Lib.hid (KindsAt.new w3)
  have I4 := Lib.hid (I3.out.below (kinds_below w3))
  have V4 := Lib.hid (((kinds_below w3).block V (lt_of_block V2.out)).trans V2.out)
  have F4 := Lib.hid (F3.out.trans (Fr.ofBelow (kinds_below w3) I3.out.lt))
  clear I3 F3 V2
  generalize w3.heap.size = T at *
  generalize kindsWorld w3 = w4 at *
  go_wp2_with fail
  refine (indexFunc_any T V z w4 K4.out (box_cell V4.out 0 _ rfl)).mono ?_; rintro e w5 ⟨rfl, g5⟩
  have K5 := Lib.hid (K4.out.below g5)
  have I5 := Lib.hid (I4.out.below g5)
  have V5 := Lib.hid ((g5.block V (lt_of_block V4.out)).trans V4.out)
  have F5 := Lib.hid (F4.out.trans (Fr.ofBelow g5 I4.out.lt))
  clear g5 I4 F4 V4 K4
  by_cases h0 : Fl.wMove = z
  · have hk : kindAt z = 0 := by unfold kindAt; rw [if_pos h0]
    obtain ⟨Mb, hM⟩ : ∃ Mb, decide (c.last = []) = Mb := ⟨_, rfl⟩
    have HM := Lib.hid (show mayFollow z c.last = Mb by unfold mayFollow; rw [if_pos h0]; exact hM)
    have HK := Lib.hid (show readKind z q.f t = Fl.readMove q.f t by unfold readKind; rw [if_pos h0])
    rw [hk]
    clear hk h0
    go_wp2_with fail
    have KD := Lib.hid (K5.out.below (Below.refl w5.heap.size w5).drew)
    have ID := Lib.hid (I5.out.below (Below.refl w5.heap.size w5).drew)
    have VD := Lib.hid (((Below.refl w5.heap.size w5).drew.block V (lt_of_block V5.out)).trans V5.out)
    have FD := Lib.hid (F5.out.trans (Fr.ofBelow (Below.refl w5.heap.size w5).drew I5.out.lt))
    have hcn := contains1 (KD.out.b0) c.last
    rw [hM] at hcn
    have HCN := Lib.hid hcn; clear hcn hM
    cases Mb
    · refine wp_region_held_drew (S := (fun v => v.cell? ⟨T + 3, 1, none⟩ = some (.slice (some ⟨T, 0, none⟩) 1 1) ∧ v.cell? ⟨R, 5, none⟩ = some (.string (bs c.last)))) (by kernel_rfl) (⟨box_cell KD.out.tb 1 _ rfl, ID.out.ok.at_.cell 5 _ rfl⟩) (fun hHeld => ?_)
      refine wpAnyH_take (i := 0) (oi := { dst := some 20, op := Op.move (Operand.tmp 6), type := 3, pos := "read.go:73", after := #[], guard := none }) (v := ?vk0f0) rfl (by kernel_rfl) (by kernel_rfl) (by kernel_rfl) (fun _ _ _ h => h) (Or.inl ⟨by rfl, ?yk0f0⟩) (by assumption) ?tk0f0
      case yk0f0 => (intro w hSw; obtain ⟨s1, s2⟩ := hSw); go_simp; try with_reducible rfl
      simp only [Act.put, List.setIfInBounds_toArray, List.set_cons_zero, List.set_cons_succ]
      refine wpAnyH_take (i := 1) (oi := { dst := some 21, op := Op.binOp BinOp.geq 3 (Operand.tmp 20) (Operand.const (Value.int IntKind.i64 0)) 3, type := 4, pos := "read.go:73", after := #[{ on := 0, ground := Ground.data }], guard := none }) (v := ?vk0f1) rfl (by kernel_rfl) (by kernel_rfl) (by kernel_rfl) (fun _ _ _ h => h) (Or.inl ⟨by rfl, ?yk0f1⟩) (by assumption) ?tk0f1
      case yk0f1 => (intro w hSw; obtain ⟨s1, s2⟩ := hSw); go_simp; try with_reducible rfl
      simp only [Act.put, List.setIfInBounds_toArray, List.set_cons_zero, List.set_cons_succ]
      refine wpAnyH_take (i := 2) (oi := { dst := some 22, op := Op.move (Operand.tmp 21), type := 4, pos := "read.go:73", after := #[{ on := 1, ground := Ground.data }], guard := none }) (v := ?vk0f2) rfl (by kernel_rfl) (by kernel_rfl) (by kernel_rfl) (fun _ _ _ h => h) (Or.inl ⟨by rfl, ?yk0f2⟩) (by assumption) ?tk0f2
      case yk0f2 => (intro w hSw; obtain ⟨s1, s2⟩ := hSw); go_simp; try with_reducible rfl
      simp only [Act.put, List.setIfInBounds_toArray, List.set_cons_zero, List.set_cons_succ]
      refine wpAnyH_take (i := 3) (oi := { dst := some 23, op := Op.move (Operand.tmp 5), type := 112, pos := "read.go:73", after := #[{ on := 2, ground := Ground.guard }], guard := some (2, true) }) (v := ?vk0f3) rfl (by kernel_rfl) (by kernel_rfl) (by kernel_rfl) (fun _ _ _ h => h) (Or.inl ⟨by rfl, ?yk0f3⟩) (by assumption) ?tk0f3
      case yk0f3 => (intro w hSw; obtain ⟨s1, s2⟩ := hSw); go_simp; try with_reducible rfl
      simp only [Act.put, List.setIfInBounds_toArray, List.set_cons_zero, List.set_cons_succ]
      refine wpAnyH_take (i := 4) (oi := { dst := some 24, op := Op.move (Operand.tmp 6), type := 3, pos := "read.go:73", after := #[{ on := 2, ground := Ground.guard }], guard := some (2, true) }) (v := ?vk0f4) rfl (by kernel_rfl) (by kernel_rfl) (by kernel_rfl) (fun _ _ _ h => h) (Or.inl ⟨by rfl, ?yk0f4⟩) (by assumption) ?tk0f4
      case yk0f4 => (intro w hSw; obtain ⟨s1, s2⟩ := hSw); go_simp; try with_reducible rfl
      simp only [Act.put, List.setIfInBounds_toArray, List.set_cons_zero, List.set_cons_succ]
      refine wpAnyH_take (i := 5) (oi := { dst := some 25, op := Op.indexAddr 112 (Operand.tmp 23) (Operand.tmp 24), type := 0, pos := "read.go:73", after := #[{ on := 3, ground := Ground.data }, { on := 4, ground := Ground.data }, { on := 2, ground := Ground.guard }], guard := some (2, true) }) (v := ?vk0f5) rfl (by kernel_rfl) (by kernel_rfl) (by kernel_rfl) (fun _ _ _ h => h) (Or.inl ⟨by rfl, ?yk0f5⟩) (by assumption) ?tk0f5
      case yk0f5 => (intro w hSw; obtain ⟨s1, s2⟩ := hSw); go_simp; try with_reducible rfl
      simp only [Act.put, List.setIfInBounds_toArray, List.set_cons_zero, List.set_cons_succ]
      refine wpAnyH_take (i := 6) (oi := { dst := some 26, op := Op.fieldAddr 117 (Operand.tmp 25) 1, type := 0, pos := "read.go:73", after := #[{ on := 5, ground := Ground.data }, { on := 2, ground := Ground.guard }], guard := some (2, true) }) (v := ?vk0f6) rfl (by kernel_rfl) (by kernel_rfl) (by kernel_rfl) (fun _ _ _ h => h) (Or.inl ⟨by rfl, ?yk0f6⟩) (by assumption) ?tk0f6
      case yk0f6 => (intro w hSw; obtain ⟨s1, s2⟩ := hSw); go_simp; try with_reducible rfl
      simp only [Act.put, List.setIfInBounds_toArray, List.set_cons_zero, List.set_cons_succ]
      refine wpAnyH_take (i := 7) (oi := { dst := some 27, op := Op.load 40 (Operand.tmp 26), type := 40, pos := "read.go:73", after := #[{ on := 6, ground := Ground.data }, { on := 2, ground := Ground.guard }], guard := some (2, true) }) (v := ?vk0f7) rfl (by kernel_rfl) (by kernel_rfl) (by kernel_rfl) (fun _ _ _ h => h) (Or.inl ⟨by rfl, ?yk0f7⟩) (by assumption) ?tk0f7
      case yk0f7 => (intro w hSw; obtain ⟨s1, s2⟩ := hSw); go_simp; try with_reducible rfl
      simp only [Act.put, List.setIfInBounds_toArray, List.set_cons_zero, List.set_cons_succ]
      refine wpAnyH_take (i := 8) (oi := { dst := some 28, op := Op.move (Operand.tmp 0), type := 74, pos := "read.go:73", after := #[{ on := 2, ground := Ground.guard }], guard := some (2, true) }) (v := ?vk0f8) rfl (by kernel_rfl) (by kernel_rfl) (by kernel_rfl) (fun _ _ _ h => h) (Or.inl ⟨by rfl, ?yk0f8⟩) (by assumption) ?tk0f8
      case yk0f8 => (intro w hSw; obtain ⟨s1, s2⟩ := hSw); go_simp; try with_reducible rfl
      simp only [Act.put, List.setIfInBounds_toArray, List.set_cons_zero, List.set_cons_succ]
      refine wpAnyH_take (i := 9) (oi := { dst := some 29, op := Op.nilCheck (Operand.tmp 28), type := 0, pos := "read.go:73", after := #[{ on := 8, ground := Ground.data }, { on := 2, ground := Ground.guard }], guard := some (2, true) }) (v := ?vk0f9) rfl (by kernel_rfl) (by kernel_rfl) (by kernel_rfl) (fun _ _ _ h => h) (Or.inl ⟨by rfl, ?yk0f9⟩) (by assumption) ?tk0f9
      case yk0f9 => (intro w hSw; obtain ⟨s1, s2⟩ := hSw); go_simp; try with_reducible rfl
      simp only [Act.put, List.setIfInBounds_toArray, List.set_cons_zero, List.set_cons_succ]
      refine wpAnyH_take (i := 10) (oi := { dst := some 30, op := Op.fieldAddr 76 (Operand.tmp 29) 2, type := 0, pos := "read.go:73", after := #[{ on := 9, ground := Ground.data }, { on := 2, ground := Ground.guard }], guard := some (2, true) }) (v := ?vk0f10) rfl (by kernel_rfl) (by kernel_rfl) (by kernel_rfl) (fun _ _ _ h => h) (Or.inl ⟨by rfl, ?yk0f10⟩) (by assumption) ?tk0f10
      case yk0f10 => (intro w hSw; obtain ⟨s1, s2⟩ := hSw); go_simp; try with_reducible rfl
      simp only [Act.put, List.setIfInBounds_toArray, List.set_cons_zero, List.set_cons_succ]
      refine wpAnyH_take (i := 11) (oi := { dst := some 31, op := Op.load 9 (Operand.tmp 30), type := 9, pos := "read.go:73", after := #[{ on := 10, ground := Ground.data }, { on := 2, ground := Ground.guard }], guard := some (2, true) }) (v := ?vk0f11) rfl (by kernel_rfl) (by kernel_rfl) (by kernel_rfl) (fun _ _ _ h => h) (Or.inl ⟨by rfl, ?yk0f11⟩) (by assumption) ?tk0f11
      case yk0f11 => (intro w hSw; obtain ⟨s1, s2⟩ := hSw); go_simp; try with_reducible rfl
      simp only [Act.put, List.setIfInBounds_toArray, List.set_cons_zero, List.set_cons_succ]
      refine wpAnyH_ready (rs := [12]) (by kernel_rfl) (by simp) ?_
      refine AllReadyH.cons (o := { dst := some 32, op := Op.call { callee := Callee.value (Operand.func 83), args := #[Operand.tmp 27, Operand.tmp 31], argTypes := #[40, 9] }, type := 4, pos := "read.go:73", after := #[{ on := 7, ground := Ground.data }, { on := 11, ground := Ground.data }, { on := 2, ground := Ground.chain }, { on := 2, ground := Ground.guard }], guard := some (2, true) }) rfl (fun K hK => ?_) AllReadyH.nil
      go_simp
      refine HCN.out.mono ?_; rintro e w6 ⟨rfl, rfl⟩
      refine hK.out _ _ (hHeld) (fun hHeld' => ?_)
      clear hK K hHeld
      have hHeld := hHeld'; clear hHeld'
      try simp only [Act.put, List.setIfInBounds_toArray, List.set_cons_zero, List.set_cons_succ]
      refine wpAnyH_take (i := 13) (oi := { dst := some 33, op := Op.pick (Operand.tmp 22) (Operand.tmp 32) (Operand.const (Value.bool false)), type := 4, pos := "read.go:73", after := #[{ on := 2, ground := Ground.data }, { on := 12, ground := Ground.data }], guard := none }) (v := ?vk0f13) rfl (by kernel_rfl) (by kernel_rfl) (by kernel_rfl) (fun _ _ _ h => h) (Or.inl ⟨by rfl, ?yk0f13⟩) (by assumption) ?tk0f13
      case yk0f13 => (intro w hSw; obtain ⟨s1, s2⟩ := hSw); go_simp; try with_reducible rfl
      simp only [Act.put, List.setIfInBounds_toArray, List.set_cons_zero, List.set_cons_succ]
      refine wpAnyH_ready (rs := [14]) (by kernel_rfl) (by simp) ?_
      refine AllReadyH.cons (o := { dst := some 34, op := Op.call { callee := Callee.value (Operand.func 63), args := #[Operand.tmp 33], argTypes := #[4] }, type := 0, pos := "read.go:73", after := #[{ on := 13, ground := Ground.data }, { on := 12, ground := Ground.chain }], guard := none }) rfl (fun K hK => ?_) AllReadyH.nil
      go_simp
      refine (HN.out _ ID.out.ok.tab).mono ?_; rintro e w6 ⟨rfl, rfl⟩
      have hX : X = none := by rw [HX.out, HM.out]; rfl
      exact ⟨rfl, by rw [hX]; exact ⟨rfl, FD.out, _, ID.out.ok.at_, rfl⟩⟩
    · refine wp_region_held_drew (S := (fun v => v.cell? ⟨T + 3, 1, none⟩ = some (.slice (some ⟨T, 0, none⟩) 1 1) ∧ v.cell? ⟨R, 5, none⟩ = some (.string (bs c.last)))) (by kernel_rfl) (⟨box_cell KD.out.tb 1 _ rfl, ID.out.ok.at_.cell 5 _ rfl⟩) (fun hHeld => ?_)
      refine wpAnyH_take (i := 0) (oi := { dst := some 20, op := Op.move (Operand.tmp 6), type := 3, pos := "read.go:73", after := #[], guard := none }) (v := ?vk0t0) rfl (by kernel_rfl) (by kernel_rfl) (by kernel_rfl) (fun _ _ _ h => h) (Or.inl ⟨by rfl, ?yk0t0⟩) (by assumption) ?tk0t0
      case yk0t0 => (intro w hSw; obtain ⟨s1, s2⟩ := hSw); go_simp; try with_reducible rfl
      simp only [Act.put, List.setIfInBounds_toArray, List.set_cons_zero, List.set_cons_succ]
      refine wpAnyH_take (i := 1) (oi := { dst := some 21, op := Op.binOp BinOp.geq 3 (Operand.tmp 20) (Operand.const (Value.int IntKind.i64 0)) 3, type := 4, pos := "read.go:73", after := #[{ on := 0, ground := Ground.data }], guard := none }) (v := ?vk0t1) rfl (by kernel_rfl) (by kernel_rfl) (by kernel_rfl) (fun _ _ _ h => h) (Or.inl ⟨by rfl, ?yk0t1⟩) (by assumption) ?tk0t1
      case yk0t1 => (intro w hSw; obtain ⟨s1, s2⟩ := hSw); go_simp; try with_reducible rfl
      simp only [Act.put, List.setIfInBounds_toArray, List.set_cons_zero, List.set_cons_succ]
      refine wpAnyH_take (i := 2) (oi := { dst := some 22, op := Op.move (Operand.tmp 21), type := 4, pos := "read.go:73", after := #[{ on := 1, ground := Ground.data }], guard := none }) (v := ?vk0t2) rfl (by kernel_rfl) (by kernel_rfl) (by kernel_rfl) (fun _ _ _ h => h) (Or.inl ⟨by rfl, ?yk0t2⟩) (by assumption) ?tk0t2
      case yk0t2 => (intro w hSw; obtain ⟨s1, s2⟩ := hSw); go_simp; try with_reducible rfl
      simp only [Act.put, List.setIfInBounds_toArray, List.set_cons_zero, List.set_cons_succ]
      refine wpAnyH_take (i := 3) (oi := { dst := some 23, op := Op.move (Operand.tmp 5), type := 112, pos := "read.go:73", after := #[{ on := 2, ground := Ground.guard }], guard := some (2, true) }) (v := ?vk0t3) rfl (by kernel_rfl) (by kernel_rfl) (by kernel_rfl) (fun _ _ _ h => h) (Or.inl ⟨by rfl, ?yk0t3⟩) (by assumption) ?tk0t3
      case yk0t3 => (intro w hSw; obtain ⟨s1, s2⟩ := hSw); go_simp; try with_reducible rfl
      simp only [Act.put, List.setIfInBounds_toArray, List.set_cons_zero, List.set_cons_succ]
      refine wpAnyH_take (i := 4) (oi := { dst := some 24, op := Op.move (Operand.tmp 6), type := 3, pos := "read.go:73", after := #[{ on := 2, ground := Ground.guard }], guard := some (2, true) }) (v := ?vk0t4) rfl (by kernel_rfl) (by kernel_rfl) (by kernel_rfl) (fun _ _ _ h => h) (Or.inl ⟨by rfl, ?yk0t4⟩) (by assumption) ?tk0t4
      case yk0t4 => (intro w hSw; obtain ⟨s1, s2⟩ := hSw); go_simp; try with_reducible rfl
      simp only [Act.put, List.setIfInBounds_toArray, List.set_cons_zero, List.set_cons_succ]
      refine wpAnyH_take (i := 5) (oi := { dst := some 25, op := Op.indexAddr 112 (Operand.tmp 23) (Operand.tmp 24), type := 0, pos := "read.go:73", after := #[{ on := 3, ground := Ground.data }, { on := 4, ground := Ground.data }, { on := 2, ground := Ground.guard }], guard := some (2, true) }) (v := ?vk0t5) rfl (by kernel_rfl) (by kernel_rfl) (by kernel_rfl) (fun _ _ _ h => h) (Or.inl ⟨by rfl, ?yk0t5⟩) (by assumption) ?tk0t5
      case yk0t5 => (intro w hSw; obtain ⟨s1, s2⟩ := hSw); go_simp; try with_reducible rfl
      simp only [Act.put, List.setIfInBounds_toArray, List.set_cons_zero, List.set_cons_succ]
      refine wpAnyH_take (i := 6) (oi := { dst := some 26, op := Op.fieldAddr 117 (Operand.tmp 25) 1, type := 0, pos := "read.go:73", after := #[{ on := 5, ground := Ground.data }, { on := 2, ground := Ground.guard }], guard := some (2, true) }) (v := ?vk0t6) rfl (by kernel_rfl) (by kernel_rfl) (by kernel_rfl) (fun _ _ _ h => h) (Or.inl ⟨by rfl, ?yk0t6⟩) (by assumption) ?tk0t6
      case yk0t6 => (intro w hSw; obtain ⟨s1, s2⟩ := hSw); go_simp; try with_reducible rfl
      simp only [Act.put, List.setIfInBounds_toArray, List.set_cons_zero, List.set_cons_succ]
      refine wpAnyH_take (i := 7) (oi := { dst := some 27, op := Op.load 40 (Operand.tmp 26), type := 40, pos := "read.go:73", after := #[{ on := 6, ground := Ground.data }, { on := 2, ground := Ground.guard }], guard := some (2, true) }) (v := ?vk0t7) rfl (by kernel_rfl) (by kernel_rfl) (by kernel_rfl) (fun _ _ _ h => h) (Or.inl ⟨by rfl, ?yk0t7⟩) (by assumption) ?tk0t7
      case yk0t7 => (intro w hSw; obtain ⟨s1, s2⟩ := hSw); go_simp; try with_reducible rfl
      simp only [Act.put, List.setIfInBounds_toArray, List.set_cons_zero, List.set_cons_succ]
      refine wpAnyH_take (i := 8) (oi := { dst := some 28, op := Op.move (Operand.tmp 0), type := 74, pos := "read.go:73", after := #[{ on := 2, ground := Ground.guard }], guard := some (2, true) }) (v := ?vk0t8) rfl (by kernel_rfl) (by kernel_rfl) (by kernel_rfl) (fun _ _ _ h => h) (Or.inl ⟨by rfl, ?yk0t8⟩) (by assumption) ?tk0t8
      case yk0t8 => (intro w hSw; obtain ⟨s1, s2⟩ := hSw); go_simp; try with_reducible rfl
      simp only [Act.put, List.setIfInBounds_toArray, List.set_cons_zero, List.set_cons_succ]
      refine wpAnyH_take (i := 9) (oi := { dst := some 29, op := Op.nilCheck (Operand.tmp 28), type := 0, pos := "read.go:73", after := #[{ on := 8, ground := Ground.data }, { on := 2, ground := Ground.guard }], guard := some (2, true) }) (v := ?vk0t9) rfl (by kernel_rfl) (by kernel_rfl) (by kernel_rfl) (fun _ _ _ h => h) (Or.inl ⟨by rfl, ?yk0t9⟩) (by assumption) ?tk0t9
      case yk0t9 => (intro w hSw; obtain ⟨s1, s2⟩ := hSw); go_simp; try with_reducible rfl
      simp only [Act.put, List.setIfInBounds_toArray, List.set_cons_zero, List.set_cons_succ]
      refine wpAnyH_take (i := 10) (oi := { dst := some 30, op := Op.fieldAddr 76 (Operand.tmp 29) 2, type := 0, pos := "read.go:73", after := #[{ on := 9, ground := Ground.data }, { on := 2, ground := Ground.guard }], guard := some (2, true) }) (v := ?vk0t10) rfl (by kernel_rfl) (by kernel_rfl) (by kernel_rfl) (fun _ _ _ h => h) (Or.inl ⟨by rfl, ?yk0t10⟩) (by assumption) ?tk0t10
      case yk0t10 => (intro w hSw; obtain ⟨s1, s2⟩ := hSw); go_simp; try with_reducible rfl
      simp only [Act.put, List.setIfInBounds_toArray, List.set_cons_zero, List.set_cons_succ]
      refine wpAnyH_take (i := 11) (oi := { dst := some 31, op := Op.load 9 (Operand.tmp 30), type := 9, pos := "read.go:73", after := #[{ on := 10, ground := Ground.data }, { on := 2, ground := Ground.guard }], guard := some (2, true) }) (v := ?vk0t11) rfl (by kernel_rfl) (by kernel_rfl) (by kernel_rfl) (fun _ _ _ h => h) (Or.inl ⟨by rfl, ?yk0t11⟩) (by assumption) ?tk0t11
      case yk0t11 => (intro w hSw; obtain ⟨s1, s2⟩ := hSw); go_simp; try with_reducible rfl
      simp only [Act.put, List.setIfInBounds_toArray, List.set_cons_zero, List.set_cons_succ]
      refine wpAnyH_ready (rs := [12]) (by kernel_rfl) (by simp) ?_
      refine AllReadyH.cons (o := { dst := some 32, op := Op.call { callee := Callee.value (Operand.func 83), args := #[Operand.tmp 27, Operand.tmp 31], argTypes := #[40, 9] }, type := 4, pos := "read.go:73", after := #[{ on := 7, ground := Ground.data }, { on := 11, ground := Ground.data }, { on := 2, ground := Ground.chain }, { on := 2, ground := Ground.guard }], guard := some (2, true) }) rfl (fun K hK => ?_) AllReadyH.nil
      go_simp
      refine HCN.out.mono ?_; rintro e w6 ⟨rfl, rfl⟩
      refine hK.out _ _ (hHeld) (fun hHeld' => ?_)
      clear hK K hHeld
      have hHeld := hHeld'; clear hHeld'
      try simp only [Act.put, List.setIfInBounds_toArray, List.set_cons_zero, List.set_cons_succ]
      refine wpAnyH_take (i := 13) (oi := { dst := some 33, op := Op.pick (Operand.tmp 22) (Operand.tmp 32) (Operand.const (Value.bool false)), type := 4, pos := "read.go:73", after := #[{ on := 2, ground := Ground.data }, { on := 12, ground := Ground.data }], guard := none }) (v := ?vk0t13) rfl (by kernel_rfl) (by kernel_rfl) (by kernel_rfl) (fun _ _ _ h => h) (Or.inl ⟨by rfl, ?yk0t13⟩) (by assumption) ?tk0t13
      case yk0t13 => (intro w hSw; obtain ⟨s1, s2⟩ := hSw); go_simp; try with_reducible rfl
      simp only [Act.put, List.setIfInBounds_toArray, List.set_cons_zero, List.set_cons_succ]
      refine wpAnyH_ready (rs := [14]) (by kernel_rfl) (by simp) ?_
      refine AllReadyH.cons (o := { dst := some 34, op := Op.call { callee := Callee.value (Operand.func 63), args := #[Operand.tmp 33], argTypes := #[4] }, type := 0, pos := "read.go:73", after := #[{ on := 13, ground := Ground.data }, { on := 12, ground := Ground.chain }], guard := none }) rfl (fun K hK => ?_) AllReadyH.nil
      go_simp
      refine (require_yes _).mono ?_; rintro e w6 ⟨rfl, rfl⟩
      refine hK.out _ _ (hHeld) (fun hHeld' => ?_)
      clear hK K hHeld
      have hHeld := hHeld'; clear hHeld'
      try simp only [Act.put, List.setIfInBounds_toArray, List.set_cons_zero, List.set_cons_succ]
      refine wpAnyH_done (by kernel_rfl) ?_ _
      have kf := box_cell KD.out.tb 2 _ rfl
      clear hHeld HCN
      generalize w5.drew = w6 at *
      go_wp2_with fail
      clear kf
      have HRD := Lib.hid (readMove_any a B R _ q w6 ID.out)
      have HX := Lib.hid (show X = (Fl.readMove q.f t).bind fun p => if p.2 = none then some (⟨p.1, z⟩ : Fl.St) else none by rw [HX.out, HM.out, if_pos rfl, HK.out])
      rcases hr : Fl.readMove q.f t with _ | ⟨f1, r1⟩
      · have HRD2 : Hid (Calls Tryz.prog 91 #[.pointer (some ⟨R, 0, none⟩)] w6 (RdPost a B R { c with r := t } none w6)) := by have h0 := HRD.out; simp only at h0; rw [hr] at h0; exact Lib.hid h0
        rw [hr] at HX
        clear HRD hr
        refine HRD2.out.mono ?_; rintro e w7 ⟨rfl, f7, c7, r7, l7⟩
        go_wp2_with fail
        exact ⟨rfl, by rw [HX.out]; exact ⟨rfl, FD.out.trans f7, c7, r7, l7⟩⟩
      · have HRD2 : Hid (Calls Tryz.prog 91 #[.pointer (some ⟨R, 0, none⟩)] w6 (RdPost a B R { c with r := t } (some (f1, r1)) w6)) := by have h0 := HRD.out; simp only at h0; rw [hr] at h0; exact Lib.hid h0
        rw [hr] at HX
        clear HRD hr
        refine HRD2.out.mono ?_; rintro e w7 ⟨rfl, f7, c7, q7, i7, rfl, rfl, l7, a7⟩
        have I7 := Lib.hid i7; have F7 := Lib.hid (FD.out.trans f7); have L7 := Lib.hid l7
        have V7 : Hid (w7.heap[V]? = some (.cells #[.string (bs z)] 9)) := Lib.hid (f7.rest V _ (by have := HR3.out; omega) VD.out (fun cs => ⟨by intro e0; injection e0 with _ e1; exact absurd e1 (by decide), by intro e0; injection e0 with _ e1; exact absurd e1 (by decide)⟩))
        clear i7 f7 l7 a7 HRD2
        simp only [Option.bind_some] at HX
        rcases hr : c7.r with _ | s7
        · have m7 : w7.cell? ⟨R, 7, none⟩ = some (.bool false) := I7.out.ok.at_.cell 7 (.bool false) (by rw [rdCells, hr]; rfl)
          have HX := Lib.hid (show X = some (⟨q7.f, z⟩ : Fl.St) by rw [HX.out, if_pos hr])
          have v7 := box_cell V7.out 0 _ rfl
          have x5 := I7.out.ok.at_.cell 5 _ rfl; have f5 := I7.out.ok.at_.fz 5
          have HS7 : Hid (In a B R { c7 with last := z } q7 (w7.setCell ⟨R, 5, none⟩ (.string (bs z)))) := Lib.hid (I7.out.only (c' := { c7 with last := z }) ((Only.refl R w7).setCell 5 _) (I7.out.ok.at_.set 5 _ rfl) (by have := I7.out.ok.len; exact this) rfl rfl rfl rfl)
          have HF7 := Lib.hid (F7.out.trans (Fr.only ((Only.refl R w7).setCell 5 (.string (bs z))) I7.out.lt I7.out.holds.ge))
          clear hr
          go_wp2_with fail
          refine (require_yes _).mono ?_; rintro e w8 ⟨rfl, rfl⟩
          go_wp2_with fail
          go_end0
          unfold LinePost
          rw [HX.out]
          exact ⟨rfl, HF7.out, _, _, HS7.out, rfl, rfl, L7.out⟩
        · have m7 : w7.cell? ⟨R, 7, none⟩ = some (.bool true) := I7.out.ok.at_.cell 7 (.bool true) (by rw [rdCells, hr]; rfl)
          have HX := Lib.hid (show X = none by rw [HX.out, if_neg (by rw [hr]; exact fun e => by cases e)])
          clear hr
          go_wp2_with fail
          refine (HN.out _ I7.out.ok.tab).mono ?_; rintro e w8 ⟨rfl, rfl⟩
          go_wp2_with fail
          exact ⟨rfl, by rw [HX.out]; exact ⟨rfl, F7.out, _, I7.out.ok.at_, L7.out⟩⟩
  · skip
    by_cases h1 : Fl.wStep = z
    · have hk : kindAt z = 1 := by unfold kindAt; rw [if_neg h0, if_pos h1]
      obtain ⟨Mb, hM⟩ : ∃ Mb, (decide (c.last = Fl.wMove) || decide (c.last = Fl.wStep)) = Mb := ⟨_, rfl⟩
      have HM := Lib.hid (show mayFollow z c.last = Mb by unfold mayFollow; rw [if_neg h0, if_pos h1]; exact hM)
      have HK := Lib.hid (show readKind z q.f t = Fl.readStep q.f t by unfold readKind; rw [if_neg h0, if_pos h1])
      rw [hk]
      clear hk h0 h1
      go_wp2_with fail
      have KD := Lib.hid (K5.out.below (Below.refl w5.heap.size w5).drew)
      have ID := Lib.hid (I5.out.below (Below.refl w5.heap.size w5).drew)
      have VD := Lib.hid (((Below.refl w5.heap.size w5).drew.block V (lt_of_block V5.out)).trans V5.out)
      have FD := Lib.hid (F5.out.trans (Fr.ofBelow (Below.refl w5.heap.size w5).drew I5.out.lt))
      have hcn := contains2 (KD.out.b1) c.last
      rw [hM] at hcn
      have HCN := Lib.hid hcn; clear hcn hM
      cases Mb
      · refine wp_region_held_drew (S := (fun v => v.cell? ⟨T + 3, 4, none⟩ = some (.slice (some ⟨T + 1, 0, none⟩) 2 2) ∧ v.cell? ⟨R, 5, none⟩ = some (.string (bs c.last)))) (by kernel_rfl) (⟨box_cell KD.out.tb 4 _ rfl, ID.out.ok.at_.cell 5 _ rfl⟩) (fun hHeld => ?_)
        refine wpAnyH_take (i := 0) (oi := { dst := some 20, op := Op.move (Operand.tmp 6), type := 3, pos := "read.go:73", after := #[], guard := none }) (v := ?vk1f0) rfl (by kernel_rfl) (by kernel_rfl) (by kernel_rfl) (fun _ _ _ h => h) (Or.inl ⟨by rfl, ?yk1f0⟩) (by assumption) ?tk1f0
        case yk1f0 => (intro w hSw; obtain ⟨s1, s2⟩ := hSw); go_simp; try with_reducible rfl
        simp only [Act.put, List.setIfInBounds_toArray, List.set_cons_zero, List.set_cons_succ]
        refine wpAnyH_take (i := 1) (oi := { dst := some 21, op := Op.binOp BinOp.geq 3 (Operand.tmp 20) (Operand.const (Value.int IntKind.i64 0)) 3, type := 4, pos := "read.go:73", after := #[{ on := 0, ground := Ground.data }], guard := none }) (v := ?vk1f1) rfl (by kernel_rfl) (by kernel_rfl) (by kernel_rfl) (fun _ _ _ h => h) (Or.inl ⟨by rfl, ?yk1f1⟩) (by assumption) ?tk1f1
        case yk1f1 => (intro w hSw; obtain ⟨s1, s2⟩ := hSw); go_simp; try with_reducible rfl
        simp only [Act.put, List.setIfInBounds_toArray, List.set_cons_zero, List.set_cons_succ]
        refine wpAnyH_take (i := 2) (oi := { dst := some 22, op := Op.move (Operand.tmp 21), type := 4, pos := "read.go:73", after := #[{ on := 1, ground := Ground.data }], guard := none }) (v := ?vk1f2) rfl (by kernel_rfl) (by kernel_rfl) (by kernel_rfl) (fun _ _ _ h => h) (Or.inl ⟨by rfl, ?yk1f2⟩) (by assumption) ?tk1f2
        case yk1f2 => (intro w hSw; obtain ⟨s1, s2⟩ := hSw); go_simp; try with_reducible rfl
        simp only [Act.put, List.setIfInBounds_toArray, List.set_cons_zero, List.set_cons_succ]
        refine wpAnyH_take (i := 3) (oi := { dst := some 23, op := Op.move (Operand.tmp 5), type := 112, pos := "read.go:73", after := #[{ on := 2, ground := Ground.guard }], guard := some (2, true) }) (v := ?vk1f3) rfl (by kernel_rfl) (by kernel_rfl) (by kernel_rfl) (fun _ _ _ h => h) (Or.inl ⟨by rfl, ?yk1f3⟩) (by assumption) ?tk1f3
        case yk1f3 => (intro w hSw; obtain ⟨s1, s2⟩ := hSw); go_simp; try with_reducible rfl
        simp only [Act.put, List.setIfInBounds_toArray, List.set_cons_zero, List.set_cons_succ]
        refine wpAnyH_take (i := 4) (oi := { dst := some 24, op := Op.move (Operand.tmp 6), type := 3, pos := "read.go:73", after := #[{ on := 2, ground := Ground.guard }], guard := some (2, true) }) (v := ?vk1f4) rfl (by kernel_rfl) (by kernel_rfl) (by kernel_rfl) (fun _ _ _ h => h) (Or.inl ⟨by rfl, ?yk1f4⟩) (by assumption) ?tk1f4
        case yk1f4 => (intro w hSw; obtain ⟨s1, s2⟩ := hSw); go_simp; try with_reducible rfl
        simp only [Act.put, List.setIfInBounds_toArray, List.set_cons_zero, List.set_cons_succ]
        refine wpAnyH_take (i := 5) (oi := { dst := some 25, op := Op.indexAddr 112 (Operand.tmp 23) (Operand.tmp 24), type := 0, pos := "read.go:73", after := #[{ on := 3, ground := Ground.data }, { on := 4, ground := Ground.data }, { on := 2, ground := Ground.guard }], guard := some (2, true) }) (v := ?vk1f5) rfl (by kernel_rfl) (by kernel_rfl) (by kernel_rfl) (fun _ _ _ h => h) (Or.inl ⟨by rfl, ?yk1f5⟩) (by assumption) ?tk1f5
        case yk1f5 => (intro w hSw; obtain ⟨s1, s2⟩ := hSw); go_simp; try with_reducible rfl
        simp only [Act.put, List.setIfInBounds_toArray, List.set_cons_zero, List.set_cons_succ]
        refine wpAnyH_take (i := 6) (oi := { dst := some 26, op := Op.fieldAddr 117 (Operand.tmp 25) 1, type := 0, pos := "read.go:73", after := #[{ on := 5, ground := Ground.data }, { on := 2, ground := Ground.guard }], guard := some (2, true) }) (v := ?vk1f6) rfl (by kernel_rfl) (by kernel_rfl) (by kernel_rfl) (fun _ _ _ h => h) (Or.inl ⟨by rfl, ?yk1f6⟩) (by assumption) ?tk1f6
        case yk1f6 => (intro w hSw; obtain ⟨s1, s2⟩ := hSw); go_simp; try with_reducible rfl
        simp only [Act.put, List.setIfInBounds_toArray, List.set_cons_zero, List.set_cons_succ]
        refine wpAnyH_take (i := 7) (oi := { dst := some 27, op := Op.load 40 (Operand.tmp 26), type := 40, pos := "read.go:73", after := #[{ on := 6, ground := Ground.data }, { on := 2, ground := Ground.guard }], guard := some (2, true) }) (v := ?vk1f7) rfl (by kernel_rfl) (by kernel_rfl) (by kernel_rfl) (fun _ _ _ h => h) (Or.inl ⟨by rfl, ?yk1f7⟩) (by assumption) ?tk1f7
        case yk1f7 => (intro w hSw; obtain ⟨s1, s2⟩ := hSw); go_simp; try with_reducible rfl
        simp only [Act.put, List.setIfInBounds_toArray, List.set_cons_zero, List.set_cons_succ]
        refine wpAnyH_take (i := 8) (oi := { dst := some 28, op := Op.move (Operand.tmp 0), type := 74, pos := "read.go:73", after := #[{ on := 2, ground := Ground.guard }], guard := some (2, true) }) (v := ?vk1f8) rfl (by kernel_rfl) (by kernel_rfl) (by kernel_rfl) (fun _ _ _ h => h) (Or.inl ⟨by rfl, ?yk1f8⟩) (by assumption) ?tk1f8
        case yk1f8 => (intro w hSw; obtain ⟨s1, s2⟩ := hSw); go_simp; try with_reducible rfl
        simp only [Act.put, List.setIfInBounds_toArray, List.set_cons_zero, List.set_cons_succ]
        refine wpAnyH_take (i := 9) (oi := { dst := some 29, op := Op.nilCheck (Operand.tmp 28), type := 0, pos := "read.go:73", after := #[{ on := 8, ground := Ground.data }, { on := 2, ground := Ground.guard }], guard := some (2, true) }) (v := ?vk1f9) rfl (by kernel_rfl) (by kernel_rfl) (by kernel_rfl) (fun _ _ _ h => h) (Or.inl ⟨by rfl, ?yk1f9⟩) (by assumption) ?tk1f9
        case yk1f9 => (intro w hSw; obtain ⟨s1, s2⟩ := hSw); go_simp; try with_reducible rfl
        simp only [Act.put, List.setIfInBounds_toArray, List.set_cons_zero, List.set_cons_succ]
        refine wpAnyH_take (i := 10) (oi := { dst := some 30, op := Op.fieldAddr 76 (Operand.tmp 29) 2, type := 0, pos := "read.go:73", after := #[{ on := 9, ground := Ground.data }, { on := 2, ground := Ground.guard }], guard := some (2, true) }) (v := ?vk1f10) rfl (by kernel_rfl) (by kernel_rfl) (by kernel_rfl) (fun _ _ _ h => h) (Or.inl ⟨by rfl, ?yk1f10⟩) (by assumption) ?tk1f10
        case yk1f10 => (intro w hSw; obtain ⟨s1, s2⟩ := hSw); go_simp; try with_reducible rfl
        simp only [Act.put, List.setIfInBounds_toArray, List.set_cons_zero, List.set_cons_succ]
        refine wpAnyH_take (i := 11) (oi := { dst := some 31, op := Op.load 9 (Operand.tmp 30), type := 9, pos := "read.go:73", after := #[{ on := 10, ground := Ground.data }, { on := 2, ground := Ground.guard }], guard := some (2, true) }) (v := ?vk1f11) rfl (by kernel_rfl) (by kernel_rfl) (by kernel_rfl) (fun _ _ _ h => h) (Or.inl ⟨by rfl, ?yk1f11⟩) (by assumption) ?tk1f11
        case yk1f11 => (intro w hSw; obtain ⟨s1, s2⟩ := hSw); go_simp; try with_reducible rfl
        simp only [Act.put, List.setIfInBounds_toArray, List.set_cons_zero, List.set_cons_succ]
        refine wpAnyH_ready (rs := [12]) (by kernel_rfl) (by simp) ?_
        refine AllReadyH.cons (o := { dst := some 32, op := Op.call { callee := Callee.value (Operand.func 83), args := #[Operand.tmp 27, Operand.tmp 31], argTypes := #[40, 9] }, type := 4, pos := "read.go:73", after := #[{ on := 7, ground := Ground.data }, { on := 11, ground := Ground.data }, { on := 2, ground := Ground.chain }, { on := 2, ground := Ground.guard }], guard := some (2, true) }) rfl (fun K hK => ?_) AllReadyH.nil
        go_simp
        refine HCN.out.mono ?_; rintro e w6 ⟨rfl, rfl⟩
        refine hK.out _ _ (hHeld) (fun hHeld' => ?_)
        clear hK K hHeld
        have hHeld := hHeld'; clear hHeld'
        try simp only [Act.put, List.setIfInBounds_toArray, List.set_cons_zero, List.set_cons_succ]
        refine wpAnyH_take (i := 13) (oi := { dst := some 33, op := Op.pick (Operand.tmp 22) (Operand.tmp 32) (Operand.const (Value.bool false)), type := 4, pos := "read.go:73", after := #[{ on := 2, ground := Ground.data }, { on := 12, ground := Ground.data }], guard := none }) (v := ?vk1f13) rfl (by kernel_rfl) (by kernel_rfl) (by kernel_rfl) (fun _ _ _ h => h) (Or.inl ⟨by rfl, ?yk1f13⟩) (by assumption) ?tk1f13
        case yk1f13 => (intro w hSw; obtain ⟨s1, s2⟩ := hSw); go_simp; try with_reducible rfl
        simp only [Act.put, List.setIfInBounds_toArray, List.set_cons_zero, List.set_cons_succ]
        refine wpAnyH_ready (rs := [14]) (by kernel_rfl) (by simp) ?_
        refine AllReadyH.cons (o := { dst := some 34, op := Op.call { callee := Callee.value (Operand.func 63), args := #[Operand.tmp 33], argTypes := #[4] }, type := 0, pos := "read.go:73", after := #[{ on := 13, ground := Ground.data }, { on := 12, ground := Ground.chain }], guard := none }) rfl (fun K hK => ?_) AllReadyH.nil
        go_simp
        refine (HN.out _ ID.out.ok.tab).mono ?_; rintro e w6 ⟨rfl, rfl⟩
        have hX : X = none := by rw [HX.out, HM.out]; rfl
        exact ⟨rfl, by rw [hX]; exact ⟨rfl, FD.out, _, ID.out.ok.at_, rfl⟩⟩
      · refine wp_region_held_drew (S := (fun v => v.cell? ⟨T + 3, 4, none⟩ = some (.slice (some ⟨T + 1, 0, none⟩) 2 2) ∧ v.cell? ⟨R, 5, none⟩ = some (.string (bs c.last)))) (by kernel_rfl) (⟨box_cell KD.out.tb 4 _ rfl, ID.out.ok.at_.cell 5 _ rfl⟩) (fun hHeld => ?_)
        refine wpAnyH_take (i := 0) (oi := { dst := some 20, op := Op.move (Operand.tmp 6), type := 3, pos := "read.go:73", after := #[], guard := none }) (v := ?vk1t0) rfl (by kernel_rfl) (by kernel_rfl) (by kernel_rfl) (fun _ _ _ h => h) (Or.inl ⟨by rfl, ?yk1t0⟩) (by assumption) ?tk1t0
        case yk1t0 => (intro w hSw; obtain ⟨s1, s2⟩ := hSw); go_simp; try with_reducible rfl
        simp only [Act.put, List.setIfInBounds_toArray, List.set_cons_zero, List.set_cons_succ]
        refine wpAnyH_take (i := 1) (oi := { dst := some 21, op := Op.binOp BinOp.geq 3 (Operand.tmp 20) (Operand.const (Value.int IntKind.i64 0)) 3, type := 4, pos := "read.go:73", after := #[{ on := 0, ground := Ground.data }], guard := none }) (v := ?vk1t1) rfl (by kernel_rfl) (by kernel_rfl) (by kernel_rfl) (fun _ _ _ h => h) (Or.inl ⟨by rfl, ?yk1t1⟩) (by assumption) ?tk1t1
        case yk1t1 => (intro w hSw; obtain ⟨s1, s2⟩ := hSw); go_simp; try with_reducible rfl
        simp only [Act.put, List.setIfInBounds_toArray, List.set_cons_zero, List.set_cons_succ]
        refine wpAnyH_take (i := 2) (oi := { dst := some 22, op := Op.move (Operand.tmp 21), type := 4, pos := "read.go:73", after := #[{ on := 1, ground := Ground.data }], guard := none }) (v := ?vk1t2) rfl (by kernel_rfl) (by kernel_rfl) (by kernel_rfl) (fun _ _ _ h => h) (Or.inl ⟨by rfl, ?yk1t2⟩) (by assumption) ?tk1t2
        case yk1t2 => (intro w hSw; obtain ⟨s1, s2⟩ := hSw); go_simp; try with_reducible rfl
        simp only [Act.put, List.setIfInBounds_toArray, List.set_cons_zero, List.set_cons_succ]
        refine wpAnyH_take (i := 3) (oi := { dst := some 23, op := Op.move (Operand.tmp 5), type := 112, pos := "read.go:73", after := #[{ on := 2, ground := Ground.guard }], guard := some (2, true) }) (v := ?vk1t3) rfl (by kernel_rfl) (by kernel_rfl) (by kernel_rfl) (fun _ _ _ h => h) (Or.inl ⟨by rfl, ?yk1t3⟩) (by assumption) ?tk1t3
        case yk1t3 => (intro w hSw; obtain ⟨s1, s2⟩ := hSw); go_simp; try with_reducible rfl
        simp only [Act.put, List.setIfInBounds_toArray, List.set_cons_zero, List.set_cons_succ]
        refine wpAnyH_take (i := 4) (oi := { dst := some 24, op := Op.move (Operand.tmp 6), type := 3, pos := "read.go:73", after := #[{ on := 2, ground := Ground.guard }], guard := some (2, true) }) (v := ?vk1t4) rfl (by kernel_rfl) (by kernel_rfl) (by kernel_rfl) (fun _ _ _ h => h) (Or.inl ⟨by rfl, ?yk1t4⟩) (by assumption) ?tk1t4
        case yk1t4 => (intro w hSw; obtain ⟨s1, s2⟩ := hSw); go_simp; try with_reducible rfl
        simp only [Act.put, List.setIfInBounds_toArray, List.set_cons_zero, List.set_cons_succ]
        refine wpAnyH_take (i := 5) (oi := { dst := some 25, op := Op.indexAddr 112 (Operand.tmp 23) (Operand.tmp 24), type := 0, pos := "read.go:73", after := #[{ on := 3, ground := Ground.data }, { on := 4, ground := Ground.data }, { on := 2, ground := Ground.guard }], guard := some (2, true) }) (v := ?vk1t5) rfl (by kernel_rfl) (by kernel_rfl) (by kernel_rfl) (fun _ _ _ h => h) (Or.inl ⟨by rfl, ?yk1t5⟩) (by assumption) ?tk1t5
        case yk1t5 => (intro w hSw; obtain ⟨s1, s2⟩ := hSw); go_simp; try with_reducible rfl
        simp only [Act.put, List.setIfInBounds_toArray, List.set_cons_zero, List.set_cons_succ]
        refine wpAnyH_take (i := 6) (oi := { dst := some 26, op := Op.fieldAddr 117 (Operand.tmp 25) 1, type := 0, pos := "read.go:73", after := #[{ on := 5, ground := Ground.data }, { on := 2, ground := Ground.guard }], guard := some (2, true) }) (v := ?vk1t6) rfl (by kernel_rfl) (by kernel_rfl) (by kernel_rfl) (fun _ _ _ h => h) (Or.inl ⟨by rfl, ?yk1t6⟩) (by assumption) ?tk1t6
        case yk1t6 => (intro w hSw; obtain ⟨s1, s2⟩ := hSw); go_simp; try with_reducible rfl
        simp only [Act.put, List.setIfInBounds_toArray, List.set_cons_zero, List.set_cons_succ]
        refine wpAnyH_take (i := 7) (oi := { dst := some 27, op := Op.load 40 (Operand.tmp 26), type := 40, pos := "read.go:73", after := #[{ on := 6, ground := Ground.data }, { on := 2, ground := Ground.guard }], guard := some (2, true) }) (v := ?vk1t7) rfl (by kernel_rfl) (by kernel_rfl) (by kernel_rfl) (fun _ _ _ h => h) (Or.inl ⟨by rfl, ?yk1t7⟩) (by assumption) ?tk1t7
        case yk1t7 => (intro w hSw; obtain ⟨s1, s2⟩ := hSw); go_simp; try with_reducible rfl
        simp only [Act.put, List.setIfInBounds_toArray, List.set_cons_zero, List.set_cons_succ]
        refine wpAnyH_take (i := 8) (oi := { dst := some 28, op := Op.move (Operand.tmp 0), type := 74, pos := "read.go:73", after := #[{ on := 2, ground := Ground.guard }], guard := some (2, true) }) (v := ?vk1t8) rfl (by kernel_rfl) (by kernel_rfl) (by kernel_rfl) (fun _ _ _ h => h) (Or.inl ⟨by rfl, ?yk1t8⟩) (by assumption) ?tk1t8
        case yk1t8 => (intro w hSw; obtain ⟨s1, s2⟩ := hSw); go_simp; try with_reducible rfl
        simp only [Act.put, List.setIfInBounds_toArray, List.set_cons_zero, List.set_cons_succ]
        refine wpAnyH_take (i := 9) (oi := { dst := some 29, op := Op.nilCheck (Operand.tmp 28), type := 0, pos := "read.go:73", after := #[{ on := 8, ground := Ground.data }, { on := 2, ground := Ground.guard }], guard := some (2, true) }) (v := ?vk1t9) rfl (by kernel_rfl) (by kernel_rfl) (by kernel_rfl) (fun _ _ _ h => h) (Or.inl ⟨by rfl, ?yk1t9⟩) (by assumption) ?tk1t9
        case yk1t9 => (intro w hSw; obtain ⟨s1, s2⟩ := hSw); go_simp; try with_reducible rfl
        simp only [Act.put, List.setIfInBounds_toArray, List.set_cons_zero, List.set_cons_succ]
        refine wpAnyH_take (i := 10) (oi := { dst := some 30, op := Op.fieldAddr 76 (Operand.tmp 29) 2, type := 0, pos := "read.go:73", after := #[{ on := 9, ground := Ground.data }, { on := 2, ground := Ground.guard }], guard := some (2, true) }) (v := ?vk1t10) rfl (by kernel_rfl) (by kernel_rfl) (by kernel_rfl) (fun _ _ _ h => h) (Or.inl ⟨by rfl, ?yk1t10⟩) (by assumption) ?tk1t10
        case yk1t10 => (intro w hSw; obtain ⟨s1, s2⟩ := hSw); go_simp; try with_reducible rfl
        simp only [Act.put, List.setIfInBounds_toArray, List.set_cons_zero, List.set_cons_succ]
        refine wpAnyH_take (i := 11) (oi := { dst := some 31, op := Op.load 9 (Operand.tmp 30), type := 9, pos := "read.go:73", after := #[{ on := 10, ground := Ground.data }, { on := 2, ground := Ground.guard }], guard := some (2, true) }) (v := ?vk1t11) rfl (by kernel_rfl) (by kernel_rfl) (by kernel_rfl) (fun _ _ _ h => h) (Or.inl ⟨by rfl, ?yk1t11⟩) (by assumption) ?tk1t11
        case yk1t11 => (intro w hSw; obtain ⟨s1, s2⟩ := hSw); go_simp; try with_reducible rfl
        simp only [Act.put, List.setIfInBounds_toArray, List.set_cons_zero, List.set_cons_succ]
        refine wpAnyH_ready (rs := [12]) (by kernel_rfl) (by simp) ?_
        refine AllReadyH.cons (o := { dst := some 32, op := Op.call { callee := Callee.value (Operand.func 83), args := #[Operand.tmp 27, Operand.tmp 31], argTypes := #[40, 9] }, type := 4, pos := "read.go:73", after := #[{ on := 7, ground := Ground.data }, { on := 11, ground := Ground.data }, { on := 2, ground := Ground.chain }, { on := 2, ground := Ground.guard }], guard := some (2, true) }) rfl (fun K hK => ?_) AllReadyH.nil
        go_simp
        refine HCN.out.mono ?_; rintro e w6 ⟨rfl, rfl⟩
        refine hK.out _ _ (hHeld) (fun hHeld' => ?_)
        clear hK K hHeld
        have hHeld := hHeld'; clear hHeld'
        try simp only [Act.put, List.setIfInBounds_toArray, List.set_cons_zero, List.set_cons_succ]
        refine wpAnyH_take (i := 13) (oi := { dst := some 33, op := Op.pick (Operand.tmp 22) (Operand.tmp 32) (Operand.const (Value.bool false)), type := 4, pos := "read.go:73", after := #[{ on := 2, ground := Ground.data }, { on := 12, ground := Ground.data }], guard := none }) (v := ?vk1t13) rfl (by kernel_rfl) (by kernel_rfl) (by kernel_rfl) (fun _ _ _ h => h) (Or.inl ⟨by rfl, ?yk1t13⟩) (by assumption) ?tk1t13
        case yk1t13 => (intro w hSw; obtain ⟨s1, s2⟩ := hSw); go_simp; try with_reducible rfl
        simp only [Act.put, List.setIfInBounds_toArray, List.set_cons_zero, List.set_cons_succ]
        refine wpAnyH_ready (rs := [14]) (by kernel_rfl) (by simp) ?_
        refine AllReadyH.cons (o := { dst := some 34, op := Op.call { callee := Callee.value (Operand.func 63), args := #[Operand.tmp 33], argTypes := #[4] }, type := 0, pos := "read.go:73", after := #[{ on := 13, ground := Ground.data }, { on := 12, ground := Ground.chain }], guard := none }) rfl (fun K hK => ?_) AllReadyH.nil
        go_simp
        refine (require_yes _).mono ?_; rintro e w6 ⟨rfl, rfl⟩
        refine hK.out _ _ (hHeld) (fun hHeld' => ?_)
        clear hK K hHeld
        have hHeld := hHeld'; clear hHeld'
        try simp only [Act.put, List.setIfInBounds_toArray, List.set_cons_zero, List.set_cons_succ]
        refine wpAnyH_done (by kernel_rfl) ?_ _
        have kf := box_cell KD.out.tb 5 _ rfl
        clear hHeld HCN
        generalize w5.drew = w6 at *
        go_wp2_with fail
        clear kf
        have HRD := Lib.hid (readStep_any a B R _ q w6 ID.out)
        have HX := Lib.hid (show X = (Fl.readStep q.f t).bind fun p => if p.2 = none then some (⟨p.1, z⟩ : Fl.St) else none by rw [HX.out, HM.out, if_pos rfl, HK.out])
        rcases hr : Fl.readStep q.f t with _ | ⟨f1, r1⟩
        · have HRD2 : Hid (Calls Tryz.prog 92 #[.pointer (some ⟨R, 0, none⟩)] w6 (RdPost a B R { c with r := t } none w6)) := by have h0 := HRD.out; simp only at h0; rw [hr] at h0; exact Lib.hid h0
          rw [hr] at HX
          clear HRD hr
          refine HRD2.out.mono ?_; rintro e w7 ⟨rfl, f7, c7, r7, l7⟩
          go_wp2_with fail
          exact ⟨rfl, by rw [HX.out]; exact ⟨rfl, FD.out.trans f7, c7, r7, l7⟩⟩
        · have HRD2 : Hid (Calls Tryz.prog 92 #[.pointer (some ⟨R, 0, none⟩)] w6 (RdPost a B R { c with r := t } (some (f1, r1)) w6)) := by have h0 := HRD.out; simp only at h0; rw [hr] at h0; exact Lib.hid h0
          rw [hr] at HX
          clear HRD hr
          refine HRD2.out.mono ?_; rintro e w7 ⟨rfl, f7, c7, q7, i7, rfl, rfl, l7, a7⟩
          have I7 := Lib.hid i7; have F7 := Lib.hid (FD.out.trans f7); have L7 := Lib.hid l7
          have V7 : Hid (w7.heap[V]? = some (.cells #[.string (bs z)] 9)) := Lib.hid (f7.rest V _ (by have := HR3.out; omega) VD.out (fun cs => ⟨by intro e0; injection e0 with _ e1; exact absurd e1 (by decide), by intro e0; injection e0 with _ e1; exact absurd e1 (by decide)⟩))
          clear i7 f7 l7 a7 HRD2
          simp only [Option.bind_some] at HX
          rcases hr : c7.r with _ | s7
          · have m7 : w7.cell? ⟨R, 7, none⟩ = some (.bool false) := I7.out.ok.at_.cell 7 (.bool false) (by rw [rdCells, hr]; rfl)
            have HX := Lib.hid (show X = some (⟨q7.f, z⟩ : Fl.St) by rw [HX.out, if_pos hr])
            have v7 := box_cell V7.out 0 _ rfl
            have x5 := I7.out.ok.at_.cell 5 _ rfl; have f5 := I7.out.ok.at_.fz 5
            have HS7 : Hid (In a B R { c7 with last := z } q7 (w7.setCell ⟨R, 5, none⟩ (.string (bs z)))) := Lib.hid (I7.out.only (c' := { c7 with last := z }) ((Only.refl R w7).setCell 5 _) (I7.out.ok.at_.set 5 _ rfl) (by have := I7.out.ok.len; exact this) rfl rfl rfl rfl)
            have HF7 := Lib.hid (F7.out.trans (Fr.only ((Only.refl R w7).setCell 5 (.string (bs z))) I7.out.lt I7.out.holds.ge))
            clear hr
            go_wp2_with fail
            refine (require_yes _).mono ?_; rintro e w8 ⟨rfl, rfl⟩
            go_wp2_with fail
            go_end0
            unfold LinePost
            rw [HX.out]
            exact ⟨rfl, HF7.out, _, _, HS7.out, rfl, rfl, L7.out⟩
          · have m7 : w7.cell? ⟨R, 7, none⟩ = some (.bool true) := I7.out.ok.at_.cell 7 (.bool true) (by rw [rdCells, hr]; rfl)
            have HX := Lib.hid (show X = none by rw [HX.out, if_neg (by rw [hr]; exact fun e => by cases e)])
            clear hr
            go_wp2_with fail
            refine (HN.out _ I7.out.ok.tab).mono ?_; rintro e w8 ⟨rfl, rfl⟩
            go_wp2_with fail
            exact ⟨rfl, by rw [HX.out]; exact ⟨rfl, F7.out, _, I7.out.ok.at_, L7.out⟩⟩
    · skip
      by_cases h2 : Fl.wWindow = z
      · have hk : kindAt z = 2 := by unfold kindAt; rw [if_neg h0, if_neg h1, if_pos h2]
        obtain ⟨Mb, hM⟩ : ∃ Mb, (decide (c.last = Fl.wStep) || decide (c.last = Fl.wWindow)) = Mb := ⟨_, rfl⟩
        have HM := Lib.hid (show mayFollow z c.last = Mb by unfold mayFollow; rw [if_neg h0, if_neg h1, if_pos h2]; exact hM)
        have HK := Lib.hid (show readKind z q.f t = Fl.readWin q.f t by unfold readKind; rw [if_neg h0, if_neg h1])
        rw [hk]
        clear hk h0 h1 h2
        go_wp2_with fail
        have KD := Lib.hid (K5.out.below (Below.refl w5.heap.size w5).drew)
        have ID := Lib.hid (I5.out.below (Below.refl w5.heap.size w5).drew)
        have VD := Lib.hid (((Below.refl w5.heap.size w5).drew.block V (lt_of_block V5.out)).trans V5.out)
        have FD := Lib.hid (F5.out.trans (Fr.ofBelow (Below.refl w5.heap.size w5).drew I5.out.lt))
        have hcn := contains2 (KD.out.b2) c.last
        rw [hM] at hcn
        have HCN := Lib.hid hcn; clear hcn hM
        cases Mb
        · refine wp_region_held_drew (S := (fun v => v.cell? ⟨T + 3, 7, none⟩ = some (.slice (some ⟨T + 2, 0, none⟩) 2 2) ∧ v.cell? ⟨R, 5, none⟩ = some (.string (bs c.last)))) (by kernel_rfl) (⟨box_cell KD.out.tb 7 _ rfl, ID.out.ok.at_.cell 5 _ rfl⟩) (fun hHeld => ?_)
          refine wpAnyH_take (i := 0) (oi := { dst := some 20, op := Op.move (Operand.tmp 6), type := 3, pos := "read.go:73", after := #[], guard := none }) (v := ?vk2f0) rfl (by kernel_rfl) (by kernel_rfl) (by kernel_rfl) (fun _ _ _ h => h) (Or.inl ⟨by rfl, ?yk2f0⟩) (by assumption) ?tk2f0
          case yk2f0 => (intro w hSw; obtain ⟨s1, s2⟩ := hSw); go_simp; try with_reducible rfl
          simp only [Act.put, List.setIfInBounds_toArray, List.set_cons_zero, List.set_cons_succ]
          refine wpAnyH_take (i := 1) (oi := { dst := some 21, op := Op.binOp BinOp.geq 3 (Operand.tmp 20) (Operand.const (Value.int IntKind.i64 0)) 3, type := 4, pos := "read.go:73", after := #[{ on := 0, ground := Ground.data }], guard := none }) (v := ?vk2f1) rfl (by kernel_rfl) (by kernel_rfl) (by kernel_rfl) (fun _ _ _ h => h) (Or.inl ⟨by rfl, ?yk2f1⟩) (by assumption) ?tk2f1
          case yk2f1 => (intro w hSw; obtain ⟨s1, s2⟩ := hSw); go_simp; try with_reducible rfl
          simp only [Act.put, List.setIfInBounds_toArray, List.set_cons_zero, List.set_cons_succ]
          refine wpAnyH_take (i := 2) (oi := { dst := some 22, op := Op.move (Operand.tmp 21), type := 4, pos := "read.go:73", after := #[{ on := 1, ground := Ground.data }], guard := none }) (v := ?vk2f2) rfl (by kernel_rfl) (by kernel_rfl) (by kernel_rfl) (fun _ _ _ h => h) (Or.inl ⟨by rfl, ?yk2f2⟩) (by assumption) ?tk2f2
          case yk2f2 => (intro w hSw; obtain ⟨s1, s2⟩ := hSw); go_simp; try with_reducible rfl
          simp only [Act.put, List.setIfInBounds_toArray, List.set_cons_zero, List.set_cons_succ]
          refine wpAnyH_take (i := 3) (oi := { dst := some 23, op := Op.move (Operand.tmp 5), type := 112, pos := "read.go:73", after := #[{ on := 2, ground := Ground.guard }], guard := some (2, true) }) (v := ?vk2f3) rfl (by kernel_rfl) (by kernel_rfl) (by kernel_rfl) (fun _ _ _ h => h) (Or.inl ⟨by rfl, ?yk2f3⟩) (by assumption) ?tk2f3
          case yk2f3 => (intro w hSw; obtain ⟨s1, s2⟩ := hSw); go_simp; try with_reducible rfl
          simp only [Act.put, List.setIfInBounds_toArray, List.set_cons_zero, List.set_cons_succ]
          refine wpAnyH_take (i := 4) (oi := { dst := some 24, op := Op.move (Operand.tmp 6), type := 3, pos := "read.go:73", after := #[{ on := 2, ground := Ground.guard }], guard := some (2, true) }) (v := ?vk2f4) rfl (by kernel_rfl) (by kernel_rfl) (by kernel_rfl) (fun _ _ _ h => h) (Or.inl ⟨by rfl, ?yk2f4⟩) (by assumption) ?tk2f4
          case yk2f4 => (intro w hSw; obtain ⟨s1, s2⟩ := hSw); go_simp; try with_reducible rfl
          simp only [Act.put, List.setIfInBounds_toArray, List.set_cons_zero, List.set_cons_succ]
          refine wpAnyH_take (i := 5) (oi := { dst := some 25, op := Op.indexAddr 112 (Operand.tmp 23) (Operand.tmp 24), type := 0, pos := "read.go:73", after := #[{ on := 3, ground := Ground.data }, { on := 4, ground := Ground.data }, { on := 2, ground := Ground.guard }], guard := some (2, true) }) (v := ?vk2f5) rfl (by kernel_rfl) (by kernel_rfl) (by kernel_rfl) (fun _ _ _ h => h) (Or.inl ⟨by rfl, ?yk2f5⟩) (by assumption) ?tk2f5
          case yk2f5 => (intro w hSw; obtain ⟨s1, s2⟩ := hSw); go_simp; try with_reducible rfl
          simp only [Act.put, List.setIfInBounds_toArray, List.set_cons_zero, List.set_cons_succ]
          refine wpAnyH_take (i := 6) (oi := { dst := some 26, op := Op.fieldAddr 117 (Operand.tmp 25) 1, type := 0, pos := "read.go:73", after := #[{ on := 5, ground := Ground.data }, { on := 2, ground := Ground.guard }], guard := some (2, true) }) (v := ?vk2f6) rfl (by kernel_rfl) (by kernel_rfl) (by kernel_rfl) (fun _ _ _ h => h) (Or.inl ⟨by rfl, ?yk2f6⟩) (by assumption) ?tk2f6
          case yk2f6 => (intro w hSw; obtain ⟨s1, s2⟩ := hSw); go_simp; try with_reducible rfl
          simp only [Act.put, List.setIfInBounds_toArray, List.set_cons_zero, List.set_cons_succ]
          refine wpAnyH_take (i := 7) (oi := { dst := some 27, op := Op.load 40 (Operand.tmp 26), type := 40, pos := "read.go:73", after := #[{ on := 6, ground := Ground.data }, { on := 2, ground := Ground.guard }], guard := some (2, true) }) (v := ?vk2f7) rfl (by kernel_rfl) (by kernel_rfl) (by kernel_rfl) (fun _ _ _ h => h) (Or.inl ⟨by rfl, ?yk2f7⟩) (by assumption) ?tk2f7
          case yk2f7 => (intro w hSw; obtain ⟨s1, s2⟩ := hSw); go_simp; try with_reducible rfl
          simp only [Act.put, List.setIfInBounds_toArray, List.set_cons_zero, List.set_cons_succ]
          refine wpAnyH_take (i := 8) (oi := { dst := some 28, op := Op.move (Operand.tmp 0), type := 74, pos := "read.go:73", after := #[{ on := 2, ground := Ground.guard }], guard := some (2, true) }) (v := ?vk2f8) rfl (by kernel_rfl) (by kernel_rfl) (by kernel_rfl) (fun _ _ _ h => h) (Or.inl ⟨by rfl, ?yk2f8⟩) (by assumption) ?tk2f8
          case yk2f8 => (intro w hSw; obtain ⟨s1, s2⟩ := hSw); go_simp; try with_reducible rfl
          simp only [Act.put, List.setIfInBounds_toArray, List.set_cons_zero, List.set_cons_succ]
          refine wpAnyH_take (i := 9) (oi := { dst := some 29, op := Op.nilCheck (Operand.tmp 28), type := 0, pos := "read.go:73", after := #[{ on := 8, ground := Ground.data }, { on := 2, ground := Ground.guard }], guard := some (2, true) }) (v := ?vk2f9) rfl (by kernel_rfl) (by kernel_rfl) (by kernel_rfl) (fun _ _ _ h => h) (Or.inl ⟨by rfl, ?yk2f9⟩) (by assumption) ?tk2f9
          case yk2f9 => (intro w hSw; obtain ⟨s1, s2⟩ := hSw); go_simp; try with_reducible rfl
          simp only [Act.put, List.setIfInBounds_toArray, List.set_cons_zero, List.set_cons_succ]
          refine wpAnyH_take (i := 10) (oi := { dst := some 30, op := Op.fieldAddr 76 (Operand.tmp 29) 2, type := 0, pos := "read.go:73", after := #[{ on := 9, ground := Ground.data }, { on := 2, ground := Ground.guard }], guard := some (2, true) }) (v := ?vk2f10) rfl (by kernel_rfl) (by kernel_rfl) (by kernel_rfl) (fun _ _ _ h => h) (Or.inl ⟨by rfl, ?yk2f10⟩) (by assumption) ?tk2f10
          case yk2f10 => (intro w hSw; obtain ⟨s1, s2⟩ := hSw); go_simp; try with_reducible rfl
          simp only [Act.put, List.setIfInBounds_toArray, List.set_cons_zero, List.set_cons_succ]
          refine wpAnyH_take (i := 11) (oi := { dst := some 31, op := Op.load 9 (Operand.tmp 30), type := 9, pos := "read.go:73", after := #[{ on := 10, ground := Ground.data }, { on := 2, ground := Ground.guard }], guard := some (2, true) }) (v := ?vk2f11) rfl (by kernel_rfl) (by kernel_rfl) (by kernel_rfl) (fun _ _ _ h => h) (Or.inl ⟨by rfl, ?yk2f11⟩) (by assumption) ?tk2f11
          case yk2f11 => (intro w hSw; obtain ⟨s1, s2⟩ := hSw); go_simp; try with_reducible rfl
          simp only [Act.put, List.setIfInBounds_toArray, List.set_cons_zero, List.set_cons_succ]
          refine wpAnyH_ready (rs := [12]) (by kernel_rfl) (by simp) ?_
          refine AllReadyH.cons (o := { dst := some 32, op := Op.call { callee := Callee.value (Operand.func 83), args := #[Operand.tmp 27, Operand.tmp 31], argTypes := #[40, 9] }, type := 4, pos := "read.go:73", after := #[{ on := 7, ground := Ground.data }, { on := 11, ground := Ground.data }, { on := 2, ground := Ground.chain }, { on := 2, ground := Ground.guard }], guard := some (2, true) }) rfl (fun K hK => ?_) AllReadyH.nil
          go_simp
          refine HCN.out.mono ?_; rintro e w6 ⟨rfl, rfl⟩
          refine hK.out _ _ (hHeld) (fun hHeld' => ?_)
          clear hK K hHeld
          have hHeld := hHeld'; clear hHeld'
          try simp only [Act.put, List.setIfInBounds_toArray, List.set_cons_zero, List.set_cons_succ]
          refine wpAnyH_take (i := 13) (oi := { dst := some 33, op := Op.pick (Operand.tmp 22) (Operand.tmp 32) (Operand.const (Value.bool false)), type := 4, pos := "read.go:73", after := #[{ on := 2, ground := Ground.data }, { on := 12, ground := Ground.data }], guard := none }) (v := ?vk2f13) rfl (by kernel_rfl) (by kernel_rfl) (by kernel_rfl) (fun _ _ _ h => h) (Or.inl ⟨by rfl, ?yk2f13⟩) (by assumption) ?tk2f13
          case yk2f13 => (intro w hSw; obtain ⟨s1, s2⟩ := hSw); go_simp; try with_reducible rfl
          simp only [Act.put, List.setIfInBounds_toArray, List.set_cons_zero, List.set_cons_succ]
          refine wpAnyH_ready (rs := [14]) (by kernel_rfl) (by simp) ?_
          refine AllReadyH.cons (o := { dst := some 34, op := Op.call { callee := Callee.value (Operand.func 63), args := #[Operand.tmp 33], argTypes := #[4] }, type := 0, pos := "read.go:73", after := #[{ on := 13, ground := Ground.data }, { on := 12, ground := Ground.chain }], guard := none }) rfl (fun K hK => ?_) AllReadyH.nil
          go_simp
          refine (HN.out _ ID.out.ok.tab).mono ?_; rintro e w6 ⟨rfl, rfl⟩
          have hX : X = none := by rw [HX.out, HM.out]; rfl
          exact ⟨rfl, by rw [hX]; exact ⟨rfl, FD.out, _, ID.out.ok.at_, rfl⟩⟩
        · refine wp_region_held_drew (S := (fun v => v.cell? ⟨T + 3, 7, none⟩ = some (.slice (some ⟨T + 2, 0, none⟩) 2 2) ∧ v.cell? ⟨R, 5, none⟩ = some (.string (bs c.last)))) (by kernel_rfl) (⟨box_cell KD.out.tb 7 _ rfl, ID.out.ok.at_.cell 5 _ rfl⟩) (fun hHeld => ?_)
          refine wpAnyH_take (i := 0) (oi := { dst := some 20, op := Op.move (Operand.tmp 6), type := 3, pos := "read.go:73", after := #[], guard := none }) (v := ?vk2t0) rfl (by kernel_rfl) (by kernel_rfl) (by kernel_rfl) (fun _ _ _ h => h) (Or.inl ⟨by rfl, ?yk2t0⟩) (by assumption) ?tk2t0
          case yk2t0 => (intro w hSw; obtain ⟨s1, s2⟩ := hSw); go_simp; try with_reducible rfl
          simp only [Act.put, List.setIfInBounds_toArray, List.set_cons_zero, List.set_cons_succ]
          refine wpAnyH_take (i := 1) (oi := { dst := some 21, op := Op.binOp BinOp.geq 3 (Operand.tmp 20) (Operand.const (Value.int IntKind.i64 0)) 3, type := 4, pos := "read.go:73", after := #[{ on := 0, ground := Ground.data }], guard := none }) (v := ?vk2t1) rfl (by kernel_rfl) (by kernel_rfl) (by kernel_rfl) (fun _ _ _ h => h) (Or.inl ⟨by rfl, ?yk2t1⟩) (by assumption) ?tk2t1
          case yk2t1 => (intro w hSw; obtain ⟨s1, s2⟩ := hSw); go_simp; try with_reducible rfl
          simp only [Act.put, List.setIfInBounds_toArray, List.set_cons_zero, List.set_cons_succ]
          refine wpAnyH_take (i := 2) (oi := { dst := some 22, op := Op.move (Operand.tmp 21), type := 4, pos := "read.go:73", after := #[{ on := 1, ground := Ground.data }], guard := none }) (v := ?vk2t2) rfl (by kernel_rfl) (by kernel_rfl) (by kernel_rfl) (fun _ _ _ h => h) (Or.inl ⟨by rfl, ?yk2t2⟩) (by assumption) ?tk2t2
          case yk2t2 => (intro w hSw; obtain ⟨s1, s2⟩ := hSw); go_simp; try with_reducible rfl
          simp only [Act.put, List.setIfInBounds_toArray, List.set_cons_zero, List.set_cons_succ]
          refine wpAnyH_take (i := 3) (oi := { dst := some 23, op := Op.move (Operand.tmp 5), type := 112, pos := "read.go:73", after := #[{ on := 2, ground := Ground.guard }], guard := some (2, true) }) (v := ?vk2t3) rfl (by kernel_rfl) (by kernel_rfl) (by kernel_rfl) (fun _ _ _ h => h) (Or.inl ⟨by rfl, ?yk2t3⟩) (by assumption) ?tk2t3
          case yk2t3 => (intro w hSw; obtain ⟨s1, s2⟩ := hSw); go_simp; try with_reducible rfl
          simp only [Act.put, List.setIfInBounds_toArray, List.set_cons_zero, List.set_cons_succ]
          refine wpAnyH_take (i := 4) (oi := { dst := some 24, op := Op.move (Operand.tmp 6), type := 3, pos := "read.go:73", after := #[{ on := 2, ground := Ground.guard }], guard := some (2, true) }) (v := ?vk2t4) rfl (by kernel_rfl) (by kernel_rfl) (by kernel_rfl) (fun _ _ _ h => h) (Or.inl ⟨by rfl, ?yk2t4⟩) (by assumption) ?tk2t4
          case yk2t4 => (intro w hSw; obtain ⟨s1, s2⟩ := hSw); go_simp; try with_reducible rfl
          simp only [Act.put, List.setIfInBounds_toArray, List.set_cons_zero, List.set_cons_succ]
          refine wpAnyH_take (i := 5) (oi := { dst := some 25, op := Op.indexAddr 112 (Operand.tmp 23) (Operand.tmp 24), type := 0, pos := "read.go:73", after := #[{ on := 3, ground := Ground.data }, { on := 4, ground := Ground.data }, { on := 2, ground := Ground.guard }], guard := some (2, true) }) (v := ?vk2t5) rfl (by kernel_rfl) (by kernel_rfl) (by kernel_rfl) (fun _ _ _ h => h) (Or.inl ⟨by rfl, ?yk2t5⟩) (by assumption) ?tk2t5
          case yk2t5 => (intro w hSw; obtain ⟨s1, s2⟩ := hSw); go_simp; try with_reducible rfl
          simp only [Act.put, List.setIfInBounds_toArray, List.set_cons_zero, List.set_cons_succ]
          refine wpAnyH_take (i := 6) (oi := { dst := some 26, op := Op.fieldAddr 117 (Operand.tmp 25) 1, type := 0, pos := "read.go:73", after := #[{ on := 5, ground := Ground.data }, { on := 2, ground := Ground.guard }], guard := some (2, true) }) (v := ?vk2t6) rfl (by kernel_rfl) (by kernel_rfl) (by kernel_rfl) (fun _ _ _ h => h) (Or.inl ⟨by rfl, ?yk2t6⟩) (by assumption) ?tk2t6
          case yk2t6 => (intro w hSw; obtain ⟨s1, s2⟩ := hSw); go_simp; try with_reducible rfl
          simp only [Act.put, List.setIfInBounds_toArray, List.set_cons_zero, List.set_cons_succ]
          refine wpAnyH_take (i := 7) (oi := { dst := some 27, op := Op.load 40 (Operand.tmp 26), type := 40, pos := "read.go:73", after := #[{ on := 6, ground := Ground.data }, { on := 2, ground := Ground.guard }], guard := some (2, true) }) (v := ?vk2t7) rfl (by kernel_rfl) (by kernel_rfl) (by kernel_rfl) (fun _ _ _ h => h) (Or.inl ⟨by rfl, ?yk2t7⟩) (by assumption) ?tk2t7
          case yk2t7 => (intro w hSw; obtain ⟨s1, s2⟩ := hSw); go_simp; try with_reducible rfl
          simp only [Act.put, List.setIfInBounds_toArray, List.set_cons_zero, List.set_cons_succ]
          refine wpAnyH_take (i := 8) (oi := { dst := some 28, op := Op.move (Operand.tmp 0), type := 74, pos := "read.go:73", after := #[{ on := 2, ground := Ground.guard }], guard := some (2, true) }) (v := ?vk2t8) rfl (by kernel_rfl) (by kernel_rfl) (by kernel_rfl) (fun _ _ _ h => h) (Or.inl ⟨by rfl, ?yk2t8⟩) (by assumption) ?tk2t8
          case yk2t8 => (intro w hSw; obtain ⟨s1, s2⟩ := hSw); go_simp; try with_reducible rfl
          simp only [Act.put, List.setIfInBounds_toArray, List.set_cons_zero, List.set_cons_succ]
          refine wpAnyH_take (i := 9) (oi := { dst := some 29, op := Op.nilCheck (Operand.tmp 28), type := 0, pos := "read.go:73", after := #[{ on := 8, ground := Ground.data }, { on := 2, ground := Ground.guard }], guard := some (2, true) }) (v := ?vk2t9) rfl (by kernel_rfl) (by kernel_rfl) (by kernel_rfl) (fun _ _ _ h => h) (Or.inl ⟨by rfl, ?yk2t9⟩) (by assumption) ?tk2t9
          case yk2t9 => (intro w hSw; obtain ⟨s1, s2⟩ := hSw); go_simp; try with_reducible rfl
          simp only [Act.put, List.setIfInBounds_toArray, List.set_cons_zero, List.set_cons_succ]
          refine wpAnyH_take (i := 10) (oi := { dst := some 30, op := Op.fieldAddr 76 (Operand.tmp 29) 2, type := 0, pos := "read.go:73", after := #[{ on := 9, ground := Ground.data }, { on := 2, ground := Ground.guard }], guard := some (2, true) }) (v := ?vk2t10) rfl (by kernel_rfl) (by kernel_rfl) (by kernel_rfl) (fun _ _ _ h => h) (Or.inl ⟨by rfl, ?yk2t10⟩) (by assumption) ?tk2t10
          case yk2t10 => (intro w hSw; obtain ⟨s1, s2⟩ := hSw); go_simp; try with_reducible rfl
          simp only [Act.put, List.setIfInBounds_toArray, List.set_cons_zero, List.set_cons_succ]
          refine wpAnyH_take (i := 11) (oi := { dst := some 31, op := Op.load 9 (Operand.tmp 30), type := 9, pos := "read.go:73", after := #[{ on := 10, ground := Ground.data }, { on := 2, ground := Ground.guard }], guard := some (2, true) }) (v := ?vk2t11) rfl (by kernel_rfl) (by kernel_rfl) (by kernel_rfl) (fun _ _ _ h => h) (Or.inl ⟨by rfl, ?yk2t11⟩) (by assumption) ?tk2t11
          case yk2t11 => (intro w hSw; obtain ⟨s1, s2⟩ := hSw); go_simp; try with_reducible rfl
          simp only [Act.put, List.setIfInBounds_toArray, List.set_cons_zero, List.set_cons_succ]
          refine wpAnyH_ready (rs := [12]) (by kernel_rfl) (by simp) ?_
          refine AllReadyH.cons (o := { dst := some 32, op := Op.call { callee := Callee.value (Operand.func 83), args := #[Operand.tmp 27, Operand.tmp 31], argTypes := #[40, 9] }, type := 4, pos := "read.go:73", after := #[{ on := 7, ground := Ground.data }, { on := 11, ground := Ground.data }, { on := 2, ground := Ground.chain }, { on := 2, ground := Ground.guard }], guard := some (2, true) }) rfl (fun K hK => ?_) AllReadyH.nil
          go_simp
          refine HCN.out.mono ?_; rintro e w6 ⟨rfl, rfl⟩
          refine hK.out _ _ (hHeld) (fun hHeld' => ?_)
          clear hK K hHeld
          have hHeld := hHeld'; clear hHeld'
          try simp only [Act.put, List.setIfInBounds_toArray, List.set_cons_zero, List.set_cons_succ]
          refine wpAnyH_take (i := 13) (oi := { dst := some 33, op := Op.pick (Operand.tmp 22) (Operand.tmp 32) (Operand.const (Value.bool false)), type := 4, pos := "read.go:73", after := #[{ on := 2, ground := Ground.data }, { on := 12, ground := Ground.data }], guard := none }) (v := ?vk2t13) rfl (by kernel_rfl) (by kernel_rfl) (by kernel_rfl) (fun _ _ _ h => h) (Or.inl ⟨by rfl, ?yk2t13⟩) (by assumption) ?tk2t13
          case yk2t13 => (intro w hSw; obtain ⟨s1, s2⟩ := hSw); go_simp; try with_reducible rfl
          simp only [Act.put, List.setIfInBounds_toArray, List.set_cons_zero, List.set_cons_succ]
          refine wpAnyH_ready (rs := [14]) (by kernel_rfl) (by simp) ?_
          refine AllReadyH.cons (o := { dst := some 34, op := Op.call { callee := Callee.value (Operand.func 63), args := #[Operand.tmp 33], argTypes := #[4] }, type := 0, pos := "read.go:73", after := #[{ on := 13, ground := Ground.data }, { on := 12, ground := Ground.chain }], guard := none }) rfl (fun K hK => ?_) AllReadyH.nil
          go_simp
          refine (require_yes _).mono ?_; rintro e w6 ⟨rfl, rfl⟩
          refine hK.out _ _ (hHeld) (fun hHeld' => ?_)
          clear hK K hHeld
          have hHeld := hHeld'; clear hHeld'
          try simp only [Act.put, List.setIfInBounds_toArray, List.set_cons_zero, List.set_cons_succ]
          refine wpAnyH_done (by kernel_rfl) ?_ _
          have kf := box_cell KD.out.tb 8 _ rfl
          clear hHeld HCN
          generalize w5.drew = w6 at *
          go_wp2_with fail
          clear kf
          have HRD := Lib.hid (readWindow_any a B R _ q w6 ID.out)
          have HX := Lib.hid (show X = (Fl.readWin q.f t).bind fun p => if p.2 = none then some (⟨p.1, z⟩ : Fl.St) else none by rw [HX.out, HM.out, if_pos rfl, HK.out])
          rcases hr : Fl.readWin q.f t with _ | ⟨f1, r1⟩
          · have HRD2 : Hid (Calls Tryz.prog 93 #[.pointer (some ⟨R, 0, none⟩)] w6 (RdPost a B R { c with r := t } none w6)) := by have h0 := HRD.out; simp only at h0; rw [hr] at h0; exact Lib.hid h0
            rw [hr] at HX
            clear HRD hr
            refine HRD2.out.mono ?_; rintro e w7 ⟨rfl, f7, c7, r7, l7⟩
            go_wp2_with fail
            exact ⟨rfl, by rw [HX.out]; exact ⟨rfl, FD.out.trans f7, c7, r7, l7⟩⟩
          · have HRD2 : Hid (Calls Tryz.prog 93 #[.pointer (some ⟨R, 0, none⟩)] w6 (RdPost a B R { c with r := t } (some (f1, r1)) w6)) := by have h0 := HRD.out; simp only at h0; rw [hr] at h0; exact Lib.hid h0
            rw [hr] at HX
            clear HRD hr
            refine HRD2.out.mono ?_; rintro e w7 ⟨rfl, f7, c7, q7, i7, rfl, rfl, l7, a7⟩
            have I7 := Lib.hid i7; have F7 := Lib.hid (FD.out.trans f7); have L7 := Lib.hid l7
            have V7 : Hid (w7.heap[V]? = some (.cells #[.string (bs z)] 9)) := Lib.hid (f7.rest V _ (by have := HR3.out; omega) VD.out (fun cs => ⟨by intro e0; injection e0 with _ e1; exact absurd e1 (by decide), by intro e0; injection e0 with _ e1; exact absurd e1 (by decide)⟩))
            clear i7 f7 l7 a7 HRD2
            simp only [Option.bind_some] at HX
            rcases hr : c7.r with _ | s7
            · have m7 : w7.cell? ⟨R, 7, none⟩ = some (.bool false) := I7.out.ok.at_.cell 7 (.bool false) (by rw [rdCells, hr]; rfl)
              have HX := Lib.hid (show X = some (⟨q7.f, z⟩ : Fl.St) by rw [HX.out, if_pos hr])
              have v7 := box_cell V7.out 0 _ rfl
              have x5 := I7.out.ok.at_.cell 5 _ rfl; have f5 := I7.out.ok.at_.fz 5
              have HS7 : Hid (In a B R { c7 with last := z } q7 (w7.setCell ⟨R, 5, none⟩ (.string (bs z)))) := Lib.hid (I7.out.only (c' := { c7 with last := z }) ((Only.refl R w7).setCell 5 _) (I7.out.ok.at_.set 5 _ rfl) (by have := I7.out.ok.len; exact this) rfl rfl rfl rfl)
              have HF7 := Lib.hid (F7.out.trans (Fr.only ((Only.refl R w7).setCell 5 (.string (bs z))) I7.out.lt I7.out.holds.ge))
              clear hr
              go_wp2_with fail
              refine (require_yes _).mono ?_; rintro e w8 ⟨rfl, rfl⟩
              go_wp2_with fail
              go_end0
              unfold LinePost
              rw [HX.out]
              exact ⟨rfl, HF7.out, _, _, HS7.out, rfl, rfl, L7.out⟩
            · have m7 : w7.cell? ⟨R, 7, none⟩ = some (.bool true) := I7.out.ok.at_.cell 7 (.bool true) (by rw [rdCells, hr]; rfl)
              have HX := Lib.hid (show X = none by rw [HX.out, if_neg (by rw [hr]; exact fun e => by cases e)])
              clear hr
              go_wp2_with fail
              refine (HN.out _ I7.out.ok.tab).mono ?_; rintro e w8 ⟨rfl, rfl⟩
              go_wp2_with fail
              exact ⟨rfl, by rw [HX.out]; exact ⟨rfl, F7.out, _, I7.out.ok.at_, L7.out⟩⟩
      · skip
        have hk : kindAt z = -1 := by unfold kindAt; rw [if_neg h0, if_neg h1, if_neg h2]
        have HM := Lib.hid (show mayFollow z c.last = false by unfold mayFollow; rw [if_neg h0, if_neg h1, if_neg h2])
        rw [hk]
        clear hk h0 h1 h2
        go_wp2_with fail
        have ID := Lib.hid (I5.out.below (Below.refl w5.heap.size w5).drew)
        have FD := Lib.hid (F5.out.trans (Fr.ofBelow (Below.refl w5.heap.size w5).drew I5.out.lt))
        refine wp_region_held_drew (S := (fun _ => True)) (by kernel_rfl) (trivial) (fun hHeld => ?_)
        refine wpAnyH_take (i := 0) (oi := { dst := some 20, op := Op.move (Operand.tmp 6), type := 3, pos := "read.go:73", after := #[], guard := none }) (v := ?vkn0) rfl (by kernel_rfl) (by kernel_rfl) (by kernel_rfl) (fun _ _ _ h => h) (Or.inl ⟨by rfl, ?ykn0⟩) (by assumption) ?tkn0
        case ykn0 => (intro w hSw; try dsimp only at hSw); go_simp; try with_reducible rfl
        simp only [Act.put, List.setIfInBounds_toArray, List.set_cons_zero, List.set_cons_succ]
        refine wpAnyH_take (i := 1) (oi := { dst := some 21, op := Op.binOp BinOp.geq 3 (Operand.tmp 20) (Operand.const (Value.int IntKind.i64 0)) 3, type := 4, pos := "read.go:73", after := #[{ on := 0, ground := Ground.data }], guard := none }) (v := ?vkn1) rfl (by kernel_rfl) (by kernel_rfl) (by kernel_rfl) (fun _ _ _ h => h) (Or.inl ⟨by rfl, ?ykn1⟩) (by assumption) ?tkn1
        case ykn1 => (intro w hSw; try dsimp only at hSw); go_simp; try with_reducible rfl
        simp only [Act.put, List.setIfInBounds_toArray, List.set_cons_zero, List.set_cons_succ]
        refine wpAnyH_take (i := 2) (oi := { dst := some 22, op := Op.move (Operand.tmp 21), type := 4, pos := "read.go:73", after := #[{ on := 1, ground := Ground.data }], guard := none }) (v := ?vkn2) rfl (by kernel_rfl) (by kernel_rfl) (by kernel_rfl) (fun _ _ _ h => h) (Or.inl ⟨by rfl, ?ykn2⟩) (by assumption) ?tkn2
        case ykn2 => (intro w hSw; try dsimp only at hSw); go_simp; try with_reducible rfl
        simp only [Act.put, List.setIfInBounds_toArray, List.set_cons_zero, List.set_cons_succ]
        refine wpAnyH_take (i := 3) (oi := { dst := some 23, op := Op.move (Operand.tmp 5), type := 112, pos := "read.go:73", after := #[{ on := 2, ground := Ground.guard }], guard := some (2, true) }) (v := undef) rfl (by kernel_rfl) (by kernel_rfl) (by kernel_rfl) (fun _ _ _ h => h) (Or.inr ⟨by rfl, rfl⟩) (by assumption) ?_
        simp only [Act.put, List.setIfInBounds_toArray, List.set_cons_zero, List.set_cons_succ]
        refine wpAnyH_take (i := 4) (oi := { dst := some 24, op := Op.move (Operand.tmp 6), type := 3, pos := "read.go:73", after := #[{ on := 2, ground := Ground.guard }], guard := some (2, true) }) (v := undef) rfl (by kernel_rfl) (by kernel_rfl) (by kernel_rfl) (fun _ _ _ h => h) (Or.inr ⟨by rfl, rfl⟩) (by assumption) ?_
        simp only [Act.put, List.setIfInBounds_toArray, List.set_cons_zero, List.set_cons_succ]
        refine wpAnyH_take (i := 5) (oi := { dst := some 25, op := Op.indexAddr 112 (Operand.tmp 23) (Operand.tmp 24), type := 0, pos := "read.go:73", after := #[{ on := 3, ground := Ground.data }, { on := 4, ground := Ground.data }, { on := 2, ground := Ground.guard }], guard := some (2, true) }) (v := undef) rfl (by kernel_rfl) (by kernel_rfl) (by kernel_rfl) (fun _ _ _ h => h) (Or.inr ⟨by rfl, rfl⟩) (by assumption) ?_
        simp only [Act.put, List.setIfInBounds_toArray, List.set_cons_zero, List.set_cons_succ]
        refine wpAnyH_take (i := 6) (oi := { dst := some 26, op := Op.fieldAddr 117 (Operand.tmp 25) 1, type := 0, pos := "read.go:73", after := #[{ on := 5, ground := Ground.data }, { on := 2, ground := Ground.guard }], guard := some (2, true) }) (v := undef) rfl (by kernel_rfl) (by kernel_rfl) (by kernel_rfl) (fun _ _ _ h => h) (Or.inr ⟨by rfl, rfl⟩) (by assumption) ?_
        simp only [Act.put, List.setIfInBounds_toArray, List.set_cons_zero, List.set_cons_succ]
        refine wpAnyH_take (i := 7) (oi := { dst := some 27, op := Op.load 40 (Operand.tmp 26), type := 40, pos := "read.go:73", after := #[{ on := 6, ground := Ground.data }, { on := 2, ground := Ground.guard }], guard := some (2, true) }) (v := undef) rfl (by kernel_rfl) (by kernel_rfl) (by kernel_rfl) (fun _ _ _ h => h) (Or.inr ⟨by rfl, rfl⟩) (by assumption) ?_
        simp only [Act.put, List.setIfInBounds_toArray, List.set_cons_zero, List.set_cons_succ]
        refine wpAnyH_take (i := 8) (oi := { dst := some 28, op := Op.move (Operand.tmp 0), type := 74, pos := "read.go:73", after := #[{ on := 2, ground := Ground.guard }], guard := some (2, true) }) (v := undef) rfl (by kernel_rfl) (by kernel_rfl) (by kernel_rfl) (fun _ _ _ h => h) (Or.inr ⟨by rfl, rfl⟩) (by assumption) ?_
        simp only [Act.put, List.setIfInBounds_toArray, List.set_cons_zero, List.set_cons_succ]
        refine wpAnyH_take (i := 9) (oi := { dst := some 29, op := Op.nilCheck (Operand.tmp 28), type := 0, pos := "read.go:73", after := #[{ on := 8, ground := Ground.data }, { on := 2, ground := Ground.guard }], guard := some (2, true) }) (v := undef) rfl (by kernel_rfl) (by kernel_rfl) (by kernel_rfl) (fun _ _ _ h => h) (Or.inr ⟨by rfl, rfl⟩) (by assumption) ?_
        simp only [Act.put, List.setIfInBounds_toArray, List.set_cons_zero, List.set_cons_succ]
        refine wpAnyH_take (i := 10) (oi := { dst := some 30, op := Op.fieldAddr 76 (Operand.tmp 29) 2, type := 0, pos := "read.go:73", after := #[{ on := 9, ground := Ground.data }, { on := 2, ground := Ground.guard }], guard := some (2, true) }) (v := undef) rfl (by kernel_rfl) (by kernel_rfl) (by kernel_rfl) (fun _ _ _ h => h) (Or.inr ⟨by rfl, rfl⟩) (by assumption) ?_
        simp only [Act.put, List.setIfInBounds_toArray, List.set_cons_zero, List.set_cons_succ]
        refine wpAnyH_take (i := 11) (oi := { dst := some 31, op := Op.load 9 (Operand.tmp 30), type := 9, pos := "read.go:73", after := #[{ on := 10, ground := Ground.data }, { on := 2, ground := Ground.guard }], guard := some (2, true) }) (v := undef) rfl (by kernel_rfl) (by kernel_rfl) (by kernel_rfl) (fun _ _ _ h => h) (Or.inr ⟨by rfl, rfl⟩) (by assumption) ?_
        simp only [Act.put, List.setIfInBounds_toArray, List.set_cons_zero, List.set_cons_succ]
        refine wpAnyH_take (i := 12) (oi := { dst := some 32, op := Op.call { callee := Callee.value (Operand.func 83), args := #[Operand.tmp 27, Operand.tmp 31], argTypes := #[40, 9] }, type := 4, pos := "read.go:73", after := #[{ on := 7, ground := Ground.data }, { on := 11, ground := Ground.data }, { on := 2, ground := Ground.chain }, { on := 2, ground := Ground.guard }], guard := some (2, true) }) (v := undef) rfl (by kernel_rfl) (by kernel_rfl) (by kernel_rfl) (fun _ _ _ h => h) (Or.inr ⟨by rfl, rfl⟩) (by assumption) ?_
        simp only [Act.put, List.setIfInBounds_toArray, List.set_cons_zero, List.set_cons_succ]
        refine wpAnyH_take (i := 13) (oi := { dst := some 33, op := Op.pick (Operand.tmp 22) (Operand.tmp 32) (Operand.const (Value.bool false)), type := 4, pos := "read.go:73", after := #[{ on := 2, ground := Ground.data }, { on := 12, ground := Ground.data }], guard := none }) (v := ?vkn13) rfl (by kernel_rfl) (by kernel_rfl) (by kernel_rfl) (fun _ _ _ h => h) (Or.inl ⟨by rfl, ?ykn13⟩) (by assumption) ?tkn13
        case ykn13 => (intro w hSw; try dsimp only at hSw); go_simp; try with_reducible rfl
        simp only [Act.put, List.setIfInBounds_toArray, List.set_cons_zero, List.set_cons_succ]
        refine wpAnyH_ready (rs := [14]) (by kernel_rfl) (by simp) ?_
        refine AllReadyH.cons (o := { dst := some 34, op := Op.call { callee := Callee.value (Operand.func 63), args := #[Operand.tmp 33], argTypes := #[4] }, type := 0, pos := "read.go:73", after := #[{ on := 13, ground := Ground.data }, { on := 12, ground := Ground.chain }], guard := none }) rfl (fun K hK => ?_) AllReadyH.nil
        go_simp
        refine (HN.out _ ID.out.ok.tab).mono ?_; rintro e w6 ⟨rfl, rfl⟩
        have hX : X = none := by rw [HX.out, HM.out]; rfl
        exact ⟨rfl, by rw [hX]; exact ⟨rfl, FD.out, _, ID.out.ok.at_, rfl⟩⟩
end Go.Proofs.YtcaclijkkbhfhaaGreatDoor
