/-
  The walk of RatioText, the string not parsed, Clamp's answer number 0.
-/
import Derived.Test.YtkkhmgcjaehnkaaDoorTxtB
namespace Go.Proofs.YtkkhmgcjaehnkaaDoor
open Go.RowKit Go.Shelf

set_option maxRecDepth 100000 in
set_option maxHeartbeats 4000000 in
theorem txtW_n_0y (a b c d e f : Int) (s S : ByteArray) (hS : s.extract 0 (min (s.size : Int) 60).toNat = S) (hSz : S.size ≤ 60) (w : World) (ad : Addr) (ht : Tab ad w) (fa : Fits a ∧ Fits b) (fc : Fits c ∧ Fits d) (fe : Fits e ∧ Fits f) (hp : Ra.parse S.data.toList = none) (p0 q0 p1 q1 p2 q2 : Int) (h0 : Ra.red a b = some (p0, q0)) (h1 : Ra.red c d = some (p1, q1)) (h2 : Ra.red e f = some (p2, q2))
    (hc : clampR p0 q0 p1 q1 p2 q2 = (p0, q0)) (A : Int) (hA : cmpR p1 q1 p2 q2 = A) (hAA : 0 < A) :
    Calls Tryd.prog 4 #[pairsV a b c d e f, .string s] w fun e' w' => e' = .returned (.bool true) ∧ Below w.heap.size w w' := by
  have o0 := (Ra.red_ok h0).1; have o1 := (Ra.red_ok h1).1; have o2 := (Ra.red_ok h2).1
  have F0 := ok_fits o0; have F1 := ok_fits o1; have F2 := ok_fits o2
  have hs := fun w ht => sane_any w ad ht
  have hm := fun w ht => made_yes a b c d e f p0 q0 p1 q1 p2 q2 w ad ht fa fc fe h0 h1 h2
  have HS := Lib.hid hs; have HM := Lib.hid hm; have T0 := Lib.hid ht
  have PA := Lib.hid (Parse_none (a := ad) hp hSz); have PB := Lib.hid (Print_zero); have PC := Lib.hid (is_any 0 0)
  obtain ⟨U, hU⟩ : ∃ U, txtB p0 q0 = U := ⟨_, rfl⟩
  have uq := text_again o0 hU
  have PU := Lib.hid (Print_some (a := ad) o0 hU); have PV := Lib.hid (Parse_some (a := ad) uq.1 uq.2); have PW := Lib.hid (Clamp_at hc F0 F1 F2)
  have CA := Lib.hid (Compare_at o1 o2 hA)
  have l1 : decide (0 < A) = true := decide_eq_true hAA
  clear hs hm ht fa fc fe h0 h1 h2 o0 o1 o2 F0 F1 F2 hp hSz hU uq hc hA hAA
  have R0 := Lib.hid (SixAt.new w 33 a b c d e f)
  go_enter Tryd.func4, Tryd.ntmps4
  go_wp2_with fail
  have Lc := Lib.hid (below_new w (.cells #[.int .i64 a, .int .i64 b, .int .i64 c, .int .i64 d, .int .i64 e, .int .i64 f] 33))
  have X := R0
  refine (HS.out _ (T0.out.below Lc.out)).mono ?_; rintro e w1 ⟨rfl, g1⟩
  have Lc := Lib.hid (below_step Lc.out g1)
  have X := Lib.hid (X.out.below g1)
  go_wp2_with fail
  refine (PA.out _ (T0.out.below Lc.out)).mono ?_; rintro e w2 ⟨rfl, g2⟩
  have Lc := Lib.hid (below_step Lc.out g2)
  have X := Lib.hid (X.out.below g2)
  have X := Lib.hid (X.out.below (below_new w2 (.cells #[.int .i64 0, .int .i64 0] 27)))
  have K := Lib.hid (BoxAt.new w2 0 0)
  have Lc := Lib.hid (below_step Lc.out (below_new w2 (.cells #[.int .i64 0, .int .i64 0] 27)))
  have K0 := K.out.2.1; have K1 := K.out.2.2
  go_wp2_with fail
  clear K0 K1
  refine (PB.out _).mono ?_; rintro e w3 ⟨rfl, g3⟩
  have Lc := Lib.hid (below_step Lc.out g3)
  have X := Lib.hid (X.out.below g3)
  have K := Lib.hid (K.out.below g3)
  have K0 := K.out.2.1; have K1 := K.out.2.2
  go_wp2_with fail
  have HST : Hid (∀ v1 v2, (v1.cell? ⟨w2.heap.size, 0, none⟩ = some (.int .i64 0) ∧ v1.cell? ⟨w2.heap.size, 1, none⟩ = some (.int .i64 0) ∧ Below w3.heap.size w3 v1) → Below v1.heap.size v1 v2 → (v2.cell? ⟨w2.heap.size, 0, none⟩ = some (.int .i64 0) ∧ v2.cell? ⟨w2.heap.size, 1, none⟩ = some (.int .i64 0) ∧ Below w3.heap.size w3 v2)) := Lib.hid fun v1 v2 ⟨h1, h2, h3⟩ hb => ⟨cell_below hb h1, cell_below hb h2, below_step h3 hb⟩
  have HS0 : Hid (w3.cell? ⟨w2.heap.size, 0, none⟩ = some (.int .i64 0) ∧ w3.cell? ⟨w2.heap.size, 1, none⟩ = some (.int .i64 0) ∧ Below w3.heap.size w3 w3) := Lib.hid ⟨K0, K1, Below.refl _ _⟩
  refine wp_region_held_drew (S := (fun v => v.cell? ⟨w2.heap.size, 0, none⟩ = some (.int .i64 0) ∧ v.cell? ⟨w2.heap.size, 1, none⟩ = some (.int .i64 0) ∧ Below w3.heap.size w3 v)) (by kernel_rfl) (HST.out _ _ HS0.out (Below.refl _ _).drew) (fun hHeld => ?_)
  refine wpAnyH_take (i := 0) (oi := { dst := some 34, op := Op.move (Operand.tmp 7), type := 23, pos := "law.go:229", after := #[], guard := none }) (v := ?vr0) rfl (by kernel_rfl) (by kernel_rfl) (by kernel_rfl) (fun _ _ _ h => h) (Or.inl ⟨by rfl, ?yr0⟩) (by assumption) ?tr0
  case yr0 => (intro w hSw; try dsimp only at hSw); go_simp; try with_reducible rfl
  simp only [Act.put, List.setIfInBounds_toArray, List.set_cons_zero, List.set_cons_succ]
  refine wpAnyH_take (i := 1) (oi := { dst := some 35, op := Op.binOp BinOp.eql 23 (Operand.tmp 34) (Operand.const (Value.int IntKind.i64 0)) 23, type := 4, pos := "law.go:229", after := #[{ on := 0, ground := Ground.data }], guard := none }) (v := ?vr1) rfl (by kernel_rfl) (by kernel_rfl) (by kernel_rfl) (fun _ _ _ h => h) (Or.inl ⟨by rfl, ?yr1⟩) (by assumption) ?tr1
  case yr1 => (intro w hSw; try dsimp only at hSw); go_simp; try with_reducible rfl
  simp only [Act.put, List.setIfInBounds_toArray, List.set_cons_zero, List.set_cons_succ]
  refine wpAnyH_take (i := 2) (oi := { dst := some 36, op := Op.move (Operand.tmp 9), type := 23, pos := "law.go:229", after := #[], guard := none }) (v := ?vr2) rfl (by kernel_rfl) (by kernel_rfl) (by kernel_rfl) (fun _ _ _ h => h) (Or.inl ⟨by rfl, ?yr2⟩) (by assumption) ?tr2
  case yr2 => (intro w hSw; try dsimp only at hSw); go_simp; try with_reducible rfl
  simp only [Act.put, List.setIfInBounds_toArray, List.set_cons_zero, List.set_cons_succ]
  refine wpAnyH_take (i := 3) (oi := { dst := some 37, op := Op.binOp BinOp.eql 23 (Operand.tmp 36) (Operand.const (Value.int IntKind.i64 0)) 23, type := 4, pos := "law.go:229", after := #[{ on := 2, ground := Ground.data }], guard := none }) (v := ?vr3) rfl (by kernel_rfl) (by kernel_rfl) (by kernel_rfl) (fun _ _ _ h => h) (Or.inl ⟨by rfl, ?yr3⟩) (by assumption) ?tr3
  case yr3 => (intro w hSw; try dsimp only at hSw); go_simp; try with_reducible rfl
  simp only [Act.put, List.setIfInBounds_toArray, List.set_cons_zero, List.set_cons_succ]
  refine wpAnyH_take (i := 4) (oi := { dst := some 38, op := Op.binOp BinOp.neq 4 (Operand.tmp 35) (Operand.tmp 37) 4, type := 4, pos := "law.go:229", after := #[{ on := 1, ground := Ground.data }, { on := 3, ground := Ground.data }], guard := none }) (v := ?vr4) rfl (by kernel_rfl) (by kernel_rfl) (by kernel_rfl) (fun _ _ _ h => h) (Or.inl ⟨by rfl, ?yr4⟩) (by assumption) ?tr4
  case yr4 => (intro w hSw; try dsimp only at hSw); go_simp; try with_reducible rfl
  simp only [Act.put, List.setIfInBounds_toArray, List.set_cons_zero, List.set_cons_succ]
  refine wpAnyH_take (i := 5) (oi := { dst := some 39, op := Op.move (Operand.tmp 38), type := 4, pos := "law.go:229", after := #[{ on := 4, ground := Ground.data }], guard := none }) (v := ?vr5) rfl (by kernel_rfl) (by kernel_rfl) (by kernel_rfl) (fun _ _ _ h => h) (Or.inl ⟨by rfl, ?yr5⟩) (by assumption) ?tr5
  case yr5 => (intro w hSw; try dsimp only at hSw); go_simp; try with_reducible rfl
  simp only [Act.put, List.setIfInBounds_toArray, List.set_cons_zero, List.set_cons_succ]
  refine wpAnyH_take (i := 6) (oi := { dst := some 40, op := Op.move (Operand.tmp 7), type := 23, pos := "law.go:229", after := #[{ on := 5, ground := Ground.guard }], guard := some (5, false) }) (v := ?vr6) rfl (by kernel_rfl) (by kernel_rfl) (by kernel_rfl) (fun _ _ _ h => h) (Or.inl ⟨by rfl, ?yr6⟩) (by assumption) ?tr6
  case yr6 => (intro w hSw; try dsimp only at hSw); go_simp; try with_reducible rfl
  simp only [Act.put, List.setIfInBounds_toArray, List.set_cons_zero, List.set_cons_succ]
  refine wpAnyH_take (i := 7) (oi := { dst := some 41, op := Op.binOp BinOp.eql 23 (Operand.tmp 40) (Operand.const (Value.int IntKind.i64 0)) 23, type := 4, pos := "law.go:229", after := #[{ on := 6, ground := Ground.data }, { on := 5, ground := Ground.guard }], guard := some (5, false) }) (v := ?vr7) rfl (by kernel_rfl) (by kernel_rfl) (by kernel_rfl) (fun _ _ _ h => h) (Or.inl ⟨by rfl, ?yr7⟩) (by assumption) ?tr7
  case yr7 => (intro w hSw; try dsimp only at hSw); go_simp; try with_reducible rfl
  simp only [Act.put, List.setIfInBounds_toArray, List.set_cons_zero, List.set_cons_succ]
  refine wpAnyH_take (i := 8) (oi := { dst := some 42, op := Op.move (Operand.tmp 41), type := 4, pos := "law.go:229", after := #[{ on := 7, ground := Ground.data }, { on := 5, ground := Ground.chain }, { on := 5, ground := Ground.guard }], guard := some (5, false) }) (v := ?vr8) rfl (by kernel_rfl) (by kernel_rfl) (by kernel_rfl) (fun _ _ _ h => h) (Or.inl ⟨by rfl, ?yr8⟩) (by assumption) ?tr8
  case yr8 => (intro w hSw; try dsimp only at hSw); go_simp; try with_reducible rfl
  simp only [Act.put, List.setIfInBounds_toArray, List.set_cons_zero, List.set_cons_succ]
  refine wpAnyH_take (i := 9) (oi := { dst := some 43, op := Op.move (Operand.tmp 8), type := 9, pos := "law.go:229", after := #[{ on := 8, ground := Ground.guard }], guard := some (8, true) }) (v := undef) rfl (by kernel_rfl) (by kernel_rfl) (by kernel_rfl) (fun _ _ _ h => h) (Or.inr ⟨by rfl, rfl⟩) (by assumption) ?_
  simp only [Act.put, List.setIfInBounds_toArray, List.set_cons_zero, List.set_cons_succ]
  refine wpAnyH_take (i := 10) (oi := { dst := some 44, op := Op.move (Operand.tmp 1), type := 9, pos := "law.go:229", after := #[{ on := 8, ground := Ground.guard }], guard := some (8, true) }) (v := undef) rfl (by kernel_rfl) (by kernel_rfl) (by kernel_rfl) (fun _ _ _ h => h) (Or.inr ⟨by rfl, rfl⟩) (by assumption) ?_
  simp only [Act.put, List.setIfInBounds_toArray, List.set_cons_zero, List.set_cons_succ]
  refine wpAnyH_take (i := 11) (oi := { dst := some 45, op := Op.binOp BinOp.neq 9 (Operand.tmp 43) (Operand.tmp 44) 9, type := 4, pos := "law.go:229", after := #[{ on := 9, ground := Ground.data }, { on := 10, ground := Ground.data }, { on := 8, ground := Ground.guard }], guard := some (8, true) }) (v := undef) rfl (by kernel_rfl) (by kernel_rfl) (by kernel_rfl) (fun _ _ _ h => h) (Or.inr ⟨by rfl, rfl⟩) (by assumption) ?_
  simp only [Act.put, List.setIfInBounds_toArray, List.set_cons_zero, List.set_cons_succ]
  refine wpAnyH_take (i := 12) (oi := { dst := some 46, op := Op.pick (Operand.tmp 42) (Operand.tmp 45) (Operand.const (Value.bool false)), type := 4, pos := "law.go:229", after := #[{ on := 8, ground := Ground.data }, { on := 11, ground := Ground.data }, { on := 5, ground := Ground.guard }], guard := some (5, false) }) (v := ?vr12) rfl (by kernel_rfl) (by kernel_rfl) (by kernel_rfl) (fun _ _ _ h => h) (Or.inl ⟨by rfl, ?yr12⟩) (by assumption) ?tr12
  case yr12 => (intro w hSw; try dsimp only at hSw); go_simp; try with_reducible rfl
  simp only [Act.put, List.setIfInBounds_toArray, List.set_cons_zero, List.set_cons_succ]
  refine wpAnyH_take (i := 13) (oi := { dst := some 47, op := Op.pick (Operand.tmp 39) (Operand.const (Value.bool true)) (Operand.tmp 46), type := 4, pos := "law.go:229", after := #[{ on := 5, ground := Ground.data }, { on := 12, ground := Ground.data }], guard := none }) (v := ?vr13) rfl (by kernel_rfl) (by kernel_rfl) (by kernel_rfl) (fun _ _ _ h => h) (Or.inl ⟨by rfl, ?yr13⟩) (by assumption) ?tr13
  case yr13 => (intro w hSw; try dsimp only at hSw); go_simp; try with_reducible rfl
  simp only [Act.put, List.setIfInBounds_toArray, List.set_cons_zero, List.set_cons_succ]
  refine wpAnyH_take (i := 14) (oi := { dst := some 48, op := Op.move (Operand.tmp 47), type := 4, pos := "law.go:229", after := #[{ on := 13, ground := Ground.data }, { on := 8, ground := Ground.chain }], guard := none }) (v := ?vr14) rfl (by kernel_rfl) (by kernel_rfl) (by kernel_rfl) (fun _ _ _ h => h) (Or.inl ⟨by rfl, ?yr14⟩) (by assumption) ?tr14
  case yr14 => (intro w hSw; try dsimp only at hSw); go_simp; try with_reducible rfl
  simp only [Act.put, List.setIfInBounds_toArray, List.set_cons_zero, List.set_cons_succ]
  refine wpAnyH_take (i := 15) (oi := { dst := some 49, op := Op.move (Operand.tmp 7), type := 23, pos := "law.go:229", after := #[{ on := 14, ground := Ground.guard }], guard := some (14, false) }) (v := ?vr15) rfl (by kernel_rfl) (by kernel_rfl) (by kernel_rfl) (fun _ _ _ h => h) (Or.inl ⟨by rfl, ?yr15⟩) (by assumption) ?tr15
  case yr15 => (intro w hSw; try dsimp only at hSw); go_simp; try with_reducible rfl
  simp only [Act.put, List.setIfInBounds_toArray, List.set_cons_zero, List.set_cons_succ]
  refine wpAnyH_take (i := 16) (oi := { dst := some 50, op := Op.binOp BinOp.neq 23 (Operand.tmp 49) (Operand.const (Value.int IntKind.i64 0)) 23, type := 4, pos := "law.go:229", after := #[{ on := 15, ground := Ground.data }, { on := 14, ground := Ground.guard }], guard := some (14, false) }) (v := ?vr16) rfl (by kernel_rfl) (by kernel_rfl) (by kernel_rfl) (fun _ _ _ h => h) (Or.inl ⟨by rfl, ?yr16⟩) (by assumption) ?tr16
  case yr16 => (intro w hSw; try dsimp only at hSw); go_simp; try with_reducible rfl
  simp only [Act.put, List.setIfInBounds_toArray, List.set_cons_zero, List.set_cons_succ]
  refine wpAnyH_take (i := 17) (oi := { dst := some 51, op := Op.move (Operand.tmp 50), type := 4, pos := "law.go:229", after := #[{ on := 16, ground := Ground.data }, { on := 14, ground := Ground.chain }, { on := 14, ground := Ground.guard }], guard := some (14, false) }) (v := ?vr17) rfl (by kernel_rfl) (by kernel_rfl) (by kernel_rfl) (fun _ _ _ h => h) (Or.inl ⟨by rfl, ?yr17⟩) (by assumption) ?tr17
  case yr17 => (intro w hSw; try dsimp only at hSw); go_simp; try with_reducible rfl
  simp only [Act.put, List.setIfInBounds_toArray, List.set_cons_zero, List.set_cons_succ]
  refine wpAnyH_take (i := 18) (oi := { dst := some 52, op := Op.load 27 (Operand.tmp 6), type := 27, pos := "law.go:229", after := #[{ on := 17, ground := Ground.guard }], guard := some (17, true) }) (v := ?vr18) rfl (by kernel_rfl) (by kernel_rfl) (by kernel_rfl) (fun _ _ _ h => h) (Or.inl ⟨by rfl, ?yr18⟩) (by assumption) ?tr18
  case yr18 => (intro w hSw; try dsimp only at hSw); go_simp; try with_reducible rfl
  simp only [Act.put, List.setIfInBounds_toArray, List.set_cons_zero, List.set_cons_succ]
  refine wpAnyH_ready (rs := [19]) (by kernel_rfl) (by simp) ?_
  refine AllReadyH.cons (o := { dst := some 53, op := Op.call { callee := Callee.value (Operand.func 7), args := #[Operand.const (Value.int IntKind.i64 0), Operand.const (Value.int IntKind.i64 0)], argTypes := #[3, 3] }, type := 27, pos := "law.go:229", after := #[{ on := 17, ground := Ground.chain }, { on := 17, ground := Ground.guard }], guard := some (17, true) }) rfl (fun K hK => ?_) AllReadyH.nil
  go_simp
  (with_reducible refine (PC.out _).mono ?_)
  rintro e v4 ⟨rfl, hb4⟩
  try go_wp2_with fail
  refine hK.out _ _ (HST.out _ _ hHeld hb4) (fun hHeld' => ?_)
  clear hK K hHeld
  have hHeld := hHeld'; clear hHeld'
  try simp only [Act.put, List.setIfInBounds_toArray, List.set_cons_zero, List.set_cons_succ]
  refine wpAnyH_take (i := 20) (oi := { dst := some 54, op := Op.binOp BinOp.neq 27 (Operand.tmp 52) (Operand.tmp 53) 27, type := 4, pos := "law.go:229", after := #[{ on := 18, ground := Ground.data }, { on := 19, ground := Ground.data }, { on := 17, ground := Ground.guard }], guard := some (17, true) }) (v := ?vr20) rfl (by kernel_rfl) (by kernel_rfl) (by kernel_rfl) (fun _ _ _ h => h) (Or.inl ⟨by rfl, ?yr20⟩) (by assumption) ?tr20
  case yr20 => (intro w hSw; try dsimp only at hSw); go_simp; try with_reducible rfl
  simp only [Act.put, List.setIfInBounds_toArray, List.set_cons_zero, List.set_cons_succ]
  refine wpAnyH_take (i := 21) (oi := { dst := some 55, op := Op.pick (Operand.tmp 51) (Operand.tmp 54) (Operand.const (Value.bool false)), type := 4, pos := "law.go:229", after := #[{ on := 17, ground := Ground.data }, { on := 20, ground := Ground.data }, { on := 14, ground := Ground.guard }], guard := some (14, false) }) (v := ?vr21) rfl (by kernel_rfl) (by kernel_rfl) (by kernel_rfl) (fun _ _ _ h => h) (Or.inl ⟨by rfl, ?yr21⟩) (by assumption) ?tr21
  case yr21 => (intro w hSw; try dsimp only at hSw); go_simp; try with_reducible rfl
  simp only [Act.put, List.setIfInBounds_toArray, List.set_cons_zero, List.set_cons_succ]
  refine wpAnyH_take (i := 22) (oi := { dst := some 56, op := Op.pick (Operand.tmp 48) (Operand.const (Value.bool true)) (Operand.tmp 55), type := 4, pos := "law.go:229", after := #[{ on := 14, ground := Ground.data }, { on := 21, ground := Ground.data }], guard := none }) (v := ?vr22) rfl (by kernel_rfl) (by kernel_rfl) (by kernel_rfl) (fun _ _ _ h => h) (Or.inl ⟨by rfl, ?yr22⟩) (by assumption) ?tr22
  case yr22 => (intro w hSw; try dsimp only at hSw); go_simp; try with_reducible rfl
  simp only [Act.put, List.setIfInBounds_toArray, List.set_cons_zero, List.set_cons_succ]
  refine wpAnyH_done (by kernel_rfl) ?_ _
  have G5 := hHeld.2.2
  clear hHeld K0 K1 HST HS0
  have Lc := Lib.hid (below_step Lc.out G5)
  have X := Lib.hid (X.out.below G5)
  have K := Lib.hid (K.out.below G5)
  clear G5
  have X0 := X.out.c0
  have X1 := X.out.c1
  have X2 := X.out.c2
  have X3 := X.out.c3
  have X4 := X.out.c4
  have X5 := X.out.c5
  go_wp2_with fail
  clear X0 X1 X2 X3 X4 X5
  refine (HM.out _ (T0.out.below Lc.out)).mono ?_; rintro e w4 ⟨rfl, g4⟩
  have Lc := Lib.hid (below_step Lc.out g4)
  have X := Lib.hid (X.out.below g4)
  have K := Lib.hid (K.out.below g4)
  have X := Lib.hid (X.out.below (below_new w4 (.cells #[.int .i64 p0, .int .i64 q0, .int .i64 p1, .int .i64 q1, .int .i64 p2, .int .i64 q2] 34)))
  have K := Lib.hid (K.out.below (below_new w4 (.cells #[.int .i64 p0, .int .i64 q0, .int .i64 p1, .int .i64 q1, .int .i64 p2, .int .i64 q2] 34)))
  have L := Lib.hid (SixAt.new w4 34 p0 q0 p1 q1 p2 q2)
  have Lc := Lib.hid (below_step Lc.out (below_new w4 (.cells #[.int .i64 p0, .int .i64 q0, .int .i64 p1, .int .i64 q1, .int .i64 p2, .int .i64 q2] 34)))
  have L0 := L.out.c0
  have L1 := L.out.c1
  have L2 := L.out.c2
  have L3 := L.out.c3
  have L4 := L.out.c4
  have L5 := L.out.c5
  go_wp2_with fail
  clear L0 L1 L2 L3 L4 L5
  refine (PU.out _ (T0.out.below Lc.out)).mono ?_; rintro e w5 ⟨rfl, g5⟩
  have Lc := Lib.hid (below_step Lc.out g5)
  have X := Lib.hid (X.out.below g5)
  have K := Lib.hid (K.out.below g5)
  have L := Lib.hid (L.out.below g5)
  have L0 := L.out.c0
  have L1 := L.out.c1
  have L2 := L.out.c2
  have L3 := L.out.c3
  have L4 := L.out.c4
  have L5 := L.out.c5
  go_wp2_with fail
  clear L0 L1 L2 L3 L4 L5
  refine (PV.out _ (T0.out.below Lc.out)).mono ?_; rintro e w6 ⟨rfl, g6⟩
  have Lc := Lib.hid (below_step Lc.out g6)
  have X := Lib.hid (X.out.below g6)
  have K := Lib.hid (K.out.below g6)
  have L := Lib.hid (L.out.below g6)
  have X := Lib.hid (X.out.below (below_new w6 (.cells #[.int .i64 p0, .int .i64 q0] 27)))
  have K := Lib.hid (K.out.below (below_new w6 (.cells #[.int .i64 p0, .int .i64 q0] 27)))
  have L := Lib.hid (L.out.below (below_new w6 (.cells #[.int .i64 p0, .int .i64 q0] 27)))
  have J := Lib.hid (BoxAt.new w6 p0 q0)
  have Lc := Lib.hid (below_step Lc.out (below_new w6 (.cells #[.int .i64 p0, .int .i64 q0] 27)))
  have L0 := L.out.c0
  have L1 := L.out.c1
  have L2 := L.out.c2
  have L3 := L.out.c3
  have L4 := L.out.c4
  have L5 := L.out.c5
  go_wp2_with fail
  clear L0 L1 L2 L3 L4 L5
  refine (PW.out _).mono ?_; rintro e w7 ⟨rfl, g7⟩
  have Lc := Lib.hid (below_step Lc.out g7)
  have X := Lib.hid (X.out.below g7)
  have K := Lib.hid (K.out.below g7)
  have L := Lib.hid (L.out.below g7)
  have J := Lib.hid (J.out.below g7)
  have X := Lib.hid (X.out.below (below_new w7 (.cells #[.int .i64 p0, .int .i64 q0] 27)))
  have K := Lib.hid (K.out.below (below_new w7 (.cells #[.int .i64 p0, .int .i64 q0] 27)))
  have L := Lib.hid (L.out.below (below_new w7 (.cells #[.int .i64 p0, .int .i64 q0] 27)))
  have J := Lib.hid (J.out.below (below_new w7 (.cells #[.int .i64 p0, .int .i64 q0] 27)))
  have V := Lib.hid (BoxAt.new w7 p0 q0)
  have Lc := Lib.hid (below_step Lc.out (below_new w7 (.cells #[.int .i64 p0, .int .i64 q0] 27)))
  have L0 := L.out.c0
  have L1 := L.out.c1
  have L2 := L.out.c2
  have L3 := L.out.c3
  have L4 := L.out.c4
  have L5 := L.out.c5
  have V0 := V.out.2.1; have V1 := V.out.2.2
  go_wp2_with fail
  clear L0 L1 L2 L3 L4 L5 V0 V1
  refine (CA.out _).mono ?_; rintro e w8 ⟨rfl, g8⟩
  have Lc := Lib.hid (below_step Lc.out g8)
  have X := Lib.hid (X.out.below g8)
  have K := Lib.hid (K.out.below g8)
  have L := Lib.hid (L.out.below g8)
  have J := Lib.hid (J.out.below g8)
  have V := Lib.hid (V.out.below g8)
  have L0 := L.out.c0
  have L1 := L.out.c1
  have L2 := L.out.c2
  have L3 := L.out.c3
  have L4 := L.out.c4
  have L5 := L.out.c5
  have J0 := J.out.2.1; have J1 := J.out.2.2
  have V0 := V.out.2.1; have V1 := V.out.2.2
  go_wp2_with fail
  all_goals
    clear L0 L1 L2 L3 L4 L5 J0 J1 V0 V1
    go_ret
    exact ⟨rfl, Lc.out⟩
end Go.Proofs.YtkkhmgcjaehnkaaDoor
