/-
  The walk of FlowMatchesReference (written by tools/l04_matches.py).
-/
import Derived.Test.YtblnfcffalaeaaaGreatDoorBent
import Derived.Test.YtblnfcffalaeaaaGreatDoorFew
import Derived.Test.YtblnfcffalaeaaaGreatDoorRefM
namespace Go.Proofs.YtblnfcffalaeaaaGreatDoor
open Go.RowKit Go.Shelf

abbrev threeF (r q t : FlowP) : Array Value := #[.int .i64 r.least, .int .i64 r.most, .slice r.sa r.P.length r.sc, .slice r.wa r.W.length r.wc, .int .i64 q.least, .int .i64 q.most, .slice q.sa q.P.length q.sc, .slice q.wa q.W.length q.wc, .int .i64 t.least, .int .i64 t.most, .slice t.sa t.P.length t.sc, .slice t.wa t.W.length t.wc]
/-- The three flows of the statement, side by side; the box of the second one. -/
structure ThreeF (B L A : Nat) (r q t : FlowP) (W w : World) : Prop where
  box : w.heap[L]? = some (.cells (threeF r q t) 25)
  abox : w.heap[A]? = some (flowBox q)
  ok1 : r.ok w
  ok2 : q.ok w
  ok3 : t.ok w
  bel : Below B W w
  base : B ≤ W.heap.size
theorem ThreeF.below {B L A : Nat} {r q t : FlowP} {W w w' : World} (h : ThreeF B L A r q t W w) (hb : Below w.heap.size w w') : ThreeF B L A r q t W w' :=
  ⟨(hb.block _ (lt_of_block h.box)).trans h.box, (hb.block _ (lt_of_block h.abox)).trans h.abox, h.ok1.below hb, h.ok2.below hb, h.ok3.below hb, h.bel.trans (hb.mono (Nat.le_trans h.base h.bel.size)), h.base⟩
theorem ThreeF.at {B L A : Nat} {r q t : FlowP} {W w : World} (h : ThreeF B L A r q t W w) (k : Nat) (hk : k < 3) : ∃ F : FlowP, F.ok w ∧ w.cell? ⟨L, k * 4, none⟩ = some (.int .i64 F.least) ∧ w.cell? ⟨L, k * 4 + 1, none⟩ = some (.int .i64 F.most) ∧
    w.cell? ⟨L, k * 4 + 2, none⟩ = some (.slice F.sa F.P.length F.sc) ∧ w.cell? ⟨L, k * 4 + 3, none⟩ = some (.slice F.wa F.W.length F.wc) := by
  rcases (by omega : k = 0 ∨ k = 1 ∨ k = 2) with rfl | rfl | rfl
  · exact ⟨r, h.ok1, block_cell h.box 0 _ rfl, block_cell h.box 1 _ rfl, block_cell h.box 2 _ rfl, block_cell h.box 3 _ rfl⟩
  · exact ⟨q, h.ok2, block_cell h.box 4 _ rfl, block_cell h.box 5 _ rfl, block_cell h.box 6 _ rfl, block_cell h.box 7 _ rfl⟩
  · exact ⟨t, h.ok3, block_cell h.box 8 _ rfl, block_cell h.box 9 _ rfl, block_cell h.box 10 _ rfl, block_cell h.box 11 _ rfl⟩

set_option maxRecDepth 100000 in
set_option maxHeartbeats 8000000 in
theorem matches_any (raw : FlowP) (xa : Option Addr) (xc : Nat) (X : List (List Int)) (ya : Option Addr) (yc : Nat) (Y : List (List Int)) (h0 h1 h2 : Int) (w : World) (ht : ∃ a, Tab a w) (hr : raw.ok w) (hf : FlowFits raw) (hX : ArrsA 6 w xa xc X) (hY : ArrsA 3 w ya yc Y) (f0 : Fits h0) (f1 : Fits h1) (f2 : Fits h2) :
    Calls Tryz.prog 3 #[raw.v, .slice xa X.length xc, .slice ya Y.length yc, .agg #[.int .i64 h0, .int .i64 h1, .int .i64 h2]] w fun e w' => e = .returned (.bool true) ∧ Below w.heap.size w w' := by
  obtain ⟨a, ht⟩ := ht
  have HT := Lib.hid ht; have HX := Lib.hid hX; have HY := Lib.hid hY; have HRW := Lib.hid hr; have HRF := Lib.hid hf; have FT := Lib.hid (And.intro f0 (And.intro f1 f2))
  clear ht hX hY hr hf f0 f1 f2
  go_enter Tryz.func3, Tryz.ntmps3
  go_wp2_with fail
  have FA : Hid (((w.alloc (flowBox raw)).alloc (.cells #[.int .i64 h0, .int .i64 h1, .int .i64 h2] 28)).heap[w.heap.size]? = some (flowBox raw)) := Lib.hid (heap_alloc_old _ _ _ _ (heap_alloc_new _ _))
  have FD : Hid (((w.alloc (flowBox raw)).alloc (.cells #[.int .i64 h0, .int .i64 h1, .int .i64 h2] 28)).heap[w.heap.size + 1]? = some (.cells #[.int .i64 h0, .int .i64 h1, .int .i64 h2] 28)) := Lib.hid (by
    have := heap_alloc_new (w.alloc (flowBox raw)) (.cells #[.int .i64 h0, .int .i64 h1, .int .i64 h2] 28)
    rw [show (w.alloc (flowBox raw)).heap.size = w.heap.size + 1 by simp] at this; exact this)
  have G1 := Lib.hid (below_step (below_new w (flowBox raw)) (below_new (w.alloc (flowBox raw)) (.cells #[.int .i64 h0, .int .i64 h1, .int .i64 h2] 28)))
  generalize (w.alloc (flowBox raw)).alloc (.cells #[.int .i64 h0, .int .i64 h1, .int .i64 h2] 28) = w1 at *
  refine (sane_any _ a (HT.out.below G1.out)).mono ?_; rintro e w2 ⟨rfl, g2⟩
  have FA2 := Lib.hid ((g2.block _ (lt_of_block FA.out)).trans FA.out)
  have FD2 := Lib.hid ((g2.block _ (lt_of_block FD.out)).trans FD.out)
  have G2 := Lib.hid (below_step G1.out g2)
  clear g2 G1 FA FD
  go_wp2_with fail
  refine (Make_any X xa xc Y ya yc w2 (HX.out.below G2.out) (HY.out.below G2.out)).mono ?_
  rintro e w3 ⟨q, rfl, hq, hqv, -, -, g3⟩
  have FA3 := Lib.hid ((g3.block _ (lt_of_block FA2.out)).trans FA2.out)
  have FD3 := Lib.hid ((g3.block _ (lt_of_block FD2.out)).trans FD2.out)
  have Q3 := Lib.hid hq; have QV := Lib.hid hqv
  have G3 := Lib.hid (below_step G2.out g3)
  clear g3 hq hqv G2 FA2 FD2
  go_upto_region 3 with (fail)
  have g4 := below_new w3 (flowBox q)
  have AB : Hid ((w3.alloc (flowBox q)).heap[w3.heap.size]? = some (flowBox q)) := Lib.hid (heap_alloc_new _ _)
  have FA4 := Lib.hid ((g4.block _ (lt_of_block FA3.out)).trans FA3.out)
  have FD4 := Lib.hid ((g4.block _ (lt_of_block FD3.out)).trans FD3.out)
  have Q4 := Lib.hid (Q3.out.below g4)
  have G4 := Lib.hid (below_step G3.out g4)
  clear g4 Q3 G3 FA3 FD3
  generalize w3.alloc (flowBox q) = w4 at *
  generalize w3.heap.size = Z at *
  have a0 := block_cell AB.out 0 _ rfl
  have a1 := block_cell AB.out 1 _ rfl
  have a2 := block_cell AB.out 2 _ rfl
  have a3 := block_cell AB.out 3 _ rfl
  have VQ := Valid_any q w4 Q4.out
  rw [QV.out] at VQ
  have HVQ := Lib.hid VQ
  clear VQ
  go_wp2_with fail
  refine HVQ.out.mono ?_; rintro e w5 ⟨rfl, g5⟩
  have a0 := cell_below g5 a0
  have a1 := cell_below g5 a1
  have a2 := cell_below g5 a2
  have a3 := cell_below g5 a3
  have AB5 := Lib.hid ((g5.block _ (lt_of_block AB.out)).trans AB.out)
  have b0 := cell_below g5 (block_cell FA4.out 0 _ rfl)
  have b1 := cell_below g5 (block_cell FA4.out 1 _ rfl)
  have b2 := cell_below g5 (block_cell FA4.out 2 _ rfl)
  have b3 := cell_below g5 (block_cell FA4.out 3 _ rfl)
  have d0 := cell_below g5 (block_cell FD4.out 0 _ rfl)
  have d1 := cell_below g5 (block_cell FD4.out 1 _ rfl)
  have d2 := cell_below g5 (block_cell FD4.out 2 _ rfl)
  have G5 := Lib.hid (below_step G4.out g5)
  have QK := Lib.hid (Q4.out.below g5)
  have RAW := Lib.hid (HRW.out.below G5.out)
  clear g5 G4 Q4 AB FA4 FD4 HVQ
  go_upto_region 5 with (fail)
  refine wp_region_held_drew (S := (fun v => Below w5.heap.size w5 v)) (by kernel_rfl) ((Below.refl w5.heap.size w5).drew) (fun hHeld => ?_)
  refine wpAnyH_take (i := 0) (oi := { dst := some 24, op := Op.load 25 (Operand.tmp 4), type := 25, pos := "law.go:100", after := #[], guard := none }) (v := ?ve_0) rfl (by kernel_rfl) (by kernel_rfl) (by kernel_rfl) (fun _ _ _ h => h) (Or.inl ⟨by rfl, ?ye_0⟩) (by assumption) ?te_0
  case ye_0 => (intro w hSw; have h0 := cell_below hSw b0; have h1 := cell_below hSw b1; have h2 := cell_below hSw b2; have h3 := cell_below hSw b3); go_simp; try with_reducible rfl
  simp only [Act.put, List.setIfInBounds_toArray, List.set_cons_zero, List.set_cons_succ]
  refine wpAnyH_take (i := 2) (oi := { dst := some 26, op := Op.load 25 (Operand.tmp 10), type := 25, pos := "law.go:100", after := #[], guard := none }) (v := ?ve_2) rfl (by kernel_rfl) (by kernel_rfl) (by kernel_rfl) (fun _ _ _ h => h) (Or.inl ⟨by rfl, ?ye_2⟩) (by assumption) ?te_2
  case ye_2 => (intro w hSw; have h0 := cell_below hSw a0; have h1 := cell_below hSw a1; have h2 := cell_below hSw a2; have h3 := cell_below hSw a3); go_simp; try with_reducible rfl
  simp only [Act.put, List.setIfInBounds_toArray, List.set_cons_zero, List.set_cons_succ]
  refine wpAnyH_take (i := 3) (oi := { dst := some 27, op := Op.load 25 (Operand.tmp 10), type := 25, pos := "law.go:100", after := #[], guard := none }) (v := ?ve_3) rfl (by kernel_rfl) (by kernel_rfl) (by kernel_rfl) (fun _ _ _ h => h) (Or.inl ⟨by rfl, ?ye_3⟩) (by assumption) ?te_3
  case ye_3 => (intro w hSw; have h0 := cell_below hSw a0; have h1 := cell_below hSw a1; have h2 := cell_below hSw a2; have h3 := cell_below hSw a3); go_simp; try with_reducible rfl
  simp only [Act.put, List.setIfInBounds_toArray, List.set_cons_zero, List.set_cons_succ]
  refine wpAnyH_take (i := 4) (oi := { dst := some 28, op := Op.load 28 (Operand.tmp 7), type := 28, pos := "law.go:100", after := #[], guard := none }) (v := ?ve_4) rfl (by kernel_rfl) (by kernel_rfl) (by kernel_rfl) (fun _ _ _ h => h) (Or.inl ⟨by rfl, ?ye_4⟩) (by assumption) ?te_4
  case ye_4 => (intro w hSw; have h0 := cell_below hSw d0; have h1 := cell_below hSw d1; have h2 := cell_below hSw d2); go_simp; try with_reducible rfl
  simp only [Act.put, List.setIfInBounds_toArray, List.set_cons_zero, List.set_cons_succ]
  refine wpAnyH_take (i := 8) (oi := { dst := some 32, op := Op.move (Operand.const (Value.int IntKind.i64 0)), type := 3, pos := "law.go:100", after := #[], guard := none }) (v := ?ve_8) rfl (by kernel_rfl) (by kernel_rfl) (by kernel_rfl) (fun _ _ _ h => h) (Or.inl ⟨by rfl, ?ye_8⟩) (by assumption) ?te_8
  case ye_8 => (intro w hSw; try dsimp only at hSw); go_simp; try with_reducible rfl
  simp only [Act.put, List.setIfInBounds_toArray, List.set_cons_zero, List.set_cons_succ]
  refine wpAnyH_ready (rs := [1]) (by kernel_rfl) (by simp) ?_
  refine AllReadyH.cons (o := { dst := some 25, op := Op.call { callee := Callee.value (Operand.func 14), args := #[Operand.tmp 24], argTypes := #[25] }, type := 25, pos := "law.go:100", after := #[{ on := 0, ground := Ground.data }], guard := none }) rfl (fun K hK => ?_) AllReadyH.nil
  go_simp
  refine (few_any raw _ (RAW.out.below hHeld) HRF.out).mono ?_; rintro e w6 ⟨r, rfl, hr, -, g6⟩
  have R6 := Lib.hid hr
  have Q6 := Lib.hid (QK.out.below (below_step hHeld g6))
  have hS6 := below_step hHeld g6
  clear g6 hr
  refine hK.out _ _ (hS6) (fun hHeld' => ?_)
  clear hK K hHeld
  have hHeld := hHeld'; clear hHeld'
  try simp only [Act.put, List.setIfInBounds_toArray, List.set_cons_zero, List.set_cons_succ]
  refine wpAnyH_ready (rs := [5]) (by kernel_rfl) (by simp) ?_
  refine AllReadyH.cons (o := { dst := some 29, op := Op.call { callee := Callee.value (Operand.func 15), args := #[Operand.tmp 27, Operand.tmp 28], argTypes := #[25, 28] }, type := 25, pos := "law.go:100", after := #[{ on := 3, ground := Ground.data }, { on := 4, ground := Ground.data }, { on := 1, ground := Ground.chain }], guard := none }) rfl (fun K hK => ?_) AllReadyH.nil
  go_simp
  refine (bent_any q h0 h1 h2 w6 Q6.out QV.out FT.out.1 FT.out.2.1 FT.out.2.2).mono ?_; rintro e w7 ⟨t, rfl, ht, g7⟩
  have T7 := Lib.hid ht
  have R7 := Lib.hid (R6.out.below g7)
  have Q7 := Lib.hid (Q6.out.below g7)
  have hS7 := below_step hHeld g7
  clear g7 ht R6 Q6
  refine hK.out _ _ (hS7) (fun hHeld' => ?_)
  clear hK K hHeld
  have hHeld := hHeld'; clear hHeld'
  try simp only [Act.put, List.setIfInBounds_toArray, List.set_cons_zero, List.set_cons_succ]
  refine wpAnyH_ready (rs := [6]) (by kernel_rfl) (by simp) ?_
  refine AllReadyH.cons (o := { dst := some 30, op := Op.buildSlice 34 3 #[(0, Operand.tmp 25), (1, Operand.tmp 26), (2, Operand.tmp 29)], type := 34, pos := "law.go:100", after := #[{ on := 1, ground := Ground.data }, { on := 2, ground := Ground.data }, { on := 5, ground := Ground.data }], guard := none }) rfl (fun K hK => ?_) AllReadyH.nil
  go_simp
  have g8 := below_new w7 (.cells (threeF r q t) 25)
  have HBX := Lib.hid (heap_alloc_new w7 (.cells (threeF r q t) 25))
  have T8 := Lib.hid (T7.out.below g8); have R8 := Lib.hid (R7.out.below g8); have Q8 := Lib.hid (Q7.out.below g8)
  have hS8 := below_step hHeld g8
  clear g8 T7 R7 Q7
  refine hK.out _ _ (hS8) (fun hHeld' => ?_)
  clear hK K hHeld
  have hHeld := hHeld'; clear hHeld'
  try simp only [Act.put, List.setIfInBounds_toArray, List.set_cons_zero, List.set_cons_succ]
  refine wpAnyH_take (i := 7) (oi := { dst := some 31, op := Op.call { callee := Callee.builtin Go.Builtin.len, args := #[Operand.tmp 30], argTypes := #[34] }, type := 3, pos := "law.go:100", after := #[{ on := 6, ground := Ground.data }], guard := none }) (v := ?ve_7) rfl (by kernel_rfl) (by kernel_rfl) (by kernel_rfl) (fun _ _ _ h => h) (Or.inl ⟨by rfl, ?ye_7⟩) (by assumption) ?te_7
  case ye_7 => (intro w hSw; try dsimp only at hSw); go_simp; try with_reducible rfl
  simp only [Act.put, List.setIfInBounds_toArray, List.set_cons_zero, List.set_cons_succ]
  refine wpAnyH_done (by kernel_rfl) ?_ _
  have TH : Hid (ThreeF w.heap.size w7.heap.size Z r q t w (w7.alloc (.cells (threeF r q t) 25))) := Lib.hid ⟨HBX.out, (hHeld.block _ (lt_of_block AB5.out)).trans AB5.out, R8.out, Q8.out, T8.out, below_step G5.out hHeld, Nat.le_refl _⟩
  clear hHeld HBX R8 Q8 T8 G5 QK RAW AB5 a0 a1 a2 a3 b0 b1 b2 b3 d0 d1 d2
  generalize w7.alloc (.cells (threeF r q t) 25) = w8 at *
  generalize w7.heap.size = L at *
  go_wp2_with fail
  go_loopg [32] 3 (fun g i wr => ∃ k : Nat, k ≤ 3 ∧ g = 3 - k ∧ i = .int .i64 (k : Int) ∧ Hid (ThreeF w.heap.size L Z r q t w wr))
  case atStart => exact ⟨0, by omega, by omega, rfl, TH⟩
  case round =>
    obtain ⟨k, hk, rfl, rfl, HR⟩ := hrel
    by_cases hlt : k < 3
    · obtain ⟨F, hF, c0, c1, c2, c3⟩ := HR.out.at k hlt
      have FK := Lib.hid hF
      have e9 : IntKind.i64.wrap ((k : Int) + 1) = (k : Int) + 1 := IntWalk.i64_in _ (by omega)
      clear hF
      go_upto_region 8 with (fail)
      have g6 := below_new wr (flowBox F)
      have FB : Hid ((wr.alloc (flowBox F)).heap[wr.heap.size]? = some (flowBox F)) := Lib.hid (heap_alloc_new _ _)
      have T6 := Lib.hid (HR.out.below g6)
      have F6 := Lib.hid (FK.out.below g6)
      clear g6 c0 c1 c2 c3 FK HR
      generalize wr.alloc (flowBox F) = w6 at *
      generalize wr.heap.size = S at *
      have c0 := block_cell FB.out 0 _ rfl
      have c1 := block_cell FB.out 1 _ rfl
      have c2 := block_cell FB.out 2 _ rfl
      have c3 := block_cell FB.out 3 _ rfl
      go_wp2_with fail
      refine (Print_any F w6 a (HT.out.below T6.out.bel) F6.out).mono ?_; rintro e w7 ⟨rfl, g7⟩
      have c0 := cell_below g7 c0
      have c1 := cell_below g7 c1
      have c2 := cell_below g7 c2
      have c3 := cell_below g7 c3
      have T7 := Lib.hid (T6.out.below g7)
      have F7 := Lib.hid (F6.out.below g7)
      clear g7 T6 F6 FB
      go_wp2_with fail
      refine (refPrint_any F w7 F7.out).mono ?_; rintro e w9 ⟨rfl, g9⟩
      have c0 := cell_below g9 c0
      have c1 := cell_below g9 c1
      have c2 := cell_below g9 c2
      have c3 := cell_below g9 c3
      have T9 := Lib.hid (T7.out.below g9)
      have FK9 := Lib.hid (F7.out.below g9)
      have QK9 := Lib.hid T9.out.ok2
      have a0 := block_cell T9.out.abox 0 _ rfl
      have a1 := block_cell T9.out.abox 1 _ rfl
      have a2 := block_cell T9.out.abox 2 _ rfl
      have a3 := block_cell T9.out.abox 3 _ rfl
      have HVa := Lib.hid (fun w h => Valid_any F w h)
      have HVr := Lib.hid (fun w h => refValid_any F w h)
      have HSa := Lib.hid (fun w h1 h2 => Same_any q F w h1 h2)
      have HSr := Lib.hid (fun w h1 h2 => refSame_any q F w h1 h2)
      have HSs : Hid (∀ w, F.ok w → Calls Tryz.prog 19 #[F.v, F.v] w fun e w' => e = .returned (.bool true) ∧ Below w.heap.size w w') := Lib.hid fun w h => by have := Same_any F F w h h; rw [decide_eq_true rfl] at this; exact this
      clear g9 T7 F7
      generalize Fl.valid F.f = bV at *
      generalize decide (q.f = F.f) = bS at *
      generalize printS F.f = PS at *
      generalize printE F.f = PE at *
      go_upto_region 10 with (fail)
      refine wp_region_held_drew (S := (fun v => Below w9.heap.size w9 v)) (by kernel_rfl) ((Below.refl w9.heap.size w9).drew) (fun hHeld => ?_)
      refine wpAnyH_take (i := 0) (oi := { dst := some 46, op := Op.move (Operand.tmp 13), type := 9, pos := "law.go:103", after := #[], guard := none }) (v := ?vt_0) rfl (by kernel_rfl) (by kernel_rfl) (by kernel_rfl) (fun _ _ _ h => h) (Or.inl ⟨by rfl, ?yt_0⟩) (by assumption) ?tt_0
      case yt_0 => (intro w hSw; try dsimp only at hSw); go_simp; try with_reducible rfl
      simp only [Act.put, List.setIfInBounds_toArray, List.set_cons_zero, List.set_cons_succ]
      refine wpAnyH_take (i := 1) (oi := { dst := some 47, op := Op.move (Operand.tmp 15), type := 9, pos := "law.go:103", after := #[], guard := none }) (v := ?vt_1) rfl (by kernel_rfl) (by kernel_rfl) (by kernel_rfl) (fun _ _ _ h => h) (Or.inl ⟨by rfl, ?yt_1⟩) (by assumption) ?tt_1
      case yt_1 => (intro w hSw; try dsimp only at hSw); go_simp; try with_reducible rfl
      simp only [Act.put, List.setIfInBounds_toArray, List.set_cons_zero, List.set_cons_succ]
      refine wpAnyH_take (i := 2) (oi := { dst := some 48, op := Op.binOp BinOp.neq 9 (Operand.tmp 46) (Operand.tmp 47) 9, type := 4, pos := "law.go:103", after := #[{ on := 0, ground := Ground.data }, { on := 1, ground := Ground.data }], guard := none }) (v := ?vt_2) rfl (by kernel_rfl) (by kernel_rfl) (by kernel_rfl) (fun _ _ _ h => h) (Or.inl ⟨by rfl, ?yt_2⟩) (by assumption) ?tt_2
      case yt_2 => (intro w hSw; try dsimp only at hSw); go_simp; try with_reducible rfl
      simp only [Act.put, List.setIfInBounds_toArray, List.set_cons_zero, List.set_cons_succ]
      refine wpAnyH_take (i := 3) (oi := { dst := some 49, op := Op.move (Operand.tmp 48), type := 4, pos := "law.go:103", after := #[{ on := 2, ground := Ground.data }], guard := none }) (v := ?vt_3) rfl (by kernel_rfl) (by kernel_rfl) (by kernel_rfl) (fun _ _ _ h => h) (Or.inl ⟨by rfl, ?yt_3⟩) (by assumption) ?tt_3
      case yt_3 => (intro w hSw; try dsimp only at hSw); go_simp; try with_reducible rfl
      simp only [Act.put, List.setIfInBounds_toArray, List.set_cons_zero, List.set_cons_succ]
      refine wpAnyH_take (i := 4) (oi := { dst := some 50, op := Op.move (Operand.tmp 14), type := 35, pos := "law.go:103", after := #[{ on := 3, ground := Ground.guard }], guard := some (3, false) }) (v := ?vt_4) rfl (by kernel_rfl) (by kernel_rfl) (by kernel_rfl) (fun _ _ _ h => h) (Or.inl ⟨by rfl, ?yt_4⟩) (by assumption) ?tt_4
      case yt_4 => (intro w hSw; try dsimp only at hSw); go_simp; try with_reducible rfl
      simp only [Act.put, List.setIfInBounds_toArray, List.set_cons_zero, List.set_cons_succ]
      refine wpAnyH_take (i := 5) (oi := { dst := some 51, op := Op.move (Operand.tmp 16), type := 35, pos := "law.go:103", after := #[{ on := 3, ground := Ground.guard }], guard := some (3, false) }) (v := ?vt_5) rfl (by kernel_rfl) (by kernel_rfl) (by kernel_rfl) (fun _ _ _ h => h) (Or.inl ⟨by rfl, ?yt_5⟩) (by assumption) ?tt_5
      case yt_5 => (intro w hSw; try dsimp only at hSw); go_simp; try with_reducible rfl
      simp only [Act.put, List.setIfInBounds_toArray, List.set_cons_zero, List.set_cons_succ]
      refine wpAnyH_take (i := 6) (oi := { dst := some 52, op := Op.binOp BinOp.neq 35 (Operand.tmp 50) (Operand.tmp 51) 35, type := 4, pos := "law.go:103", after := #[{ on := 4, ground := Ground.data }, { on := 5, ground := Ground.data }, { on := 3, ground := Ground.guard }], guard := some (3, false) }) (v := ?vt_6) rfl (by kernel_rfl) (by kernel_rfl) (by kernel_rfl) (fun _ _ _ h => h) (Or.inl ⟨by rfl, ?yt_6⟩) (by assumption) ?tt_6
      case yt_6 => (intro w hSw; try dsimp only at hSw); go_simp; try with_reducible rfl
      simp only [Act.put, List.setIfInBounds_toArray, List.set_cons_zero, List.set_cons_succ]
      refine wpAnyH_take (i := 7) (oi := { dst := some 53, op := Op.pick (Operand.tmp 49) (Operand.const (Value.bool true)) (Operand.tmp 52), type := 4, pos := "law.go:103", after := #[{ on := 3, ground := Ground.data }, { on := 6, ground := Ground.data }], guard := none }) (v := ?vt_7) rfl (by kernel_rfl) (by kernel_rfl) (by kernel_rfl) (fun _ _ _ h => h) (Or.inl ⟨by rfl, ?yt_7⟩) (by assumption) ?tt_7
      case yt_7 => (intro w hSw; try dsimp only at hSw); go_simp; try with_reducible rfl
      simp only [Act.put, List.setIfInBounds_toArray, List.set_cons_zero, List.set_cons_succ]
      refine wpAnyH_take (i := 8) (oi := { dst := some 54, op := Op.move (Operand.tmp 53), type := 4, pos := "law.go:103", after := #[{ on := 7, ground := Ground.data }, { on := 3, ground := Ground.chain }], guard := none }) (v := ?vt_8) rfl (by kernel_rfl) (by kernel_rfl) (by kernel_rfl) (fun _ _ _ h => h) (Or.inl ⟨by rfl, ?yt_8⟩) (by assumption) ?tt_8
      case yt_8 => (intro w hSw; try dsimp only at hSw); go_simp; try with_reducible rfl
      simp only [Act.put, List.setIfInBounds_toArray, List.set_cons_zero, List.set_cons_succ]
      refine wpAnyH_take (i := 9) (oi := { dst := some 55, op := Op.load 25 (Operand.tmp 12), type := 25, pos := "law.go:103", after := #[{ on := 8, ground := Ground.guard }], guard := some (8, false) }) (v := ?vt_9) rfl (by kernel_rfl) (by kernel_rfl) (by kernel_rfl) (fun _ _ _ h => h) (Or.inl ⟨by rfl, ?yt_9⟩) (by assumption) ?tt_9
      case yt_9 => (intro w hSw; have h0 := cell_below hSw c0; have h1 := cell_below hSw c1; have h2 := cell_below hSw c2; have h3 := cell_below hSw c3); go_simp; try with_reducible rfl
      simp only [Act.put, List.setIfInBounds_toArray, List.set_cons_zero, List.set_cons_succ]
      refine wpAnyH_take (i := 11) (oi := { dst := some 57, op := Op.load 25 (Operand.tmp 12), type := 25, pos := "law.go:103", after := #[{ on := 8, ground := Ground.guard }], guard := some (8, false) }) (v := ?vt_11) rfl (by kernel_rfl) (by kernel_rfl) (by kernel_rfl) (fun _ _ _ h => h) (Or.inl ⟨by rfl, ?yt_11⟩) (by assumption) ?tt_11
      case yt_11 => (intro w hSw; have h0 := cell_below hSw c0; have h1 := cell_below hSw c1; have h2 := cell_below hSw c2; have h3 := cell_below hSw c3); go_simp; try with_reducible rfl
      simp only [Act.put, List.setIfInBounds_toArray, List.set_cons_zero, List.set_cons_succ]
      refine wpAnyH_ready (rs := [10]) (by kernel_rfl) (by simp) ?_
      refine AllReadyH.cons (o := { dst := some 56, op := Op.call { callee := Callee.value (Operand.func 13), args := #[Operand.tmp 55], argTypes := #[25] }, type := 4, pos := "law.go:103", after := #[{ on := 9, ground := Ground.data }, { on := 8, ground := Ground.chain }, { on := 8, ground := Ground.guard }], guard := some (8, false) }) rfl (fun K hK => ?_) AllReadyH.nil
      go_simp
      refine (HVa.out _ (FK9.out.below hHeld)).mono ?_; rintro e wz1 ⟨rfl, gz⟩
      have hSz := below_step hHeld gz
      clear gz
      refine hK.out _ _ (hSz) (fun hHeld' => ?_)
      clear hK K hHeld
      have hHeld := hHeld'; clear hHeld'
      try simp only [Act.put, List.setIfInBounds_toArray, List.set_cons_zero, List.set_cons_succ]
      refine wpAnyH_ready (rs := [12]) (by kernel_rfl) (by simp) ?_
      refine AllReadyH.cons (o := { dst := some 58, op := Op.call { callee := Callee.value (Operand.func 18), args := #[Operand.tmp 57], argTypes := #[25] }, type := 4, pos := "law.go:103", after := #[{ on := 11, ground := Ground.data }, { on := 10, ground := Ground.chain }, { on := 8, ground := Ground.guard }], guard := some (8, false) }) rfl (fun K hK => ?_) AllReadyH.nil
      go_simp
      refine (HVr.out _ (FK9.out.below hHeld)).mono ?_; rintro e wz2 ⟨rfl, gz⟩
      have hSz := below_step hHeld gz
      clear gz
      refine hK.out _ _ (hSz) (fun hHeld' => ?_)
      clear hK K hHeld
      have hHeld := hHeld'; clear hHeld'
      try simp only [Act.put, List.setIfInBounds_toArray, List.set_cons_zero, List.set_cons_succ]
      refine wpAnyH_take (i := 13) (oi := { dst := some 59, op := Op.binOp BinOp.neq 4 (Operand.tmp 56) (Operand.tmp 58) 4, type := 4, pos := "law.go:103", after := #[{ on := 10, ground := Ground.data }, { on := 12, ground := Ground.data }, { on := 8, ground := Ground.guard }], guard := some (8, false) }) (v := ?vt_13) rfl (by kernel_rfl) (by kernel_rfl) (by kernel_rfl) (fun _ _ _ h => h) (Or.inl ⟨by rfl, ?yt_13⟩) (by assumption) ?tt_13
      case yt_13 => (intro w hSw; try dsimp only at hSw); go_simp; try with_reducible rfl
      simp only [Act.put, List.setIfInBounds_toArray, List.set_cons_zero, List.set_cons_succ]
      refine wpAnyH_take (i := 14) (oi := { dst := some 60, op := Op.pick (Operand.tmp 54) (Operand.const (Value.bool true)) (Operand.tmp 59), type := 4, pos := "law.go:103", after := #[{ on := 8, ground := Ground.data }, { on := 13, ground := Ground.data }], guard := none }) (v := ?vt_14) rfl (by kernel_rfl) (by kernel_rfl) (by kernel_rfl) (fun _ _ _ h => h) (Or.inl ⟨by rfl, ?yt_14⟩) (by assumption) ?tt_14
      case yt_14 => (intro w hSw; try dsimp only at hSw); go_simp; try with_reducible rfl
      simp only [Act.put, List.setIfInBounds_toArray, List.set_cons_zero, List.set_cons_succ]
      refine wpAnyH_take (i := 15) (oi := { dst := some 61, op := Op.move (Operand.tmp 60), type := 4, pos := "law.go:103", after := #[{ on := 14, ground := Ground.data }, { on := 12, ground := Ground.chain }], guard := none }) (v := ?vt_15) rfl (by kernel_rfl) (by kernel_rfl) (by kernel_rfl) (fun _ _ _ h => h) (Or.inl ⟨by rfl, ?yt_15⟩) (by assumption) ?tt_15
      case yt_15 => (intro w hSw; try dsimp only at hSw); go_simp; try with_reducible rfl
      simp only [Act.put, List.setIfInBounds_toArray, List.set_cons_zero, List.set_cons_succ]
      refine wpAnyH_take (i := 16) (oi := { dst := some 62, op := Op.load 25 (Operand.tmp 10), type := 25, pos := "law.go:103", after := #[{ on := 15, ground := Ground.guard }], guard := some (15, false) }) (v := ?vt_16) rfl (by kernel_rfl) (by kernel_rfl) (by kernel_rfl) (fun _ _ _ h => h) (Or.inl ⟨by rfl, ?yt_16⟩) (by assumption) ?tt_16
      case yt_16 => (intro w hSw; have h0 := cell_below hSw a0; have h1 := cell_below hSw a1; have h2 := cell_below hSw a2; have h3 := cell_below hSw a3); go_simp; try with_reducible rfl
      simp only [Act.put, List.setIfInBounds_toArray, List.set_cons_zero, List.set_cons_succ]
      refine wpAnyH_take (i := 17) (oi := { dst := some 63, op := Op.load 25 (Operand.tmp 12), type := 25, pos := "law.go:103", after := #[{ on := 15, ground := Ground.guard }], guard := some (15, false) }) (v := ?vt_17) rfl (by kernel_rfl) (by kernel_rfl) (by kernel_rfl) (fun _ _ _ h => h) (Or.inl ⟨by rfl, ?yt_17⟩) (by assumption) ?tt_17
      case yt_17 => (intro w hSw; have h0 := cell_below hSw c0; have h1 := cell_below hSw c1; have h2 := cell_below hSw c2; have h3 := cell_below hSw c3); go_simp; try with_reducible rfl
      simp only [Act.put, List.setIfInBounds_toArray, List.set_cons_zero, List.set_cons_succ]
      refine wpAnyH_take (i := 19) (oi := { dst := some 65, op := Op.load 25 (Operand.tmp 10), type := 25, pos := "law.go:103", after := #[{ on := 15, ground := Ground.guard }], guard := some (15, false) }) (v := ?vt_19) rfl (by kernel_rfl) (by kernel_rfl) (by kernel_rfl) (fun _ _ _ h => h) (Or.inl ⟨by rfl, ?yt_19⟩) (by assumption) ?tt_19
      case yt_19 => (intro w hSw; have h0 := cell_below hSw a0; have h1 := cell_below hSw a1; have h2 := cell_below hSw a2; have h3 := cell_below hSw a3); go_simp; try with_reducible rfl
      simp only [Act.put, List.setIfInBounds_toArray, List.set_cons_zero, List.set_cons_succ]
      refine wpAnyH_take (i := 20) (oi := { dst := some 66, op := Op.load 25 (Operand.tmp 12), type := 25, pos := "law.go:103", after := #[{ on := 15, ground := Ground.guard }], guard := some (15, false) }) (v := ?vt_20) rfl (by kernel_rfl) (by kernel_rfl) (by kernel_rfl) (fun _ _ _ h => h) (Or.inl ⟨by rfl, ?yt_20⟩) (by assumption) ?tt_20
      case yt_20 => (intro w hSw; have h0 := cell_below hSw c0; have h1 := cell_below hSw c1; have h2 := cell_below hSw c2; have h3 := cell_below hSw c3); go_simp; try with_reducible rfl
      simp only [Act.put, List.setIfInBounds_toArray, List.set_cons_zero, List.set_cons_succ]
      refine wpAnyH_ready (rs := [18]) (by kernel_rfl) (by simp) ?_
      refine AllReadyH.cons (o := { dst := some 64, op := Op.call { callee := Callee.value (Operand.func 19), args := #[Operand.tmp 62, Operand.tmp 63], argTypes := #[25, 25] }, type := 4, pos := "law.go:103", after := #[{ on := 16, ground := Ground.data }, { on := 17, ground := Ground.data }, { on := 15, ground := Ground.chain }, { on := 15, ground := Ground.guard }], guard := some (15, false) }) rfl (fun K hK => ?_) AllReadyH.nil
      go_simp
      refine (HSa.out _ (QK9.out.below hHeld) (FK9.out.below hHeld)).mono ?_; rintro e wz3 ⟨rfl, gz⟩
      have hSz := below_step hHeld gz
      clear gz
      refine hK.out _ _ (hSz) (fun hHeld' => ?_)
      clear hK K hHeld
      have hHeld := hHeld'; clear hHeld'
      try simp only [Act.put, List.setIfInBounds_toArray, List.set_cons_zero, List.set_cons_succ]
      refine wpAnyH_ready (rs := [21]) (by kernel_rfl) (by simp) ?_
      refine AllReadyH.cons (o := { dst := some 67, op := Op.call { callee := Callee.value (Operand.func 20), args := #[Operand.tmp 65, Operand.tmp 66], argTypes := #[25, 25] }, type := 4, pos := "law.go:103", after := #[{ on := 19, ground := Ground.data }, { on := 20, ground := Ground.data }, { on := 18, ground := Ground.chain }, { on := 15, ground := Ground.guard }], guard := some (15, false) }) rfl (fun K hK => ?_) AllReadyH.nil
      go_simp
      refine (HSr.out _ (QK9.out.below hHeld) (FK9.out.below hHeld)).mono ?_; rintro e wz4 ⟨rfl, gz⟩
      have hSz := below_step hHeld gz
      clear gz
      refine hK.out _ _ (hSz) (fun hHeld' => ?_)
      clear hK K hHeld
      have hHeld := hHeld'; clear hHeld'
      try simp only [Act.put, List.setIfInBounds_toArray, List.set_cons_zero, List.set_cons_succ]
      refine wpAnyH_take (i := 22) (oi := { dst := some 68, op := Op.binOp BinOp.neq 4 (Operand.tmp 64) (Operand.tmp 67) 4, type := 4, pos := "law.go:103", after := #[{ on := 18, ground := Ground.data }, { on := 21, ground := Ground.data }, { on := 15, ground := Ground.guard }], guard := some (15, false) }) (v := ?vt_22) rfl (by kernel_rfl) (by kernel_rfl) (by kernel_rfl) (fun _ _ _ h => h) (Or.inl ⟨by rfl, ?yt_22⟩) (by assumption) ?tt_22
      case yt_22 => (intro w hSw; try dsimp only at hSw); go_simp; try with_reducible rfl
      simp only [Act.put, List.setIfInBounds_toArray, List.set_cons_zero, List.set_cons_succ]
      refine wpAnyH_take (i := 23) (oi := { dst := some 69, op := Op.pick (Operand.tmp 61) (Operand.const (Value.bool true)) (Operand.tmp 68), type := 4, pos := "law.go:103", after := #[{ on := 15, ground := Ground.data }, { on := 22, ground := Ground.data }], guard := none }) (v := ?vt_23) rfl (by kernel_rfl) (by kernel_rfl) (by kernel_rfl) (fun _ _ _ h => h) (Or.inl ⟨by rfl, ?yt_23⟩) (by assumption) ?tt_23
      case yt_23 => (intro w hSw; try dsimp only at hSw); go_simp; try with_reducible rfl
      simp only [Act.put, List.setIfInBounds_toArray, List.set_cons_zero, List.set_cons_succ]
      refine wpAnyH_take (i := 24) (oi := { dst := some 70, op := Op.move (Operand.tmp 69), type := 4, pos := "law.go:103", after := #[{ on := 23, ground := Ground.data }, { on := 21, ground := Ground.chain }], guard := none }) (v := ?vt_24) rfl (by kernel_rfl) (by kernel_rfl) (by kernel_rfl) (fun _ _ _ h => h) (Or.inl ⟨by rfl, ?yt_24⟩) (by assumption) ?tt_24
      case yt_24 => (intro w hSw; try dsimp only at hSw); go_simp; try with_reducible rfl
      simp only [Act.put, List.setIfInBounds_toArray, List.set_cons_zero, List.set_cons_succ]
      refine wpAnyH_take (i := 25) (oi := { dst := some 71, op := Op.load 25 (Operand.tmp 12), type := 25, pos := "law.go:103", after := #[{ on := 24, ground := Ground.guard }], guard := some (24, false) }) (v := ?vt_25) rfl (by kernel_rfl) (by kernel_rfl) (by kernel_rfl) (fun _ _ _ h => h) (Or.inl ⟨by rfl, ?yt_25⟩) (by assumption) ?tt_25
      case yt_25 => (intro w hSw; have h0 := cell_below hSw c0; have h1 := cell_below hSw c1; have h2 := cell_below hSw c2; have h3 := cell_below hSw c3); go_simp; try with_reducible rfl
      simp only [Act.put, List.setIfInBounds_toArray, List.set_cons_zero, List.set_cons_succ]
      refine wpAnyH_take (i := 26) (oi := { dst := some 72, op := Op.load 25 (Operand.tmp 12), type := 25, pos := "law.go:103", after := #[{ on := 24, ground := Ground.guard }], guard := some (24, false) }) (v := ?vt_26) rfl (by kernel_rfl) (by kernel_rfl) (by kernel_rfl) (fun _ _ _ h => h) (Or.inl ⟨by rfl, ?yt_26⟩) (by assumption) ?tt_26
      case yt_26 => (intro w hSw; have h0 := cell_below hSw c0; have h1 := cell_below hSw c1; have h2 := cell_below hSw c2; have h3 := cell_below hSw c3); go_simp; try with_reducible rfl
      simp only [Act.put, List.setIfInBounds_toArray, List.set_cons_zero, List.set_cons_succ]
      refine wpAnyH_ready (rs := [27]) (by kernel_rfl) (by simp) ?_
      refine AllReadyH.cons (o := { dst := some 73, op := Op.call { callee := Callee.value (Operand.func 19), args := #[Operand.tmp 71, Operand.tmp 72], argTypes := #[25, 25] }, type := 4, pos := "law.go:103", after := #[{ on := 25, ground := Ground.data }, { on := 26, ground := Ground.data }, { on := 24, ground := Ground.chain }, { on := 24, ground := Ground.guard }], guard := some (24, false) }) rfl (fun K hK => ?_) AllReadyH.nil
      go_simp
      refine (HSs.out _ (FK9.out.below hHeld)).mono ?_; rintro e wz5 ⟨rfl, gz⟩
      have hSz := below_step hHeld gz
      clear gz
      refine hK.out _ _ (hSz) (fun hHeld' => ?_)
      clear hK K hHeld
      have hHeld := hHeld'; clear hHeld'
      try simp only [Act.put, List.setIfInBounds_toArray, List.set_cons_zero, List.set_cons_succ]
      refine wpAnyH_take (i := 28) (oi := { dst := some 74, op := Op.unOp UnOp.not 4 (Operand.tmp 73), type := 4, pos := "law.go:103", after := #[{ on := 27, ground := Ground.data }, { on := 24, ground := Ground.guard }], guard := some (24, false) }) (v := ?vt_28) rfl (by kernel_rfl) (by kernel_rfl) (by kernel_rfl) (fun _ _ _ h => h) (Or.inl ⟨by rfl, ?yt_28⟩) (by assumption) ?tt_28
      case yt_28 => (intro w hSw; try dsimp only at hSw); go_simp; try with_reducible rfl
      simp only [Act.put, List.setIfInBounds_toArray, List.set_cons_zero, List.set_cons_succ]
      refine wpAnyH_take (i := 29) (oi := { dst := some 75, op := Op.pick (Operand.tmp 70) (Operand.const (Value.bool true)) (Operand.tmp 74), type := 4, pos := "law.go:103", after := #[{ on := 24, ground := Ground.data }, { on := 28, ground := Ground.data }], guard := none }) (v := ?vt_29) rfl (by kernel_rfl) (by kernel_rfl) (by kernel_rfl) (fun _ _ _ h => h) (Or.inl ⟨by rfl, ?yt_29⟩) (by assumption) ?tt_29
      case yt_29 => (intro w hSw; try dsimp only at hSw); go_simp; try with_reducible rfl
      simp only [Act.put, List.setIfInBounds_toArray, List.set_cons_zero, List.set_cons_succ]
      refine wpAnyH_done (by kernel_rfl) ?_ _
      have HN := Lib.hid (T9.out.below hHeld)
      clear hHeld T9 c0 c1 c2 c3 a0 a1 a2 a3
      go_wp2_with fail
      go_roundg (3 - (k + 1))
      case rel => exact ⟨k + 1, hlt, rfl, by go_num, HN⟩
      case measure => omega
    · obtain rfl : k = 3 := by omega
      go_wp2_with fail
      go_ret
      exact ⟨rfl, HR.out.bel⟩
end Go.Proofs.YtblnfcffalaeaaaGreatDoor
