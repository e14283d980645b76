/-
  The law file's fixed examples hold.
-/
import Derived.Test.YtihohjgjklcnlaaDoorQBx
import Derived.Test.YtihohjgjklcnlaaDoorQBy
import Derived.Deep.RegionHeld3
namespace Go.Proofs.YtihohjgjklcnlaaDoor
open Go.RowKit Go.Shelf
attribute [local go_sem] Oper.semAt_some
abbrev exP (en limit s0 : Int) : Pl.Plan := ⟨en, 1, 5, [⟨10, 20, ⟨1, 5⟩, ⟨2, s0⟩⟩, ⟨10, 20, ⟨3, 54⟩, ⟨4, 78⟩⟩], [⟨0, 1, limit⟩]⟩
abbrev exA (en : Int) (n m : Nat) : Value := .agg #[.int .i64 en, .int .i64 1, .int .i64 5, .slice (some ⟨n, 0, none⟩) 2 2, .slice (some ⟨m, 0, none⟩) 1 1]
theorem example_is (limit : Int) (w : World) : Calls Tryd.prog 28 #[.int .i64 limit] w fun e w' => ∃ n m : Nat, w.heap.size ≤ n ∧ w.heap.size ≤ m ∧ e = .returned (exA 0 n m) ∧ w'.heap[n]? = some (exSt 78 29) ∧ w'.heap[m]? = some (exWn limit) ∧ Below w.heap.size w w' := example_any limit w
/-- What Check leaves at a fixed plan. -/
def ChkEx (s : Pl.Scen) (b : Bool) (w : World) (e : Ending) (w' : World) : Prop := ∃ da dc ma mc, e = .returned (.tuple #[.agg #[.slice da s.dur.length dc, .slice ma s.mv.length mc, .int .i64 s.det, .int .i64 s.tool, .int .i64 s.at_], .bool b]) ∧ ScenP.ok ⟨s, da, dc, ma, mc⟩ w' ∧ Below w.heap.size w w'
theorem check_ex {w : World} {n m : Nat} {en limit s0 : Int} {s : Pl.Scen} {b : Bool} (h1 : w.heap[n]? = some (exSt 78 s0)) (h2 : w.heap[m]? = some (exWn limit)) (hR : Pl.checkR (exP en limit s0) = (s, b)) : Calls Tryd.prog 12 #[exA en n m] w (ChkEx s b w) := by
  have := Check_any ⟨exP en limit s0, some ⟨n, 0, none⟩, 2, some ⟨m, 0, none⟩, 1⟩ w (by
    have := ex_ok h1 h2
    exact ⟨this.st, this.wn⟩)
  refine this.mono fun e w' ⟨r, h1, h2, h3, h4⟩ => ?_
  obtain ⟨s', da, dc, ma, mc⟩ := r
  rw [hR] at h1 h2
  simp only at h1
  subst h1
  exact ⟨da, dc, ma, mc, h2, h3.ok, h4⟩
theorem exE1 : Pl.checkR (exP 0 63 29) = (⟨[], [], 0, 0, 0⟩, true) := Pl.ex63
theorem exE2 : Pl.checkR (exP 0 62 29) = (⟨[10, 20], [5, 5], 5, 3, 54⟩, false) := Pl.ex62
theorem exE3 : ∃ s : Pl.Scen, Pl.checkR (exP 0 63 28) = (s, false) ∧ s.tool = 1 ∧ s.at_ = 24 := by
  have h := Pl.exEarly
  exact ⟨(Pl.checkR Pl.ex9early).1, Prod.ext rfl (by injection h), by injection h with _ h; injection h, by injection h with _ h; injection h⟩
theorem exE4 : ∃ s : Pl.Scen, Pl.checkR (exP 1 63 29) = (s, false) ∧ s.tool = -1 := by
  have h := Pl.exLate
  exact ⟨(Pl.checkR Pl.ex9late).1, Prod.ext rfl (by injection h), by injection h⟩
theorem slack_ex {w : World} {n m : Nat} (h1 : w.heap[n]? = some (exSt 78 29)) (h2 : w.heap[m]? = some (exWn 70)) : Calls Tryd.prog 18 #[exA 0 n m] w fun e w' => e = .returned (.tuple #[.int .i64 7, .bool true]) ∧ Below w.heap.size w w' := by
  have := Slack_any ⟨exP 0 70 29, some ⟨n, 0, none⟩, 2, some ⟨m, 0, none⟩, 1⟩ w (ex_ok h1 h2)
  rw [show Pl.slackR (exP 0 70 29) = (7, true) from Pl.ex70] at this
  exact this
theorem seal_ex {w : World} {n m : Nat} {limit : Int} {b : Bool} {s : Pl.Scen} (h1 : w.heap[n]? = some (exSt 78 29)) (h2 : w.heap[m]? = some (exWn limit)) (ht : Wb.Tab w) (hR : Pl.checkR (exP 0 limit 29) = (s, b)) : Calls Tryd.prog 20 #[exA 0 n m] w fun e w' => e = .returned (.tuple #[.string (if b = true then certB (exP 0 limit 29) else bs []), .int .i64 (if b = true then 0 else 90)]) ∧ Below w.heap.size w w' := by
  refine (Seal_any ⟨exP 0 limit 29, some ⟨n, 0, none⟩, 2, some ⟨m, 0, none⟩, 1⟩ w (ex_ok h1 h2) ht).mono fun e w' ⟨g, h3, h4⟩ => ⟨?_, g⟩
  cases b with
  | true => exact h3 (by rw [hR])
  | false => exact h4 (by rw [hR])
theorem open_ex (w : World) (ht : Wb.Tab w) : Calls Tryd.prog 21 #[.string (certB (exP 0 63 29))] w fun e w' => (∃ sa sc wa wc, e = .returned (.tuple #[.agg #[.int .i64 0, .int .i64 1, .int .i64 5, .slice sa 2 sc, .slice wa 1 wc], .int .i64 0]) ∧ PlanP.ok ⟨exP 0 63 29, sa, sc, wa, wc⟩ w') ∧ Below w.heap.size w w' := by
  have hR : (Pl.checkR (exP 0 63 29)).2 = true := by rw [exE1]
  obtain ⟨hv, -⟩ := Pl.safe_true hR
  have := Open_any (certB (exP 0 63 29)) w (by
    have h1 := planB_len hv
    unfold certB
    rw [ByteArray.size_append, bs_size, Wb.Sha.shaS_size]; omega) ht
  rw [open_cert hR] at this
  exact this
set_option maxRecDepth 100000 in
set_option maxHeartbeats 4000000 in
theorem sane_any (W : World) (ht : Wb.Tab W) : Calls Tryd.prog 10 #[] W fun e w' => e = .returned (.bool true) ∧ Below W.heap.size W w' := by
  have HT := Lib.hid ht
  have HT' := HT
  clear ht
  go_enter Tryd.func10, Tryd.ntmps10
  go_wp2_with fail
  refine (example_is 63 W).mono ?_; rintro e w1 ⟨n1, m1, -, -, rfl, hs, hm, g1⟩
  have CK := Lib.hid (check_ex hs hm exE1)
  have G1 := Lib.hid g1
  clear hs hm g1
  go_wp2_with fail
  refine CK.out.mono ?_; rintro e w2 ⟨da, dc, ma, mc, rfl, -, g2⟩
  have G2 := Lib.hid (below_step G1.out g2)
  clear g2 CK G1
  simp only [List.length_nil]
  go_upto_region 2 with (fail)
  have G3 := Lib.hid (below_step G2.out (below_new w2 (.cells #[.slice da 0 dc, .slice ma 0 mc, .int .i64 0, .int .i64 0, .int .i64 0] 32)))
  clear G2
  generalize w2.alloc (.cells #[.slice da 0 dc, .slice ma 0 mc, .int .i64 0, .int .i64 0, .int .i64 0] 32) = w3 at *
  generalize w2.heap.size = b1 at *
  -- two
  go_wp2_with fail
  refine (example_is 62 w3).mono ?_; rintro e w4 ⟨n2, m2, -, -, rfl, hs, hm, g4⟩
  have CK := Lib.hid (check_ex hs hm exE2)
  have G4 := Lib.hid (below_step G3.out g4)
  clear hs hm g4 G3
  go_wp2_with fail
  refine CK.out.mono ?_; rintro e w5 ⟨da2, dc2, ma2, mc2, rfl, ok2, g5⟩
  have G5 := Lib.hid (below_step G4.out g5)
  have OK2 := Lib.hid ok2
  clear g5 CK G4 ok2
  simp only [List.length_nil, List.length_cons]
  go_upto_region 3 with (fail)
  have hb := below_new w5 (.cells #[.slice da2 2 dc2, .slice ma2 2 mc2, .int .i64 5, .int .i64 3, .int .i64 54] 32)
  have G6 := Lib.hid (below_step G5.out hb)
  have X2 := Lib.hid (heap_alloc_new w5 (.cells #[.slice da2 2 dc2, .slice ma2 2 mc2, .int .i64 5, .int .i64 3, .int .i64 54] 32))
  have OK6 := Lib.hid (OK2.out.below hb)
  clear hb G5 OK2
  generalize w5.alloc (.cells #[.slice da2 2 dc2, .slice ma2 2 mc2, .int .i64 5, .int .i64 3, .int .i64 54] 32) = w6 at *
  generalize w5.heap.size = b2 at *
  -- slack
  go_wp2_with fail
  refine (example_is 70 w6).mono ?_; rintro e w7 ⟨n3, m3, -, -, rfl, hs, hm, g7⟩
  have CK := Lib.hid (slack_ex hs hm)
  have G7 := Lib.hid (below_step G6.out g7)
  have X7 := Lib.hid (box_below X2.out g7)
  have OK7 := Lib.hid (OK6.out.below g7)
  clear hs hm g7 G6 X2 OK6
  go_wp2_with fail
  refine CK.out.mono ?_; rintro e w8 ⟨rfl, g8⟩
  have G8 := Lib.hid (below_step G7.out g8)
  have X8 := Lib.hid (box_below X7.out g8)
  have OK8 := Lib.hid (OK7.out.below g8)
  clear g8 CK G7 X7 OK7
  -- early
  go_upto_region 4 with (fail)
  go_wp2_with fail
  refine (example_is 63 w8).mono ?_; rintro e w9 ⟨n4, m4, q1, q2, rfl, hs, hm, g9⟩
  go_upto_region 5 with (fail)
  have hb := below_new w9 (.cells #[.int .i64 0, .int .i64 1, .int .i64 5, .slice (some ⟨n4, 0, none⟩) 2 2, .slice (some ⟨m4, 0, none⟩) 1 1] 28)
  have X10 := Lib.hid (heap_alloc_new w9 (.cells #[.int .i64 0, .int .i64 1, .int .i64 5, .slice (some ⟨n4, 0, none⟩) 2 2, .slice (some ⟨m4, 0, none⟩) 1 1] 28))
  have hs10 := box_below hs hb
  have hm10 := box_below hm hb
  have L9 := Lib.hid (show n4 ≠ w9.heap.size by have := lt_of_block hs; omega)
  have G10 := Lib.hid (below_step g9 hb)
  clear hs hm hb g9
  generalize w9.alloc (.cells #[.int .i64 0, .int .i64 1, .int .i64 5, .slice (some ⟨n4, 0, none⟩) 2 2, .slice (some ⟨m4, 0, none⟩) 1 1] 28) = w10 at *
  generalize w9.heap.size = b3 at *
  have c0 := box_cell X10.out 0 (.int .i64 0) rfl
  have c1 := box_cell X10.out 1 (.int .i64 1) rfl
  have c2 := box_cell X10.out 2 (.int .i64 5) rfl
  have c3 := box_cell X10.out 3 (.slice (some ⟨n4, 0, none⟩) 2 2) rfl
  have c4 := box_cell X10.out 4 (.slice (some ⟨m4, 0, none⟩) 1 1) rfl
  have s5 := box_cell hs10 5 (.int .i64 29) rfl
  have z5 := box_fz hs10 5
  have lz := lt_of_block hs10
  have O11 := one_ch w10 n4 5 (.int .i64 28)
  have hs11 : (w10.setCell ⟨n4, 5, none⟩ (.int .i64 28)).heap[n4]? = some (exSt 78 28) := block_set hs10 (o := 5) _
  have hm11 := (O11.block m4 (lt_of_block hm10) (fun e => by subst e; rw [hs10] at hm10; injection hm10 with hm10; injection hm10 with _ hm10; exact absurd hm10 (by decide))).trans hm10
  have X11 := Lib.hid ((O11.block b3 (lt_of_block X10.out) (fun e => L9.out e.symm)).trans X10.out)
  have G11 := Lib.hid (show Below w8.heap.size w8 (w10.setCell ⟨n4, 5, none⟩ (.int .i64 28)) from G10.out.setCell (p := ⟨n4, 5, none⟩) q1 _)
  have HS11 := Lib.hid hs11; have HM11 := Lib.hid hm11
  clear hs10 hm10 O11 hs11 hm11 G10 X10
  go_upto_region 6 with (fail)
  clear s5 z5 lz c0 c1 c2 c3 c4
  generalize w10.setCell ⟨n4, 5, none⟩ (.int .i64 28) = w11 at *
  have G12 := Lib.hid (below_step G8.out G11.out)
  have X12 := Lib.hid (box_below X8.out G11.out)
  have OK12 := Lib.hid (OK8.out.below G11.out)
  clear G8 X8 OK8 G11
  have c0 := box_cell X11.out 0 (.int .i64 0) rfl
  have c1 := box_cell X11.out 1 (.int .i64 1) rfl
  have c2 := box_cell X11.out 2 (.int .i64 5) rfl
  have c3 := box_cell X11.out 3 (.slice (some ⟨n4, 0, none⟩) 2 2) rfl
  have c4 := box_cell X11.out 4 (.slice (some ⟨m4, 0, none⟩) 1 1) rfl
  obtain ⟨⟨D3, M3, de3, _, _⟩, hE3, rfl, rfl⟩ := exE3
  have CK := Lib.hid (check_ex HS11.out HM11.out hE3)
  clear hE3 HS11 HM11 q1 q2
  go_wp2_with fail
  refine CK.out.mono ?_; rintro e w13 ⟨da3, dc3, ma3, mc3, rfl, -, g⟩
  clear c0 c1 c2 c3 c4 CK
  have G13 := Lib.hid (below_step G12.out g)
  have X13 := Lib.hid (box_below X12.out g)
  have OK13 := Lib.hid (OK12.out.below g)
  clear g G12 X12 OK12 X11
  go_upto_region 7 with (fail)
  have hb := below_new w13 (.cells #[.slice da3 D3.length dc3, .slice ma3 M3.length mc3, .int .i64 de3, .int .i64 1, .int .i64 24] 32)
  have Y3 := Lib.hid (heap_alloc_new w13 (.cells #[.slice da3 D3.length dc3, .slice ma3 M3.length mc3, .int .i64 de3, .int .i64 1, .int .i64 24] 32))
  have G14 := Lib.hid (below_step G13.out hb)
  have X14 := Lib.hid (box_below X13.out hb)
  have OK14 := Lib.hid (OK13.out.below hb)
  clear hb G13 X13 OK13
  generalize w13.alloc (.cells #[.slice da3 D3.length dc3, .slice ma3 M3.length mc3, .int .i64 de3, .int .i64 1, .int .i64 24] 32) = w14 at *
  generalize w13.heap.size = b4 at *
  -- late
  go_wp2_with fail
  refine (example_is 63 w14).mono ?_; rintro e w15 ⟨n5, m5, -, -, rfl, hs, hm, g⟩
  have G15 := Lib.hid (below_step G14.out g)
  have X15 := Lib.hid (box_below X14.out g)
  have Y15 := Lib.hid (box_below Y3.out g)
  have OK15 := Lib.hid (OK14.out.below g)
  clear g G14 X14 OK14 Y3
  go_upto_region 8 with (fail)
  have hb := below_new w15 (.cells #[.int .i64 0, .int .i64 1, .int .i64 5, .slice (some ⟨n5, 0, none⟩) 2 2, .slice (some ⟨m5, 0, none⟩) 1 1] 28)
  have P16 := heap_alloc_new w15 (.cells #[.int .i64 0, .int .i64 1, .int .i64 5, .slice (some ⟨n5, 0, none⟩) 2 2, .slice (some ⟨m5, 0, none⟩) 1 1] 28)
  have O17 : Below w15.heap.size w15 ((w15.alloc (.cells #[.int .i64 0, .int .i64 1, .int .i64 5, .slice (some ⟨n5, 0, none⟩) 2 2, .slice (some ⟨m5, 0, none⟩) 1 1] 28)).setCell ⟨w15.heap.size, 0, none⟩ (.int .i64 1)) := hb.setCell (p := ⟨w15.heap.size, 0, none⟩) (Nat.le_refl _) _
  have P17 := Lib.hid (show ((w15.alloc (.cells #[.int .i64 0, .int .i64 1, .int .i64 5, .slice (some ⟨n5, 0, none⟩) 2 2, .slice (some ⟨m5, 0, none⟩) 1 1] 28)).setCell ⟨w15.heap.size, 0, none⟩ (.int .i64 1)).heap[w15.heap.size]? = some (.cells #[.int .i64 1, .int .i64 1, .int .i64 5, .slice (some ⟨n5, 0, none⟩) 2 2, .slice (some ⟨m5, 0, none⟩) 1 1] 28) from block_set P16 (o := 0) _)
  have c0 := box_cell P16 0 (.int .i64 0) rfl
  have z0 := box_fz P16 0
  have lz := lt_of_block P16
  have HS17 := Lib.hid (box_below hs O17)
  have HM17 := Lib.hid (box_below hm O17)
  have G17 := Lib.hid (below_step G15.out O17)
  have X17 := Lib.hid (box_below X15.out O17)
  have Y17 := Lib.hid (box_below Y15.out O17)
  have OK17 := Lib.hid (OK15.out.below O17)
  clear hs hm hb O17 G15 X15 Y15 OK15 P16
  generalize w15.alloc (.cells #[.int .i64 0, .int .i64 1, .int .i64 5, .slice (some ⟨n5, 0, none⟩) 2 2, .slice (some ⟨m5, 0, none⟩) 1 1] 28) = w16 at *
  generalize w15.heap.size = b5 at *
  go_upto_region 9 with (fail)
  clear c0 z0 lz
  generalize w16.setCell ⟨b5, 0, none⟩ (.int .i64 1) = w17 at *
  have c0 := box_cell P17.out 0 (.int .i64 1) rfl
  have c1 := box_cell P17.out 1 (.int .i64 1) rfl
  have c2 := box_cell P17.out 2 (.int .i64 5) rfl
  have c3 := box_cell P17.out 3 (.slice (some ⟨n5, 0, none⟩) 2 2) rfl
  have c4 := box_cell P17.out 4 (.slice (some ⟨m5, 0, none⟩) 1 1) rfl
  obtain ⟨⟨D4, M4, de4, _, at4⟩, hE4, rfl⟩ := exE4
  have CK := Lib.hid (check_ex HS17.out HM17.out hE4)
  clear hE4 HS17 HM17
  go_wp2_with fail
  refine CK.out.mono ?_; rintro e w18 ⟨da4, dc4, ma4, mc4, rfl, -, g⟩
  clear c0 c1 c2 c3 c4 CK P17
  have hb := below_step g (below_new w18 (.cells #[.slice da4 D4.length dc4, .slice ma4 M4.length mc4, .int .i64 de4, .int .i64 (-1), .int .i64 at4] 32))
  have Z4 := Lib.hid (heap_alloc_new w18 (.cells #[.slice da4 D4.length dc4, .slice ma4 M4.length mc4, .int .i64 de4, .int .i64 (-1), .int .i64 at4] 32))
  have G19 := Lib.hid (below_step G17.out hb)
  have X19 := Lib.hid (box_below X17.out hb)
  have Y19 := Lib.hid (box_below Y17.out hb)
  have OK19 := Lib.hid (OK17.out.below hb)
  clear hb g G17 X17 Y17 OK17
  go_upto_region 10 with (fail)
  generalize w18.alloc (.cells #[.slice da4 D4.length dc4, .slice ma4 M4.length mc4, .int .i64 de4, .int .i64 (-1), .int .i64 at4] 32) = w19 at *
  generalize w18.heap.size = b6 at *
  -- the certificate
  go_wp2_with fail
  refine (example_is 63 w19).mono ?_; rintro e w20 ⟨n6, m6, -, -, rfl, hs, hm, g⟩
  have CK := Lib.hid (seal_ex hs hm ((HT.out.below G19.out).below g) exE1)
  have Z20 := Lib.hid (box_below Z4.out g)
  have G20 := Lib.hid (below_step G19.out g)
  have X20 := Lib.hid (box_below X19.out g)
  have Y20 := Lib.hid (box_below Y19.out g)
  have OK20 := Lib.hid (OK19.out.below g)
  clear hs hm g Z4 G19 X19 Y19 OK19
  go_wp2_with fail
  refine CK.out.mono ?_; rintro e w21 ⟨rfl, g⟩
  have Z21 := Lib.hid (box_below Z20.out g)
  have G21 := Lib.hid (below_step G20.out g)
  have X21 := Lib.hid (box_below X20.out g)
  have Y21 := Lib.hid (box_below Y20.out g)
  have OK21 := Lib.hid (OK20.out.below g)
  clear CK g Z20 G20 X20 Y20 OK20
  simp only [if_true]
  have OP := Lib.hid (open_ex w21 (HT.out.below G21.out))
  generalize certB (exP 0 63 29) = E at *
  go_wp2_with fail
  refine OP.out.mono ?_; rintro e w22 ⟨⟨sa, sc, wa, wc, rfl, okp⟩, g⟩
  have hb := below_step g (below_new w22 (.cells #[.int .i64 0, .int .i64 1, .int .i64 5, .slice sa 2 sc, .slice wa 1 wc] 28))
  have V22 := Lib.hid (heap_alloc_new w22 (.cells #[.int .i64 0, .int .i64 1, .int .i64 5, .slice sa 2 sc, .slice wa 1 wc] 28))
  have OKP := Lib.hid (okp.below (below_new w22 (.cells #[.int .i64 0, .int .i64 1, .int .i64 5, .slice sa 2 sc, .slice wa 1 wc] 28)))
  have Z23 := Lib.hid (box_below Z21.out hb)
  have G23 := Lib.hid (below_step G21.out hb)
  have X23 := Lib.hid (box_below X21.out hb)
  have Y23 := Lib.hid (box_below Y21.out hb)
  have OK23 := Lib.hid (OK21.out.below hb)
  clear OP g okp hb Z21 G21 X21 Y21 OK21
  go_upto_region 12 with (fail)
  generalize w22.alloc (.cells #[.int .i64 0, .int .i64 1, .int .i64 5, .slice sa 2 sc, .slice wa 1 wc] 28) = w23 at *
  generalize w22.heap.size = b7 at *
  clear HT
  have HT2 := Lib.hid (HT'.out.below G23.out)
  go_wp2_with fail
  refine (example_is 62 w23).mono ?_; rintro e w24 ⟨n7, m7, -, -, rfl, hs, hm, g⟩
  have CK := Lib.hid (seal_ex hs hm (HT2.out.below g) exE2)
  have Z24 := Lib.hid (box_below Z23.out g)
  have V24 := Lib.hid (box_below V22.out g)
  have OKP4 := Lib.hid (OKP.out.below g)
  have G24 := Lib.hid (below_step G23.out g)
  have X24 := Lib.hid (box_below X23.out g)
  have Y24 := Lib.hid (box_below Y23.out g)
  have OK24 := Lib.hid (OK23.out.below g)
  clear hs hm g Z23 G23 X23 Y23 OK23 V22 OKP HT2 HT'
  go_wp2_with fail
  refine CK.out.mono ?_; rintro e w25 ⟨rfl, g⟩
  simp only [Bool.false_eq_true, if_false]
  go_upto_region 14 with (fail)
  have hb := below_step g (below_step (below_step (below_new w25 (.cells #[.int .i64 10, .int .i64 20] 3)) (below_new _ (.cells #[.int .i64 5, .int .i64 5] 3))) (below_new _ (.cells #[.slice (some ⟨w25.heap.size, 0, none⟩) 2 2, .slice (some ⟨w25.heap.size + 1, 0, none⟩) 2 2, .int .i64 5, .int .i64 3, .int .i64 54] 32)))
  have D1 := box_below (box_below (heap_alloc_new w25 (.cells #[.int .i64 10, .int .i64 20] 3)) (below_new _ (.cells #[.int .i64 5, .int .i64 5] 3))) (below_new _ (.cells #[.slice (some ⟨w25.heap.size, 0, none⟩) 2 2, .slice (some ⟨w25.heap.size + 1, 0, none⟩) 2 2, .int .i64 5, .int .i64 3, .int .i64 54] 32))
  have D2 := box_below (new_at (w25.alloc (.cells #[.int .i64 10, .int .i64 20] 3)) (.cells #[.int .i64 5, .int .i64 5] 3) (w25.heap.size + 1) (by simp)) (below_new _ (.cells #[.slice (some ⟨w25.heap.size, 0, none⟩) 2 2, .slice (some ⟨w25.heap.size + 1, 0, none⟩) 2 2, .int .i64 5, .int .i64 3, .int .i64 54] 32))
  have D3 := new_at ((w25.alloc (.cells #[.int .i64 10, .int .i64 20] 3)).alloc (.cells #[.int .i64 5, .int .i64 5] 3)) (.cells #[.slice (some ⟨w25.heap.size, 0, none⟩) 2 2, .slice (some ⟨w25.heap.size + 1, 0, none⟩) 2 2, .int .i64 5, .int .i64 3, .int .i64 54] 32) (w25.heap.size + 1 + 1) (by simp)
  have Z26 := Lib.hid (box_below Z24.out hb)
  have V26 := Lib.hid (box_below V24.out hb)
  have OKP6 := Lib.hid (OKP4.out.below hb)
  have G26 := Lib.hid (below_step G24.out hb)
  have X26 := Lib.hid (box_below X24.out hb)
  have Y26 := Lib.hid (box_below Y24.out hb)
  have OK26 := Lib.hid (OK24.out.below hb)
  clear hb g CK Z24 V24 OKP4 G24 X24 Y24 OK24
  generalize ((w25.alloc (.cells #[.int .i64 10, .int .i64 20] 3)).alloc (.cells #[.int .i64 5, .int .i64 5] 3)).alloc (.cells #[.slice (some ⟨w25.heap.size, 0, none⟩) 2 2, .slice (some ⟨w25.heap.size + 1, 0, none⟩) 2 2, .int .i64 5, .int .i64 3, .int .i64 54] 32) = w26 at *
  have OKW := Lib.hid (show ScenP.ok ⟨⟨[10, 20], [5, 5], 5, 3, 54⟩, some ⟨w25.heap.size, 0, none⟩, 2, some ⟨w25.heap.size + 1, 0, none⟩, 2⟩ w26 from ⟨rowA_block (L := [10, 20]) int_len D1 rfl (by simp), rowA_block (L := [5, 5]) int_len D2 rfl (by simp)⟩)
  have D3 := Lib.hid D3
  clear D1 D2
  generalize w25.heap.size = b8 at *
  have HS0 : Hid (w26.drew.cell? ⟨b2, 0, none⟩ = some (.slice da2 2 dc2) ∧ w26.drew.cell? ⟨b2, 1, none⟩ = some (.slice ma2 2 mc2) ∧ w26.drew.cell? ⟨b2, 2, none⟩ = some (.int .i64 5) ∧ w26.drew.cell? ⟨b2, 3, none⟩ = some (.int .i64 3) ∧ w26.drew.cell? ⟨b2, 4, none⟩ = some (.int .i64 54) ∧ w26.drew.cell? ⟨b8 + 1 + 1, 0, none⟩ = some (.slice (some ⟨b8, 0, none⟩) 2 2) ∧ w26.drew.cell? ⟨b8 + 1 + 1, 1, none⟩ = some (.slice (some ⟨b8 + 1, 0, none⟩) 2 2) ∧ w26.drew.cell? ⟨b8 + 1 + 1, 2, none⟩ = some (.int .i64 5) ∧ w26.drew.cell? ⟨b8 + 1 + 1, 3, none⟩ = some (.int .i64 3) ∧ w26.drew.cell? ⟨b8 + 1 + 1, 4, none⟩ = some (.int .i64 54) ∧ w26.drew.cell? ⟨b4, 3, none⟩ = some (.int .i64 1) ∧ w26.drew.cell? ⟨b4, 4, none⟩ = some (.int .i64 24) ∧ w26.drew.cell? ⟨b6, 3, none⟩ = some (.int .i64 (-1)) ∧ w26.drew.cell? ⟨b7, 0, none⟩ = some (.int .i64 0) ∧ w26.drew.cell? ⟨b7, 1, none⟩ = some (.int .i64 1) ∧ w26.drew.cell? ⟨b7, 2, none⟩ = some (.int .i64 5) ∧ w26.drew.cell? ⟨b7, 3, none⟩ = some (.slice sa 2 sc) ∧ w26.drew.cell? ⟨b7, 4, none⟩ = some (.slice wa 1 wc) ∧ Below w26.heap.size w26 w26.drew) := Lib.hid ⟨box_cell X26.out 0 _ rfl, box_cell X26.out 1 _ rfl, box_cell X26.out 2 _ rfl, box_cell X26.out 3 _ rfl, box_cell X26.out 4 _ rfl, box_cell D3.out 0 _ rfl, box_cell D3.out 1 _ rfl, box_cell D3.out 2 _ rfl, box_cell D3.out 3 _ rfl, box_cell D3.out 4 _ rfl, box_cell Y26.out 3 _ rfl, box_cell Y26.out 4 _ rfl, box_cell Z26.out 3 _ rfl, box_cell V26.out 0 _ rfl, box_cell V26.out 1 _ rfl, box_cell V26.out 2 _ rfl, box_cell V26.out 3 _ rfl, box_cell V26.out 4 _ rfl, (Below.refl _ _).drew⟩
  have KEEP : Hid (∀ v v' : World, (v.cell? ⟨b2, 0, none⟩ = some (.slice da2 2 dc2) ∧ v.cell? ⟨b2, 1, none⟩ = some (.slice ma2 2 mc2) ∧ v.cell? ⟨b2, 2, none⟩ = some (.int .i64 5) ∧ v.cell? ⟨b2, 3, none⟩ = some (.int .i64 3) ∧ v.cell? ⟨b2, 4, none⟩ = some (.int .i64 54) ∧ v.cell? ⟨b8 + 1 + 1, 0, none⟩ = some (.slice (some ⟨b8, 0, none⟩) 2 2) ∧ v.cell? ⟨b8 + 1 + 1, 1, none⟩ = some (.slice (some ⟨b8 + 1, 0, none⟩) 2 2) ∧ v.cell? ⟨b8 + 1 + 1, 2, none⟩ = some (.int .i64 5) ∧ v.cell? ⟨b8 + 1 + 1, 3, none⟩ = some (.int .i64 3) ∧ v.cell? ⟨b8 + 1 + 1, 4, none⟩ = some (.int .i64 54) ∧ v.cell? ⟨b4, 3, none⟩ = some (.int .i64 1) ∧ v.cell? ⟨b4, 4, none⟩ = some (.int .i64 24) ∧ v.cell? ⟨b6, 3, none⟩ = some (.int .i64 (-1)) ∧ v.cell? ⟨b7, 0, none⟩ = some (.int .i64 0) ∧ v.cell? ⟨b7, 1, none⟩ = some (.int .i64 1) ∧ v.cell? ⟨b7, 2, none⟩ = some (.int .i64 5) ∧ v.cell? ⟨b7, 3, none⟩ = some (.slice sa 2 sc) ∧ v.cell? ⟨b7, 4, none⟩ = some (.slice wa 1 wc) ∧ Below w26.heap.size w26 v) → Below v.heap.size v v' → v'.cell? ⟨b2, 0, none⟩ = some (.slice da2 2 dc2) ∧ v'.cell? ⟨b2, 1, none⟩ = some (.slice ma2 2 mc2) ∧ v'.cell? ⟨b2, 2, none⟩ = some (.int .i64 5) ∧ v'.cell? ⟨b2, 3, none⟩ = some (.int .i64 3) ∧ v'.cell? ⟨b2, 4, none⟩ = some (.int .i64 54) ∧ v'.cell? ⟨b8 + 1 + 1, 0, none⟩ = some (.slice (some ⟨b8, 0, none⟩) 2 2) ∧ v'.cell? ⟨b8 + 1 + 1, 1, none⟩ = some (.slice (some ⟨b8 + 1, 0, none⟩) 2 2) ∧ v'.cell? ⟨b8 + 1 + 1, 2, none⟩ = some (.int .i64 5) ∧ v'.cell? ⟨b8 + 1 + 1, 3, none⟩ = some (.int .i64 3) ∧ v'.cell? ⟨b8 + 1 + 1, 4, none⟩ = some (.int .i64 54) ∧ v'.cell? ⟨b4, 3, none⟩ = some (.int .i64 1) ∧ v'.cell? ⟨b4, 4, none⟩ = some (.int .i64 24) ∧ v'.cell? ⟨b6, 3, none⟩ = some (.int .i64 (-1)) ∧ v'.cell? ⟨b7, 0, none⟩ = some (.int .i64 0) ∧ v'.cell? ⟨b7, 1, none⟩ = some (.int .i64 1) ∧ v'.cell? ⟨b7, 2, none⟩ = some (.int .i64 5) ∧ v'.cell? ⟨b7, 3, none⟩ = some (.slice sa 2 sc) ∧ v'.cell? ⟨b7, 4, none⟩ = some (.slice wa 1 wc) ∧ Below w26.heap.size w26 v') := Lib.hid (fun v v' ⟨h0, h1, h2, h3, h4, h5, h6, h7, h8, h9, h10, h11, h12, h13, h14, h15, h16, h17, hY⟩ hb => ⟨cell_below hb h0, cell_below hb h1, cell_below hb h2, cell_below hb h3, cell_below hb h4, cell_below hb h5, cell_below hb h6, cell_below hb h7, cell_below hb h8, cell_below hb h9, cell_below hb h10, cell_below hb h11, cell_below hb h12, cell_below hb h13, cell_below hb h14, cell_below hb h15, cell_below hb h16, cell_below hb h17, below_step hY hb⟩)
  have CS : Hid (∀ v : World, (v.cell? ⟨b2, 0, none⟩ = some (.slice da2 2 dc2) ∧ v.cell? ⟨b2, 1, none⟩ = some (.slice ma2 2 mc2) ∧ v.cell? ⟨b2, 2, none⟩ = some (.int .i64 5) ∧ v.cell? ⟨b2, 3, none⟩ = some (.int .i64 3) ∧ v.cell? ⟨b2, 4, none⟩ = some (.int .i64 54) ∧ v.cell? ⟨b8 + 1 + 1, 0, none⟩ = some (.slice (some ⟨b8, 0, none⟩) 2 2) ∧ v.cell? ⟨b8 + 1 + 1, 1, none⟩ = some (.slice (some ⟨b8 + 1, 0, none⟩) 2 2) ∧ v.cell? ⟨b8 + 1 + 1, 2, none⟩ = some (.int .i64 5) ∧ v.cell? ⟨b8 + 1 + 1, 3, none⟩ = some (.int .i64 3) ∧ v.cell? ⟨b8 + 1 + 1, 4, none⟩ = some (.int .i64 54) ∧ v.cell? ⟨b4, 3, none⟩ = some (.int .i64 1) ∧ v.cell? ⟨b4, 4, none⟩ = some (.int .i64 24) ∧ v.cell? ⟨b6, 3, none⟩ = some (.int .i64 (-1)) ∧ v.cell? ⟨b7, 0, none⟩ = some (.int .i64 0) ∧ v.cell? ⟨b7, 1, none⟩ = some (.int .i64 1) ∧ v.cell? ⟨b7, 2, none⟩ = some (.int .i64 5) ∧ v.cell? ⟨b7, 3, none⟩ = some (.slice sa 2 sc) ∧ v.cell? ⟨b7, 4, none⟩ = some (.slice wa 1 wc) ∧ Below w26.heap.size w26 v) → Calls Tryd.prog 29 #[.agg #[.slice da2 2 dc2, .slice ma2 2 mc2, .int .i64 5, .int .i64 3, .int .i64 54], .agg #[.slice (some ⟨b8, 0, none⟩) 2 2, .slice (some ⟨b8 + 1, 0, none⟩) 2 2, .int .i64 5, .int .i64 3, .int .i64 54]] v fun e w' => e = .returned (.bool true) ∧ Below v.heap.size v w') := Lib.hid (fun v ⟨_, _, _, _, _, _, _, _, _, _, _, _, _, _, _, _, _, _, hY⟩ => SameScen_yes ⟨[10, 20], [5, 5], 5, 3, 54⟩ da2 ma2 (some ⟨b8, 0, none⟩) (some ⟨b8 + 1, 0, none⟩) dc2 mc2 2 2 v (OK26.out.below hY) (OKW.out.below hY))
  have EX := Lib.hid (example_is 63)
  have RS : Hid (∀ (v : World) (n m : Nat), (v.cell? ⟨b2, 0, none⟩ = some (.slice da2 2 dc2) ∧ v.cell? ⟨b2, 1, none⟩ = some (.slice ma2 2 mc2) ∧ v.cell? ⟨b2, 2, none⟩ = some (.int .i64 5) ∧ v.cell? ⟨b2, 3, none⟩ = some (.int .i64 3) ∧ v.cell? ⟨b2, 4, none⟩ = some (.int .i64 54) ∧ v.cell? ⟨b8 + 1 + 1, 0, none⟩ = some (.slice (some ⟨b8, 0, none⟩) 2 2) ∧ v.cell? ⟨b8 + 1 + 1, 1, none⟩ = some (.slice (some ⟨b8 + 1, 0, none⟩) 2 2) ∧ v.cell? ⟨b8 + 1 + 1, 2, none⟩ = some (.int .i64 5) ∧ v.cell? ⟨b8 + 1 + 1, 3, none⟩ = some (.int .i64 3) ∧ v.cell? ⟨b8 + 1 + 1, 4, none⟩ = some (.int .i64 54) ∧ v.cell? ⟨b4, 3, none⟩ = some (.int .i64 1) ∧ v.cell? ⟨b4, 4, none⟩ = some (.int .i64 24) ∧ v.cell? ⟨b6, 3, none⟩ = some (.int .i64 (-1)) ∧ v.cell? ⟨b7, 0, none⟩ = some (.int .i64 0) ∧ v.cell? ⟨b7, 1, none⟩ = some (.int .i64 1) ∧ v.cell? ⟨b7, 2, none⟩ = some (.int .i64 5) ∧ v.cell? ⟨b7, 3, none⟩ = some (.slice sa 2 sc) ∧ v.cell? ⟨b7, 4, none⟩ = some (.slice wa 1 wc) ∧ Below w26.heap.size w26 v) → v.heap[n]? = some (exSt 78 29) → v.heap[m]? = some (exWn 63) → Calls Tryd.prog 30 #[.agg #[.int .i64 0, .int .i64 1, .int .i64 5, .slice sa 2 sc, .slice wa 1 wc], .agg #[.int .i64 0, .int .i64 1, .int .i64 5, .slice (some ⟨n, 0, none⟩) 2 2, .slice (some ⟨m, 0, none⟩) 1 1]] v fun e w' => e = .returned (.bool true) ∧ Below v.heap.size v w') := Lib.hid (fun v n m ⟨_, _, _, _, _, _, _, _, _, _, _, _, _, _, _, _, _, _, hY⟩ h1 h2 => refSame_yes (exP 0 63 29) sa wa (some ⟨n, 0, none⟩) (some ⟨m, 0, none⟩) sc wc 2 1 v (OKP6.out.below hY) (ex_ok h1 h2))
  have KB : Hid (∀ v : World, (v.cell? ⟨b2, 0, none⟩ = some (.slice da2 2 dc2) ∧ v.cell? ⟨b2, 1, none⟩ = some (.slice ma2 2 mc2) ∧ v.cell? ⟨b2, 2, none⟩ = some (.int .i64 5) ∧ v.cell? ⟨b2, 3, none⟩ = some (.int .i64 3) ∧ v.cell? ⟨b2, 4, none⟩ = some (.int .i64 54) ∧ v.cell? ⟨b8 + 1 + 1, 0, none⟩ = some (.slice (some ⟨b8, 0, none⟩) 2 2) ∧ v.cell? ⟨b8 + 1 + 1, 1, none⟩ = some (.slice (some ⟨b8 + 1, 0, none⟩) 2 2) ∧ v.cell? ⟨b8 + 1 + 1, 2, none⟩ = some (.int .i64 5) ∧ v.cell? ⟨b8 + 1 + 1, 3, none⟩ = some (.int .i64 3) ∧ v.cell? ⟨b8 + 1 + 1, 4, none⟩ = some (.int .i64 54) ∧ v.cell? ⟨b4, 3, none⟩ = some (.int .i64 1) ∧ v.cell? ⟨b4, 4, none⟩ = some (.int .i64 24) ∧ v.cell? ⟨b6, 3, none⟩ = some (.int .i64 (-1)) ∧ v.cell? ⟨b7, 0, none⟩ = some (.int .i64 0) ∧ v.cell? ⟨b7, 1, none⟩ = some (.int .i64 1) ∧ v.cell? ⟨b7, 2, none⟩ = some (.int .i64 5) ∧ v.cell? ⟨b7, 3, none⟩ = some (.slice sa 2 sc) ∧ v.cell? ⟨b7, 4, none⟩ = some (.slice wa 1 wc) ∧ Below w26.heap.size w26 v) → Below w26.heap.size w26 v) := Lib.hid (fun v ⟨_, _, _, _, _, _, _, _, _, _, _, _, _, _, _, _, _, _, hY⟩ => hY)
  clear X26 Y26 Z26 V26 D3 OK26 OKW OKP6
  go_region_held3 (fun v => v.cell? ⟨b2, 0, none⟩ = some (.slice da2 2 dc2) ∧ v.cell? ⟨b2, 1, none⟩ = some (.slice ma2 2 mc2) ∧ v.cell? ⟨b2, 2, none⟩ = some (.int .i64 5) ∧ v.cell? ⟨b2, 3, none⟩ = some (.int .i64 3) ∧ v.cell? ⟨b2, 4, none⟩ = some (.int .i64 54) ∧ v.cell? ⟨b8 + 1 + 1, 0, none⟩ = some (.slice (some ⟨b8, 0, none⟩) 2 2) ∧ v.cell? ⟨b8 + 1 + 1, 1, none⟩ = some (.slice (some ⟨b8 + 1, 0, none⟩) 2 2) ∧ v.cell? ⟨b8 + 1 + 1, 2, none⟩ = some (.int .i64 5) ∧ v.cell? ⟨b8 + 1 + 1, 3, none⟩ = some (.int .i64 3) ∧ v.cell? ⟨b8 + 1 + 1, 4, none⟩ = some (.int .i64 54) ∧ v.cell? ⟨b4, 3, none⟩ = some (.int .i64 1) ∧ v.cell? ⟨b4, 4, none⟩ = some (.int .i64 24) ∧ v.cell? ⟨b6, 3, none⟩ = some (.int .i64 (-1)) ∧ v.cell? ⟨b7, 0, none⟩ = some (.int .i64 0) ∧ v.cell? ⟨b7, 1, none⟩ = some (.int .i64 1) ∧ v.cell? ⟨b7, 2, none⟩ = some (.int .i64 5) ∧ v.cell? ⟨b7, 3, none⟩ = some (.slice sa 2 sc) ∧ v.cell? ⟨b7, 4, none⟩ = some (.slice wa 1 wc) ∧ Below w26.heap.size w26 v)
    (first | with_reducible exact HS0.out | with_reducible exact KEEP.out _ _ (by assumption) g3 | with_reducible exact KEEP.out _ _ (by assumption) g2 | with_reducible exact KEEP.out _ _ (by assumption) g1)
    (first | (go_at_call 29; with_reducible refine (CS.out _ (by assumption)).mono ?_; rintro e v1 ⟨rfl, g1⟩; have hS1 := KEEP.out _ _ (by assumption) g1) | (go_at_call 28; with_reducible refine (EX.out _).mono ?_; rintro e v2 ⟨n8, m8, -, -, rfl, hs8, hm8, g2⟩; have hS2 := KEEP.out _ _ (by assumption) g2) | (go_at_call 30; with_reducible refine (RS.out _ _ _ (by assumption) hs8 hm8).mono ?_; rintro e v3 ⟨rfl, g3⟩; have hS3 := KEEP.out _ _ (by assumption) g3))
  all_goals
    have hKB := KB.out _ (by assumption)
    have FIN := Lib.hid (below_step G26.out hKB)
    go_wp2_with fail
    go_ret
    exact ⟨rfl, FIN.out⟩
end Go.Proofs.YtihohjgjklcnlaaDoor
