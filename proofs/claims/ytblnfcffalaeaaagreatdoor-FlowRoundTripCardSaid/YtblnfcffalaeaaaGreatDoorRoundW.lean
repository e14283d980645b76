/-
  The walk of FlowRoundTrip.
-/
import Derived.Test.YtblnfcffalaeaaaGreatDoorFew
namespace Go.Proofs.YtblnfcffalaeaaaGreatDoor
open Go.RowKit Go.Shelf

abbrev twoFlows (r q : FlowP) : Array Value := #[.int .i64 r.least, .int .i64 r.most, .slice r.sa r.P.length r.sc, .slice r.wa r.W.length r.wc, .int .i64 q.least, .int .i64 q.most, .slice q.sa q.P.length q.sc, .slice q.wa q.W.length q.wc]
/-- The two flows of the statement, side by side. -/
structure TwoF (B L : Nat) (r q : FlowP) (W w : World) : Prop where
  box : w.heap[L]? = some (.cells (twoFlows r q) 25)
  ok1 : r.ok w
  ok2 : q.ok w
  bel : Below B W w
theorem TwoF.below {B L : Nat} {r q : FlowP} {W w w' : World} (h : TwoF B L r q W w) (hb : Below w.heap.size w w') (hB : B ≤ w.heap.size) : TwoF B L r q W w' :=
  ⟨(hb.block _ (lt_of_block h.box)).trans h.box, h.ok1.below hb, h.ok2.below hb, h.bel.trans (hb.mono hB)⟩
theorem TwoF.at {B L : Nat} {r q : FlowP} {W w : World} (h : TwoF B L r q W w) (k : Nat) (hk : k < 2) : ∃ F : FlowP, F.ok w ∧ (F = r ∨ F = q) ∧ w.cell? ⟨L, k * 4, none⟩ = some (.int .i64 F.least) ∧ w.cell? ⟨L, k * 4 + 1, none⟩ = some (.int .i64 F.most) ∧
    w.cell? ⟨L, k * 4 + 2, none⟩ = some (.slice F.sa F.P.length F.sc) ∧ w.cell? ⟨L, k * 4 + 3, none⟩ = some (.slice F.wa F.W.length F.wc) := by
  rcases (by omega : k = 0 ∨ k = 1) with rfl | rfl
  · exact ⟨r, h.ok1, .inl rfl, block_cell h.box 0 _ rfl, block_cell h.box 1 _ rfl, block_cell h.box 2 _ rfl, block_cell h.box 3 _ rfl⟩
  · exact ⟨q, h.ok2, .inr rfl, block_cell h.box 4 _ rfl, block_cell h.box 5 _ rfl, block_cell h.box 6 _ rfl, block_cell h.box 7 _ rfl⟩

set_option maxRecDepth 100000 in
set_option maxHeartbeats 4000000 in
theorem round_any (raw : FlowP) (xa : Option Addr) (xc : Nat) (X : List (List Int)) (ya : Option Addr) (yc : Nat) (Y : List (List Int)) (w : World) (ht : ∃ a, Tab a w) (hr : raw.ok w) (hf : FlowFits raw) (hX : ArrsA 6 w xa xc X) (hY : ArrsA 3 w ya yc Y) :
    Calls Tryz.prog 5 #[raw.v, .slice xa X.length xc, .slice ya Y.length yc] w fun e w' => e = .returned (.bool true) ∧ Below w.heap.size w w' := by
  obtain ⟨a, ht⟩ := ht
  have HT := Lib.hid ht; have HX := Lib.hid hX; have HY := Lib.hid hY; have HRW := Lib.hid hr; have HRF := Lib.hid hf
  clear ht hX hY hr hf
  go_enter Tryz.func5, Tryz.ntmps5
  go_wp2_with fail
  have FA : Hid ((w.alloc (flowBox raw)).heap[w.heap.size]? = some (flowBox raw)) := Lib.hid (heap_alloc_new _ _)
  have G1 := Lib.hid (below_new w (flowBox raw))
  generalize w.alloc (flowBox raw) = w1 at *
  refine (sane_any _ a (HT.out.below G1.out)).mono ?_; rintro e w2 ⟨rfl, g2⟩
  have FA2 := Lib.hid ((g2.block _ (lt_of_block FA.out)).trans FA.out)
  have G2 := Lib.hid (below_step G1.out g2)
  clear g2 G1 FA
  have a0 := block_cell FA2.out 0 _ rfl
  have a1 := block_cell FA2.out 1 _ rfl
  have a2 := block_cell FA2.out 2 _ rfl
  have a3 := block_cell FA2.out 3 _ rfl
  go_wp2_with fail
  refine (few_any raw w2 (HRW.out.below G2.out) HRF.out).mono ?_
  rintro e w3 ⟨r, rfl, hr, -, g3⟩
  have R3 := Lib.hid hr
  have G3 := Lib.hid (below_step G2.out g3)
  clear a0 a1 a2 a3 FA2 g3 hr G2
  go_wp2_with fail
  refine (Make_any X xa xc Y ya yc w3 (HX.out.below G3.out) (HY.out.below G3.out)).mono ?_
  rintro e w4 ⟨q, rfl, hq, hqv, -, -, g4⟩
  have R4 := Lib.hid (R3.out.below g4); have Q4 := Lib.hid hq
  have G4 := Lib.hid (below_step G3.out g4)
  clear g4 hq hqv R3 G3
  go_wp2_with fail
  have T5 : Hid (TwoF w.heap.size w4.heap.size r q w (w4.alloc (.cells (twoFlows r q) 25))) := Lib.hid ⟨heap_alloc_new _ _, R4.out.below (below_new _ _), Q4.out.below (below_new _ _), below_step G4.out (below_new _ _)⟩
  clear R4 Q4 G4
  generalize w4.alloc (.cells (twoFlows r q) 25) = w5 at *
  generalize w4.heap.size = L at *
  go_loopg [23] 2 (fun g i wr => ∃ k : Nat, k ≤ 2 ∧ g = 2 - k ∧ i = .int .i64 (k : Int) ∧ Hid (TwoF w.heap.size L r q w wr))
  case atStart => exact ⟨0, by omega, by omega, rfl, T5⟩
  case round =>
    obtain ⟨k, hk, rfl, rfl, HR⟩ := hrel
    by_cases hlt : k < 2
    · obtain ⟨F, hF, -, c0, c1, c2, c3⟩ := HR.out.at k hlt
      have FK := Lib.hid hF
      clear hF
      go_upto_region 5 with (fail)
      have FB : Hid ((wr.alloc (flowBox F)).heap[wr.heap.size]? = some (flowBox F)) := Lib.hid (heap_alloc_new _ _)
      have g6 := below_new wr (flowBox F)
      have hBr := HR.out.bel.size
      have T6 := Lib.hid (HR.out.below g6 hBr)
      have F6 := Lib.hid (FK.out.below g6)
      have hBr6 : w.heap.size ≤ (wr.alloc (flowBox F)).heap.size := Nat.le_trans hBr g6.size
      clear g6 c0 c1 c2 c3 FK HR hBr
      generalize wr.alloc (flowBox F) = w6 at *
      generalize wr.heap.size = S at *
      have a0 := block_cell FB.out 0 _ rfl
      have a1 := block_cell FB.out 1 _ rfl
      have a2 := block_cell FB.out 2 _ rfl
      have a3 := block_cell FB.out 3 _ rfl
      go_wp2_with fail
      refine (Print_any F w6 a (HT.out.below T6.out.bel) F6.out).mono ?_
      rintro e w7 ⟨rfl, g7⟩
      have FB7 := Lib.hid ((g7.block _ (lt_of_block FB.out)).trans FB.out)
      have T7 := Lib.hid (T6.out.below g7 hBr6)
      have F7 := Lib.hid (F6.out.below g7)
      have hB7 : w.heap.size ≤ w7.heap.size := Nat.le_trans hBr6 g7.size
      clear a0 a1 a2 a3 g7 FB T6 F6 hBr6
      have a0 := block_cell FB7.out 0 _ rfl
      have a1 := block_cell FB7.out 1 _ rfl
      have a2 := block_cell FB7.out 2 _ rfl
      have a3 := block_cell FB7.out 3 _ rfl
      have VA := Lib.hid (Valid_any F w7 F7.out)
      have e9 : IntKind.i64.wrap ((k : Int) + 1) = (k : Int) + 1 := IntWalk.i64_in _ (by omega)
      by_cases hv : Fl.valid F.f = true
      · have e1 : printS F.f = Fl.text F.f := if_pos hv
        have e2 : printE F.f = 0 := if_pos hv
        rw [e1, e2]
        rw [hv] at VA
        have hps := Fl.parse_text hv
        have htl := Fl.text_short hv
        generalize Fl.text F.f = T at *
        have PA := Lib.hid (fun w ht => parse_ok hps w a ht (by omega))
        clear e1 e2 hps hv
        go_wp2_with fail
        refine VA.out.mono ?_
        rintro e w8 ⟨rfl, g8⟩
        have FB8 := Lib.hid ((g8.block _ (lt_of_block FB7.out)).trans FB7.out)
        have T8 := Lib.hid (T7.out.below g8 hB7)
        have F8 := Lib.hid (F7.out.below g8)
        have hB8 : w.heap.size ≤ w8.heap.size := Nat.le_trans hB7 g8.size
        clear a0 a1 a2 a3 g8 FB7 T7 F7 VA hB7
        go_wp2_with fail
        refine (PA.out w8 (HT.out.below T8.out.bel)).mono ?_
        rintro e w9 ⟨g, rfl, hgf, hg, g9⟩
        have FB9 := Lib.hid ((g9.block _ (lt_of_block FB8.out)).trans FB8.out)
        have T9 := Lib.hid (T8.out.below g9 hB8)
        have F9 := Lib.hid (F8.out.below g9)
        have hB9 : w.heap.size ≤ w9.heap.size := Nat.le_trans hB8 g9.size
        have HGF := Lib.hid hgf; have HG := Lib.hid hg
        clear g9 FB8 T8 F8 hB8 PA hgf hg
        go_upto_region 10 with (fail)
        have g10 := below_new w9 (flowBox g)
        have GB : Hid ((w9.alloc (flowBox g)).heap[w9.heap.size]? = some (flowBox g)) := Lib.hid (heap_alloc_new _ _)
        have FB10 := Lib.hid ((g10.block _ (lt_of_block FB9.out)).trans FB9.out)
        have T10 := Lib.hid (T9.out.below g10 hB9)
        have F10 := Lib.hid (F9.out.below g10)
        have HG10 := Lib.hid (HG.out.below g10)
        have hB10 : w.heap.size ≤ (w9.alloc (flowBox g)).heap.size := Nat.le_trans hB9 g10.size
        clear g10 FB9 T9 F9 HG hB9
        generalize w9.alloc (flowBox g) = w10 at *
        generalize w9.heap.size = S2 at *
        have SA := Same_any F g w10 F10.out HG10.out
        rw [HGF.out, decide_eq_true rfl] at SA
        have HSA := Lib.hid SA
        clear SA
        have a0 := block_cell FB10.out 0 _ rfl
        have a1 := block_cell FB10.out 1 _ rfl
        have a2 := block_cell FB10.out 2 _ rfl
        have a3 := block_cell FB10.out 3 _ rfl
        have d0 := block_cell GB.out 0 _ rfl
        have d1 := block_cell GB.out 1 _ rfl
        have d2 := block_cell GB.out 2 _ rfl
        have d3 := block_cell GB.out 3 _ rfl
        have hsz : (bs T).size = T.length := bs_size T
        have hns : ¬ (8192 : Int) < (T.length : Int) := by omega
        go_wp2_with fail
        refine HSA.out.mono ?_
        rintro e w11 ⟨rfl, g11⟩
        have T11 := Lib.hid (T10.out.below g11 hB10)
        clear a0 a1 a2 a3 d0 d1 d2 d3 g11 T10 F10 HG10 HSA FB10 GB
        go_wp2_with fail
        go_roundg (2 - (k + 1))
        case rel => exact ⟨k + 1, hlt, rfl, by go_num, T11⟩
        case measure => omega
      · have hv' : Fl.valid F.f = false := by simpa using hv
        have e1 : printS F.f = [] := if_neg hv
        have e2 : printE F.f = 40 := if_neg hv
        rw [e1, e2]
        rw [hv'] at VA
        clear e1 e2 hv hv'
        go_wp2_with fail
        refine VA.out.mono ?_
        rintro e w8 ⟨rfl, g8⟩
        have T8 := Lib.hid (T7.out.below g8 hB7)
        clear a0 a1 a2 a3 g8 FB7 T7 F7 VA hB7
        go_wp2_with fail
        go_roundg (2 - (k + 1))
        case rel => exact ⟨k + 1, hlt, rfl, by go_num, T8⟩
        case measure => omega
    · obtain rfl : k = 2 := by omega
      go_wp2_with fail
      go_ret
      exact ⟨rfl, HR.out.bel⟩
end Go.Proofs.YtblnfcffalaeaaaGreatDoor
