/-
  The walk of FlowDistinct, the contract of bent assumed: whatever bent answers is some flow in memory.
-/
import Derived.Test.YtblnfcffalaeaaaGreatDoorMake
import Derived.Deep.DeepCutAuto
namespace Go.Proofs.YtblnfcffalaeaaaGreatDoor
open Go.RowKit Go.Shelf

/-- The last line's answer. -/
theorem distinct_true {f g : Fl.Flow} (hf : Fl.valid f = true) (hg : Fl.valid g = true) : (decide (printS f = printS g) == decide (f = g)) = true := by
  unfold printS; rw [if_pos hf, if_pos hg]
  by_cases h : f = g
  · subst h; simp
  · have : ¬ Fl.text f = Fl.text g := fun e => h (Fl.text_inj hf hg e)
    simp [h, this]
set_option maxRecDepth 100000 in
set_option maxHeartbeats 2000000 in
theorem distinct_of (hbent : ∀ (q : FlowP) (h0 h1 h2 : Int) (w : World), q.ok w → Fl.valid q.f = true → Fits h0 → Fits h1 → Fits h2 → Calls Tryz.prog 15 #[q.v, .agg #[.int .i64 h0, .int .i64 h1, .int .i64 h2]] w fun e w' => ∃ r : FlowP, e = .returned r.v ∧ r.ok w' ∧ Below w.heap.size w w')
    (xa : Option Addr) (xc : Nat) (X : List (List Int)) (ya : Option Addr) (yc : Nat) (Y : List (List Int)) (h0 h1 h2 : Int) (w : World) (ht : ∃ a, Tab a w) (hX : ArrsA 6 w xa xc X) (hY : ArrsA 3 w ya yc Y) (f0 : Fits h0) (f1 : Fits h1) (f2 : Fits h2) :
    Calls Tryz.prog 7 #[.slice xa X.length xc, .slice ya Y.length yc, .agg #[.int .i64 h0, .int .i64 h1, .int .i64 h2]] w fun e w' => e = .returned (.bool true) ∧ Below w.heap.size w w' := by
  obtain ⟨a, ht⟩ := ht
  have HT := Lib.hid ht; have HX := Lib.hid hX; have HY := Lib.hid hY
  have HB := Lib.hid (fun q w hq hv => hbent q h0 h1 h2 w hq hv f0 f1 f2)
  clear hbent ht hX hY f0 f1 f2
  go_enter Tryz.func7, Tryz.ntmps7
  go_wp2_with fail
  have B0 := Lib.hid (below_new w (.cells #[.int .i64 h0, .int .i64 h1, .int .i64 h2] 28))
  have b0 := block_cell (heap_alloc_new w (.cells #[.int .i64 h0, .int .i64 h1, .int .i64 h2] 28)) 0 _ rfl
  have b1 := block_cell (heap_alloc_new w (.cells #[.int .i64 h0, .int .i64 h1, .int .i64 h2] 28)) 1 _ rfl
  have b2 := block_cell (heap_alloc_new w (.cells #[.int .i64 h0, .int .i64 h1, .int .i64 h2] 28)) 2 _ rfl
  generalize w.alloc (.cells #[.int .i64 h0, .int .i64 h1, .int .i64 h2] 28) = w1 at *
  refine (sane_any _ a (HT.out.below B0.out)).mono ?_; rintro e w2 ⟨rfl, g2⟩
  have G2 := Lib.hid (below_step B0.out g2)
  have b0 := cell_below g2 b0
  have b1 := cell_below g2 b1
  have b2 := cell_below g2 b2
  clear g2 B0
  go_wp2_with fail
  refine (Make_any X xa xc Y ya yc w2 (HX.out.below G2.out) (HY.out.below G2.out)).mono ?_
  rintro e w3 ⟨q, rfl, hq, hqv, -, -, g3⟩
  have G3 := Lib.hid (below_step G2.out g3)
  have QA := Lib.hid hq; have QV := Lib.hid hqv
  have b0 := cell_below g3 b0
  have b1 := cell_below g3 b1
  have b2 := cell_below g3 b2
  clear g3 hq hqv G2
  go_upto_region 3 with (fail)
  have FA : Hid ((w3.alloc (flowBox q)).heap[w3.heap.size]? = some (flowBox q)) := Lib.hid (heap_alloc_new _ _)
  have g4 := below_new w3 (flowBox q)
  have QA4 := Lib.hid (QA.out.below g4)
  have G4 := Lib.hid (below_step G3.out g4)
  have b0 := cell_below g4 b0
  have b1 := cell_below g4 b1
  have b2 := cell_below g4 b2
  clear g4 QA G3
  generalize w3.alloc (flowBox q) = w4 at *
  generalize w3.heap.size = A at *
  have a0 := block_cell FA.out 0 _ rfl
  have a1 := block_cell FA.out 1 _ rfl
  have a2 := block_cell FA.out 2 _ rfl
  have a3 := block_cell FA.out 3 _ rfl
  go_wp2_with fail
  refine (HB.out q w4 QA4.out QV.out).mono ?_
  rintro e w5 ⟨r, rfl, hr, g5⟩
  have FA5 := Lib.hid ((g5.block _ (lt_of_block FA.out)).trans FA.out)
  have QA5 := Lib.hid (QA4.out.below g5)
  have G5 := Lib.hid (below_step G4.out g5)
  have QR5 := Lib.hid hr
  clear b0 b1 b2 a0 a1 a2 a3 FA QA4 G4 g5 hr HB
  go_upto_region 4 with (fail)
  have FB : Hid ((w5.alloc (flowBox r)).heap[w5.heap.size]? = some (flowBox r)) := Lib.hid (heap_alloc_new _ _)
  have g6 := below_new w5 (flowBox r)
  have QA6 := Lib.hid (QA5.out.below g6); have QR6 := Lib.hid (QR5.out.below g6)
  have FA6 := Lib.hid ((g6.block _ (lt_of_block FA5.out)).trans FA5.out)
  have G6 := Lib.hid (below_step G5.out g6)
  clear g6 QA5 QR5 FA5 G5
  generalize w5.alloc (flowBox r) = w6 at *
  generalize w5.heap.size = B at *
  have a0 := block_cell FA6.out 0 _ rfl
  have a1 := block_cell FA6.out 1 _ rfl
  have a2 := block_cell FA6.out 2 _ rfl
  have a3 := block_cell FA6.out 3 _ rfl
  obtain ⟨sq, hsq⟩ : ∃ s, bs (printS q.f) = s := ⟨_, rfl⟩
  obtain ⟨eq, heq⟩ : ∃ s, printE q.f = s := ⟨_, rfl⟩
  obtain ⟨sr, hsr⟩ : ∃ s, bs (printS r.f) = s := ⟨_, rfl⟩
  obtain ⟨er, her⟩ : ∃ s, printE r.f = s := ⟨_, rfl⟩
  have P1 := Lib.hid (Print_any q w6 a (HT.out.below G6.out) QA6.out)
  rw [hsq, heq] at P1
  have HSQ := Lib.hid hsq; have HEQ := Lib.hid heq; have HSR := Lib.hid hsr; have HER := Lib.hid her
  clear hsq heq hsr her
  go_wp2_with fail
  refine P1.out.mono ?_; rintro e w7 ⟨rfl, g7⟩
  have FA7 := Lib.hid ((g7.block _ (lt_of_block FA6.out)).trans FA6.out)
  have FB7 := Lib.hid ((g7.block _ (lt_of_block FB.out)).trans FB.out)
  have QA7 := Lib.hid (QA6.out.below g7); have QR7 := Lib.hid (QR6.out.below g7)
  have G7 := Lib.hid (below_step G6.out g7)
  clear a0 a1 a2 a3 g7 FA6 FB QA6 QR6 G6 P1
  have a0 := block_cell FB7.out 0 _ rfl
  have a1 := block_cell FB7.out 1 _ rfl
  have a2 := block_cell FB7.out 2 _ rfl
  have a3 := block_cell FB7.out 3 _ rfl
  have P2 := Lib.hid (Print_any r w7 a (HT.out.below G7.out) QR7.out)
  rw [HSR.out, HER.out] at P2
  go_wp2_with fail
  refine P2.out.mono ?_; rintro e w8 ⟨rfl, g8⟩
  have FA8 := Lib.hid ((g8.block _ (lt_of_block FA7.out)).trans FA7.out)
  have FB8 := Lib.hid ((g8.block _ (lt_of_block FB7.out)).trans FB7.out)
  have QA8 := Lib.hid (QA7.out.below g8); have QR8 := Lib.hid (QR7.out.below g8)
  have G8 := Lib.hid (below_step G7.out g8)
  clear a0 a1 a2 a3 g8 FA7 FB7 QA7 QR7 G7 P2
  have he : eq = 0 := by rw [← HEQ.out]; unfold printE; rw [if_pos QV.out]
  subst he
  rcases hv : Fl.valid r.f with _ | _
  · have he : er = 40 := by rw [← HER.out]; unfold printE; rw [if_neg (by rw [hv]; decide)]
    subst he
    clear hv
    go_wp2_with fail
    go_ret
    exact ⟨rfl, G8.out⟩
  · have he : er = 0 := by rw [← HER.out]; unfold printE; rw [if_pos hv]
    subst he
    have HV := Lib.hid hv; clear hv
    have a0 := block_cell FB8.out 0 _ rfl
    have a1 := block_cell FB8.out 1 _ rfl
    have a2 := block_cell FB8.out 2 _ rfl
    have a3 := block_cell FB8.out 3 _ rfl
    have c0 := block_cell FA8.out 0 _ rfl
    have c1 := block_cell FA8.out 1 _ rfl
    have c2 := block_cell FA8.out 2 _ rfl
    have c3 := block_cell FA8.out 3 _ rfl
    go_wp2_with fail
    refine (Same_any q r w8 QA8.out QR8.out).mono ?_; rintro e w9 ⟨rfl, g9⟩
    have G9 := Lib.hid (below_step G8.out g9)
    clear a0 a1 a2 a3 c0 c1 c2 c3 g9
    have E := Lib.hid (show ((sq.toList == sr.toList) == decide (q.f = r.f)) = true by
      rw [← HSQ.out, ← HSR.out, toList_bs, toList_bs, show (printS q.f == printS r.f) = decide (printS q.f = printS r.f) by rw [Bool.eq_iff_iff]; simp]
      exact distinct_true QV.out HV.out)
    generalize decide (q.f = r.f) = D at *
    go_wp2_with fail
    go_ret
    exact ⟨ret_bool E.out, G9.out⟩
end Go.Proofs.YtblnfcffalaeaaaGreatDoor
