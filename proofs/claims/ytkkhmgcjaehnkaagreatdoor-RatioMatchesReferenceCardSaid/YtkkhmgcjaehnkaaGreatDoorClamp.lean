/-
  Clamp, for all arguments.
-/
import Derived.Test.YtkkhmgcjaehnkaaGreatDoorMake
namespace Go.Proofs.YtkkhmgcjaehnkaaGreatDoor
open Go.RowKit Go.Shelf

/-- What Clamp answers. -/
def clampR (an ad ln ld hn hd : Int) : Int × Int :=
  if Ra.Ok an ad ∧ Ra.Ok ln ld ∧ Ra.Ok hn hd then (if cmpR an ad ln ld < 0 then (ln, ld) else if 0 < cmpR an ad hn hd then (hn, hd) else (an, ad)) else (0, 0)

/-- What stays while Clamp runs: the three boxes and the result's. -/
structure ClampAt (w : World) (an ad ln ld hn hd : Int) (w' : World) : Prop where
  a : BoxAt w' w.heap.size an ad
  l : BoxAt w' (w.heap.size + 1) ln ld
  h : BoxAt w' (w.heap.size + 1 + 1) hn hd
  r : BoxAt w' (w.heap.size + 1 + 1 + 1) 0 0
  fr : ∀ o, w'.frozen? ⟨w.heap.size + 1 + 1 + 1, o, none⟩ = false
  bel : Below w.heap.size w w'
theorem ClampAt.step {w : World} {an ad ln ld hn hd : Int} {w1 w2 : World} (h : ClampAt w an ad ln ld hn hd w1) (hb : Below w1.heap.size w1 w2) : ClampAt w an ad ln ld hn hd w2 :=
  ⟨h.a.below hb, h.l.below hb, h.h.below hb, h.r.below hb, fun o => (hb.frozen (p := ⟨w.heap.size + 1 + 1 + 1, o, none⟩) h.r.1).trans (h.fr o), below_step h.bel hb⟩
theorem ClampAt.new (w : World) (an ad ln ld hn hd : Int) : ClampAt w an ad ln ld hn hd ((((w.alloc (.cells #[.int .i64 an, .int .i64 ad] 25)).alloc (.cells #[.int .i64 ln, .int .i64 ld] 25)).alloc (.cells #[.int .i64 hn, .int .i64 hd] 25)).alloc (.cells #[.int .i64 0, .int .i64 0] 25)) := by
  have b1 := BoxAt.new (w.alloc (.cells #[.int .i64 an, .int .i64 ad] 25)) ln ld
  have b2 := BoxAt.new ((w.alloc (.cells #[.int .i64 an, .int .i64 ad] 25)).alloc (.cells #[.int .i64 ln, .int .i64 ld] 25)) hn hd
  have b3 := BoxAt.new (((w.alloc (.cells #[.int .i64 an, .int .i64 ad] 25)).alloc (.cells #[.int .i64 ln, .int .i64 ld] 25)).alloc (.cells #[.int .i64 hn, .int .i64 hd] 25)) 0 0
  simp only [World.size_alloc] at b1 b2 b3
  refine ⟨(((BoxAt.new w an ad).below (below_new _ _)).below (below_new _ _)).below (below_new _ _), (b1.below (below_new _ _)).below (below_new _ _), b2.below (below_new _ _), b3, fun o => by simp [go_sem], ?_⟩
  exact below_step (below_step (below_step (below_new _ _) (below_new _ _)) (below_new _ _)) (below_new _ _)

set_option maxRecDepth 100000 in
set_option maxHeartbeats 1000000 in
theorem Clamp_any (an ad ln ld hn hd : Int) (w : World) (fa : Fits an ∧ Fits ad) (fl : Fits ln ∧ Fits ld) (fh : Fits hn ∧ Fits hd) :
    Calls Tryz.prog 24 #[ratV an ad, ratV ln ld, ratV hn hd] w fun e w' => e = .returned (ratV (clampR an ad ln ld hn hd).1 (clampR an ad ln ld hn hd).2) ∧ Below w.heap.size w w' := by
  have va := fun w => valid_any an ad w fa.1.1 fa.1.2 fa.2.1 fa.2.2
  have vl := fun w => valid_any ln ld w fl.1.1 fl.1.2 fl.2.1 fl.2.2
  have vh := fun w => valid_any hn hd w fh.1.1 fh.1.2 fh.2.1 fh.2.2
  have c1 := fun w => Compare_any an ad ln ld w fa fl
  have c2 := fun w => Compare_any an ad hn hd w fa fh
  have R0 := Lib.hid (ClampAt.new w an ad ln ld hn hd)
  have a0 := R0.out.a.2.1; have a1 := R0.out.a.2.2
  clear fa fl fh
  by_cases oa : Ra.Ok an ad
  case neg =>
    have hv : clampR an ad ln ld hn hd = (0, 0) := if_neg fun h => oa h.1
    rw [hv]
    rw [okB_false oa] at va
    have VA := Lib.hid va
    clear va vl vh c1 c2 hv oa
    go_enter Tryz.func24, Tryz.ntmps24
    go_wp2_with fail
    clear a0 a1
    refine (VA.out _).mono ?_; rintro e w1 ⟨rfl, g1⟩
    have R1 := R0.out.step g1
    have r2 := R1.r.2.1; have r3 := R1.r.2.2; have f0 := R1.fr 0; have f1 := R1.fr 1
    go_wp2_with fail
    refine bodyPost_ret (v := ratV 0 0) (by simp [results, Tryz.results24, go_sem, r2, r3]) rfl ⟨rfl, ?_⟩
    exact (R1.bel.setCell (by simp; omega) _).setCell (by simp; omega) _
  rw [okB_true oa] at va
  have VA := Lib.hid va
  by_cases ol : Ra.Ok ln ld
  case neg =>
    have hv : clampR an ad ln ld hn hd = (0, 0) := if_neg fun h => ol h.2.1
    rw [hv]
    rw [okB_false ol] at vl
    have VL := Lib.hid vl
    clear va vl vh c1 c2 hv oa ol
    go_enter Tryz.func24, Tryz.ntmps24
    go_wp2_with fail
    clear a0 a1
    refine (VA.out _).mono ?_; rintro e w1 ⟨rfl, g1⟩
    have R1 := R0.out.step g1
    have l0 := R1.l.2.1; have l1 := R1.l.2.2
    go_wp2_with fail
    clear l0 l1
    refine (VL.out _).mono ?_; rintro e w2 ⟨rfl, g2⟩
    have R2 := R1.step g2
    have r2 := R2.r.2.1; have r3 := R2.r.2.2; have f0 := R2.fr 0; have f1 := R2.fr 1
    go_wp2_with fail
    refine bodyPost_ret (v := ratV 0 0) (by simp [results, Tryz.results24, go_sem, r2, r3]) rfl ⟨rfl, ?_⟩
    exact (R2.bel.setCell (by simp; omega) _).setCell (by simp; omega) _
  rw [okB_true ol] at vl
  have VL := Lib.hid vl
  by_cases oh : Ra.Ok hn hd
  case neg =>
    have hv : clampR an ad ln ld hn hd = (0, 0) := if_neg fun h => oh h.2.2
    rw [hv]
    rw [okB_false oh] at vh
    have VH := Lib.hid vh
    clear va vl vh c1 c2 hv oa ol oh
    go_enter Tryz.func24, Tryz.ntmps24
    go_wp2_with fail
    clear a0 a1
    refine (VA.out _).mono ?_; rintro e w1 ⟨rfl, g1⟩
    have R1 := R0.out.step g1
    have l0 := R1.l.2.1; have l1 := R1.l.2.2
    go_wp2_with fail
    clear l0 l1
    refine (VL.out _).mono ?_; rintro e w2 ⟨rfl, g2⟩
    have R2 := R1.step g2
    have h0 := R2.h.2.1; have h1 := R2.h.2.2
    go_wp2_with fail
    clear h0 h1
    refine (VH.out _).mono ?_; rintro e w3 ⟨rfl, g3⟩
    have R3 := R2.step g3
    have r2 := R3.r.2.1; have r3 := R3.r.2.2; have f0 := R3.fr 0; have f1 := R3.fr 1
    go_wp2_with fail
    refine bodyPost_ret (v := ratV 0 0) (by simp [results, Tryz.results24, go_sem, r2, r3]) rfl ⟨rfl, ?_⟩
    exact (R3.bel.setCell (by simp; omega) _).setCell (by simp; omega) _
  rw [okB_true oh] at vh
  have VH := Lib.hid vh
  have hv : clampR an ad ln ld hn hd = if cmpR an ad ln ld < 0 then (ln, ld) else if 0 < cmpR an ad hn hd then (hn, hd) else (an, ad) := if_pos ⟨oa, ol, oh⟩
  rw [hv]
  generalize cmpR an ad ln ld = C at c1 ⊢
  generalize cmpR an ad hn hd = D at c2 ⊢
  have C1 := Lib.hid c1; have C2 := Lib.hid c2
  clear va vl vh c1 c2 hv oa ol oh
  by_cases k1 : C < 0
  case pos =>
    rw [if_pos k1]
    have k1' : decide (C < 0) = true := decide_eq_true k1
    go_enter Tryz.func24, Tryz.ntmps24
    go_wp2_with fail
    clear a0 a1
    refine (VA.out _).mono ?_; rintro e w1 ⟨rfl, g1⟩
    have R1 := R0.out.step g1
    have l0 := R1.l.2.1; have l1 := R1.l.2.2
    go_wp2_with fail
    clear l0 l1
    refine (VL.out _).mono ?_; rintro e w2 ⟨rfl, g2⟩
    have R2 := R1.step g2
    have h0 := R2.h.2.1; have h1 := R2.h.2.2
    go_wp2_with fail
    clear h0 h1
    refine (VH.out _).mono ?_; rintro e w3 ⟨rfl, g3⟩
    have R3 := R2.step g3
    have a0 := R3.a.2.1; have a1 := R3.a.2.2; have l0 := R3.l.2.1; have l1 := R3.l.2.2
    go_wp2_with fail
    clear a0 a1 l0 l1
    refine (C1.out _).mono ?_; rintro e w4 ⟨rfl, g4⟩
    have R4 := R3.step g4
    have l0 := R4.l.2.1; have l1 := R4.l.2.2
    have r2 := R4.r.2.1; have r3 := R4.r.2.2; have f0 := R4.fr 0; have f1 := R4.fr 1
    go_wp2_with fail
    refine bodyPost_ret (v := ratV ln ld) (by simp [results, Tryz.results24, go_sem, r2, r3]) rfl ⟨rfl, ?_⟩
    exact (R4.bel.setCell (by simp; omega) _).setCell (by simp; omega) _
  rw [if_neg k1]
  have k1' : decide (C < 0) = false := decide_eq_false k1
  by_cases k2 : 0 < D
  case pos =>
    rw [if_pos k2]
    have k2' : decide (0 < D) = true := decide_eq_true k2
    go_enter Tryz.func24, Tryz.ntmps24
    go_wp2_with fail
    clear a0 a1
    refine (VA.out _).mono ?_; rintro e w1 ⟨rfl, g1⟩
    have R1 := R0.out.step g1
    have l0 := R1.l.2.1; have l1 := R1.l.2.2
    go_wp2_with fail
    clear l0 l1
    refine (VL.out _).mono ?_; rintro e w2 ⟨rfl, g2⟩
    have R2 := R1.step g2
    have h0 := R2.h.2.1; have h1 := R2.h.2.2
    go_wp2_with fail
    clear h0 h1
    refine (VH.out _).mono ?_; rintro e w3 ⟨rfl, g3⟩
    have R3 := R2.step g3
    have a0 := R3.a.2.1; have a1 := R3.a.2.2; have l0 := R3.l.2.1; have l1 := R3.l.2.2
    go_wp2_with fail
    clear a0 a1 l0 l1
    refine (C1.out _).mono ?_; rintro e w4 ⟨rfl, g4⟩
    have R4 := R3.step g4
    have a0 := R4.a.2.1; have a1 := R4.a.2.2; have l0 := R4.h.2.1; have l1 := R4.h.2.2
    go_wp2_with fail
    clear a0 a1 l0 l1
    refine (C2.out _).mono ?_; rintro e w5 ⟨rfl, g5⟩
    have R5 := R4.step g5
    have l0 := R5.h.2.1; have l1 := R5.h.2.2
    have r2 := R5.r.2.1; have r3 := R5.r.2.2; have f0 := R5.fr 0; have f1 := R5.fr 1
    go_wp2_with fail
    refine bodyPost_ret (v := ratV hn hd) (by simp [results, Tryz.results24, go_sem, r2, r3]) rfl ⟨rfl, ?_⟩
    exact (R5.bel.setCell (by simp; omega) _).setCell (by simp; omega) _
  rw [if_neg k2]
  have k2' : decide (0 < D) = false := decide_eq_false k2
  go_enter Tryz.func24, Tryz.ntmps24
  go_wp2_with fail
  clear a0 a1
  refine (VA.out _).mono ?_; rintro e w1 ⟨rfl, g1⟩
  have R1 := R0.out.step g1
  have l0 := R1.l.2.1; have l1 := R1.l.2.2
  go_wp2_with fail
  clear l0 l1
  refine (VL.out _).mono ?_; rintro e w2 ⟨rfl, g2⟩
  have R2 := R1.step g2
  have h0 := R2.h.2.1; have h1 := R2.h.2.2
  go_wp2_with fail
  clear h0 h1
  refine (VH.out _).mono ?_; rintro e w3 ⟨rfl, g3⟩
  have R3 := R2.step g3
  have a0 := R3.a.2.1; have a1 := R3.a.2.2; have l0 := R3.l.2.1; have l1 := R3.l.2.2
  go_wp2_with fail
  clear a0 a1 l0 l1
  refine (C1.out _).mono ?_; rintro e w4 ⟨rfl, g4⟩
  have R4 := R3.step g4
  have a0 := R4.a.2.1; have a1 := R4.a.2.2; have l0 := R4.h.2.1; have l1 := R4.h.2.2
  go_wp2_with fail
  clear a0 a1 l0 l1
  refine (C2.out _).mono ?_; rintro e w5 ⟨rfl, g5⟩
  have R5 := R4.step g5
  have l0 := R5.a.2.1; have l1 := R5.a.2.2
  have r2 := R5.r.2.1; have r3 := R5.r.2.2; have f0 := R5.fr 0; have f1 := R5.fr 1
  go_wp2_with fail
  refine bodyPost_ret (v := ratV an ad) (by simp [results, Tryz.results24, go_sem, r2, r3]) rfl ⟨rfl, ?_⟩
  exact (R5.bel.setCell (by simp; omega) _).setCell (by simp; omega) _
end Go.Proofs.YtkkhmgcjaehnkaaGreatDoor
