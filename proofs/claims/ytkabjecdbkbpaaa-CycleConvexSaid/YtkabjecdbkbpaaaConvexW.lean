/-
  CycleConvex.
-/
import Derived.Test.YtkabjecdbkbpaaaHd
namespace Go.Proofs.Ytkabjecdbkbpaaa
open Go.RowKit Go.Shelf Cy

set_option maxRecDepth 100000 in
set_option maxHeartbeats 4000000 in
theorem convex_any (n : Int) (xa : Option Addr) (xc : Nat) (X : List (List Int)) (p0 p1 p2 : Int) (W : World) (n0 : -9223372036854775808 ≤ n) (n1 : n ≤ 9223372036854775807) (wX : ArrsA 4 W xa xc X) (f0 : Fits p0) (f1 : Fits p1) (f2 : Fits p2) :
    Calls Try.prog 8 #[.int .i64 n, .slice xa X.length xc, .agg #[.int .i64 p0, .int .i64 p1, .int .i64 p2]] W fun e w' => e = .returned (.bool true) ∧ Below W.heap.size W w' := by
  have HG0 := Lib.hid (below_new W (.cells #[.int .i64 p0, .int .i64 p1, .int .i64 p2] 46))
  have HBx := Lib.hid (heap_alloc_new W (.cells #[.int .i64 p0, .int .i64 p1, .int .i64 p2] 46))
  have HSa := Lib.hid (sane_any (W.alloc (.cells #[.int .i64 p0, .int .i64 p1, .int .i64 p2] 46)))
  have HP0 := Lib.hid (pick_is n 7 ⟨n0, n1⟩ (by omega))
  have HP1 := Lib.hid (pick_is p0 100 f0 (by omega))
  have HP2 := Lib.hid (pick_is p1 50 f1 (by omega))
  have HP3 := Lib.hid (pick_is p2 50 f2 (by omega))
  have q0 := pickZ_bd (c := n) (n := 7) (by omega)
  have q1 := pickZ_bd (c := p0) (n := 100) (by omega)
  have q2 := pickZ_bd (c := p1) (n := 50) (by omega)
  have q3 := pickZ_bd (c := p2) (n := 50) (by omega)
  obtain ⟨N, hN⟩ := Int.eq_ofNat_of_zero_le (show 0 ≤ 1 + pickZ n 7 by omega)
  have HAr := Lib.hid (fun (w : World) (h : Below W.heap.size W w) => arcsA_any X (N : Int) (by omega) false xa xc w (wX.below h))
  have hv := arcsL_valid (X := X) (plain := false) (n := (N : Int)) (by omega)
  have hal := arcsL_len X (N : Int) false
  obtain ⟨lo, hlo⟩ : ∃ z, z = pickZ p0 100 - 20 := ⟨_, rfl⟩
  obtain ⟨mi, hmi⟩ : ∃ z, z = lo + pickZ p1 50 := ⟨_, rfl⟩
  obtain ⟨hi, hhi⟩ : ∃ z, z = mi + pickZ p2 50 := ⟨_, rfl⟩
  have HCv := Lib.hid (fun a b => convex (n := N) hv (per_of (p := lo) (by omega)) (per_of (p := mi) (by omega)) (per_of (p := hi) (by omega)) (by omega) (by omega) a b)
  have HE1 := Lib.hid (lvB_is hv (per_of (p := lo) (by omega)))
  have HE2 := Lib.hid (lvB_is hv (per_of (p := mi) (by omega)))
  have HE3 := Lib.hid (lvB_is hv (per_of (p := hi) (by omega)))
  have HL := Lib.hid (fun (p : Int) (a : Option Addr) (c : Nat) (w : World) (h1 : ArcA w a c (arcsL X (N : Int) false)) (h2 : ∀ x, a = some x → x.block < w.heap.size) => lvB_any (N : Int) p (by unfold Fits; omega) _ a c w h1 h2)
  have d0 : IntKind.i64.wrap (1 + pickZ n 7) = 1 + pickZ n 7 := IntWalk.i64_in _ (by omega)
  have d1 : IntKind.i64.wrap (pickZ p0 100 - 20) = pickZ p0 100 - 20 := IntWalk.i64_in _ (by omega)
  have d2 : IntKind.i64.wrap (lo + pickZ p1 50) = lo + pickZ p1 50 := IntWalk.i64_in _ (by omega)
  have d3 : IntKind.i64.wrap (mi + pickZ p2 50) = mi + pickZ p2 50 := IntWalk.i64_in _ (by omega)
  rw [hN] at d0
  replace hlo := hlo.symm; replace hmi := hmi.symm; replace hhi := hhi.symm
  rw [hlo] at d1
  rw [hmi] at d2
  rw [hhi] at d3
  clear wX hv
  generalize arcsL X (N : Int) false = A at *
  go_enter Try.func8, Try.ntmps8
  go_wp2_with fail
  generalize W.alloc (.cells #[.int .i64 p0, .int .i64 p1, .int .i64 p2] 46) = w0 at *
  refine HSa.out.mono ?_
  rintro _ w1 ⟨rfl, b1⟩
  have B1 := Lib.hid (below_step HG0.out b1)
  have C1 := Lib.hid (box_below HBx.out b1)
  clear b1 HSa HG0 HBx
  go_wp2_with fail
  refine (HP0.out w1).mono ?_
  rintro _ w1 ⟨rfl, rfl⟩
  clear HP0
  go_wp2_with fail
  refine (HAr.out w1 B1.out).mono ?_
  rintro _ w2 ⟨aa, ac, rfl, h2, h3, b2⟩
  have A2 := Lib.hid h2; have S2 := Lib.hid (fun x hx => (h3 x hx).2); have B2 := Lib.hid (below_step B1.out b2); have C2 := Lib.hid (box_below C1.out b2)
  clear h2 h3 b2 HAr B1 C1
  have x0 := box_cell C2.out 0 (.int .i64 p0) rfl
  have x1 := box_cell C2.out 1 (.int .i64 p1) rfl
  have x2 := box_cell C2.out 2 (.int .i64 p2) rfl
  go_wp2_with fail
  refine (HP1.out w2).mono ?_
  rintro _ w2 ⟨rfl, rfl⟩
  clear HP1
  go_wp2_with fail
  refine (HP2.out w2).mono ?_
  rintro _ w2 ⟨rfl, rfl⟩
  clear HP2
  go_wp2_with fail
  refine (HP3.out w2).mono ?_
  rintro _ w2 ⟨rfl, rfl⟩
  clear HP3 x0 x1 x2 C2
  go_wp2_with fail
  refine (HL.out lo _ _ w2 A2.out S2.out).mono ?_
  rintro _ w3 ⟨sa1, sc1, ca1, cc1, rfl, -, -, b3⟩
  rw [HE1.out]
  have B3 := Lib.hid (below_step B2.out b3); have A3 := Lib.hid (A2.out.below b3); have S3 := Lib.hid (fun x hx => Nat.lt_of_lt_of_le (S2.out x hx) b3.size)
  clear b3 B2 A2 S2
  go_wp2_with fail
  refine (HL.out mi _ _ w3 A3.out S3.out).mono ?_
  rintro _ w4 ⟨sa2, sc2, ca2, cc2, rfl, -, -, b4⟩
  rw [HE2.out]
  have B4 := Lib.hid (below_step B3.out b4); have A4 := Lib.hid (A3.out.below b4); have S4 := Lib.hid (fun x hx => Nat.lt_of_lt_of_le (S3.out x hx) b4.size)
  clear b4 B3 A3 S3
  go_wp2_with fail
  refine (HL.out hi _ _ w4 A4.out S4.out).mono ?_
  rintro _ w5 ⟨sa3, sc3, ca3, cc3, rfl, -, -, b5⟩
  rw [HE3.out]
  have B5 := Lib.hid (below_step B4.out b5)
  clear b5 B4 A4 S4 HL
  clear HE1 HE2 HE3
  generalize feas A N lo = F1 at *
  generalize feas A N mi = F2 at *
  generalize feas A N hi = F3 at *
  have HF := Lib.hid (show F1 = false ∨ F3 = false ∨ F2 = true from by
    cases F1
    · exact .inl rfl
    · cases F3
      · exact .inr (.inl rfl)
      · exact .inr (.inr (HCv.out rfl rfl)))
  clear HCv
  cases F1
  · go_wp2_with fail
    go_ret
    exact ⟨rfl, B5.out⟩
  · cases F3
    · go_wp2_with fail
      go_ret
      exact ⟨rfl, B5.out⟩
    · obtain rfl : F2 = true := by rcases HF.out with h | h | h; cases h; cases h; exact h
      go_wp2_with fail
      go_ret
      exact ⟨rfl, B5.out⟩
end Go.Proofs.Ytkabjecdbkbpaaa
