/-
  CycleOptimal.
-/
import Derived.Test.YtkabjecdbkbpaaaDualW
namespace Go.Proofs.Ytkabjecdbkbpaaa
open Go.RowKit Go.Shelf Cy

/-- Levels, where it is known whether there are starts. -/
theorem lvF_any {n : Nat} {p : Int} {L : List Arc} (hn : n ≤ 7) (hv : valid (n : Int) L = true) (hp : isPer p = true) {b : Bool} (hb : feas L n p = b) {a : Option Addr} {c : Nat} {w : World} (hA : ArcA w a c L) (hS4 : ∀ x, a = some x → x.block < w.heap.size) :
    Calls Try.prog 14 #[.int .i64 n, .slice a L.length c, .int .i64 p] w fun e w' => ∃ sa sc ca cc, e = .returned (.tuple #[.slice sa (lvS (n : Int) p L).length sc, .slice ca (natsI (lvC (n : Int) p L)).length cc, .bool b]) ∧ IntsA w' sa sc (lvS (n : Int) p L) ∧ IntsA w' ca cc (natsI (lvC (n : Int) p L)) ∧ Below w.heap.size w w' := by
  have := lvB_any (n : Int) p (by unfold Fits; omega) L a c w hA hS4
  unfold LvB at this
  rw [lvB_is hv hp, hb] at this
  exact this
theorem veF_any {n : Nat} {p : Int} {L : List Arc} (hn : n ≤ 7) (hL : L.length ≤ 40) (hv : valid (n : Int) L = true) (hp : isPer p = true) {b : Bool} (hb : feas L n p = b) {a sa : Option Addr} {c sc : Nat} {w : World} (hA : ArcA w a c L) (hS : IntsA w sa sc (lvS (n : Int) p L)) (hS4 : ∀ x, a = some x → x.block < w.heap.size) :
    Calls Try.prog 19 #[.int .i64 n, .slice a L.length c, .int .i64 p, .slice sa (lvS (n : Int) p L).length sc] w fun e w' => e = .returned (.bool b) ∧ Below w.heap.size w w' := by
  have := Verify_any (n : Int) p (by unfold Fits; omega) L a c _ sa sc w hA hS hS4
  rw [(dual_facts hv hp hn hL).1, lvB_is hv hp, hb] at this
  exact this
theorem reF_any {n : Nat} {p : Int} {L : List Arc} (hn : n ≤ 7) (hL : L.length ≤ 40) (hv : valid (n : Int) L = true) (hp : isPer p = true) {b : Bool} (hb : feas L n p = b) {a sa : Option Addr} {c sc : Nat} {w : World} (hA : ArcA w a c L) (hS : IntsA w sa sc (natsI (lvC (n : Int) p L))) :
    Calls Try.prog 21 #[.int .i64 n, .slice a L.length c, .int .i64 p, .slice sa (natsI (lvC (n : Int) p L)).length sc] w fun e w' => e = .returned (.bool (!b)) ∧ Below w.heap.size w w' := by
  have h1 := Cy.within_iff.1 (show Cy.within p (-1000000) 1000000 = true from hp)
  have := Refutes_any (n : Int) p (by unfold Fits; omega) (by unfold Fits; omega) L a c _ sa sc w hA hS
  rw [(dual_facts hv hp hn hL).2.1, lvB_is hv hp, hb] at this
  exact this
set_option maxRecDepth 100000 in
set_option maxHeartbeats 4000000 in
theorem optimal_any (n : Int) (xa : Option Addr) (xc : Nat) (X : List (List Int)) (l0 h0 ot : Int) (W : World) (n0 : -9223372036854775808 ≤ n) (n1 : n ≤ 9223372036854775807) (wX : ArrsA 4 W xa xc X)
    (l1 : -9223372036854775808 ≤ l0) (l2 : l0 ≤ 9223372036854775807) (h1 : -9223372036854775808 ≤ h0) (h2 : h0 ≤ 9223372036854775807) (o1 : -9223372036854775808 ≤ ot) (o2 : ot ≤ 9223372036854775807) :
    Calls Try.prog 9 #[.int .i64 n, .slice xa X.length xc, .int .i64 l0, .int .i64 h0, .int .i64 ot] W fun e w' => e = .returned (.bool true) ∧ Below W.heap.size W w' := by
  have HSa := Lib.hid (sane_any W)
  have HP0 := Lib.hid (pick_is n 7 ⟨n0, n1⟩ (by omega))
  have HP1 := Lib.hid (pick_is ot 2 ⟨o1, o2⟩ (by omega))
  have HP2 := Lib.hid (pick_is l0 60 ⟨l1, l2⟩ (by omega))
  have HP3 := Lib.hid (pick_is h0 100 ⟨h1, h2⟩ (by omega))
  have q0 := pickZ_bd (c := n) (n := 7) (by omega)
  have q2 := pickZ_bd (c := l0) (n := 60) (by omega)
  have q3 := pickZ_bd (c := h0) (n := 100) (by omega)
  obtain ⟨pl, hpl⟩ : ∃ b, (pickZ ot 2 == 0) = b := ⟨_, rfl⟩
  obtain ⟨N, hN⟩ := Int.eq_ofNat_of_zero_le (show 0 ≤ 1 + pickZ n 7 by omega)
  have hN7 : N ≤ 7 := by omega
  have hN1 : 1 ≤ N := by omega
  have HAr := Lib.hid (fun (w : World) (b : Bool) (h : Below W.heap.size W w) => arcsA_any X (N : Int) (by omega) b xa xc w (wX.below h))
  have HVa := Lib.hid (arcsL_valid (X := X) (plain := pl) (n := (N : Int)) (by omega))
  have hal := arcsL_len X (N : Int) pl
  obtain ⟨lo, hlo⟩ : ∃ z, pickZ l0 60 - 20 = z := ⟨_, rfl⟩
  obtain ⟨hi, hhi⟩ : ∃ z, lo + pickZ h0 100 = z := ⟨_, rfl⟩
  obtain ⟨D, hD⟩ : ∃ z, hi - lo + 1 = z := ⟨_, rfl⟩
  have qD := pickZ_bd (c := ot) (n := D) (by omega)
  obtain ⟨R, hR⟩ : ∃ z, lo + pickZ ot D = z := ⟨_, rfl⟩
  have HPD := Lib.hid (pick_is ot D ⟨o1, o2⟩ (by omega))
  have d0 : IntKind.i64.wrap (1 + pickZ n 7) = 1 + pickZ n 7 := IntWalk.i64_in _ (by omega)
  have d1 : IntKind.i64.wrap (pickZ l0 60 - 20) = pickZ l0 60 - 20 := IntWalk.i64_in _ (by omega)
  have d2 : IntKind.i64.wrap (lo + pickZ h0 100) = lo + pickZ h0 100 := IntWalk.i64_in _ (by omega)
  have d3 : IntKind.i64.wrap (hi - lo) = hi - lo := IntWalk.i64_in _ (by omega)
  have d4 : IntKind.i64.wrap (hi - lo + 1) = hi - lo + 1 := IntWalk.i64_in _ (by omega)
  have d5 : IntKind.i64.wrap (lo + pickZ ot D) = lo + pickZ ot D := IntWalk.i64_in _ (by omega)
  rw [hN] at d0
  rw [hlo] at d1
  rw [hhi] at d2
  rw [hD] at d4
  rw [hR] at d5
  have PR : lo ≤ R ∧ R ≤ hi := by omega
  have PB : -20 ≤ lo ∧ lo ≤ hi ∧ hi ≤ 140 := by omega
  clear wX
  go_enter Try.func9, Try.ntmps9
  go_wp2_with fail
  refine HSa.out.mono ?_
  rintro _ w1 ⟨rfl, b1⟩
  have B1 := Lib.hid b1
  clear b1 HSa
  go_wp2_with fail
  refine (HP0.out w1).mono ?_
  rintro _ w1 ⟨rfl, rfl⟩
  go_wp2_with fail
  refine (HP1.out w1).mono ?_
  rintro _ w1 ⟨rfl, rfl⟩
  go_wp2_with fail
  refine (HAr.out w1 pl B1.out).mono ?_
  rintro _ w2 ⟨aa, ac, rfl, g2, g3, b2⟩
  have A2 := Lib.hid g2; have S2 := Lib.hid (fun x hx => (g3 x hx).2); have B2 := Lib.hid (below_step B1.out b2)
  clear g2 g3 b2 HP0 HP1 HAr B1
  go_wp2_with fail
  refine (HP2.out w2).mono ?_
  rintro _ w2 ⟨rfl, rfl⟩
  go_wp2_with fail
  refine (HP3.out w2).mono ?_
  rintro _ w2 ⟨rfl, rfl⟩
  clear HP2 HP3 d0 d1 d2 q0 q2 q3 hpl
  generalize arcsL X (N : Int) pl = A at *
  have HSm := Lib.hid (Smallest_any (N : Int) lo hi (by unfold Fits; omega) A aa ac w2 A2.out S2.out)
  unfold SmPost at HSm
  rw [show (valid (N : Int) A && (isPer lo && isPer hi)) = true by rw [HVa.out, per_of (p := lo) (by omega), per_of (p := hi) (by omega)]; rfl, Int.toNat_natCast] at HSm
  go_wp2_with fail
  refine HSm.out.mono ?_
  rintro _ w3 ⟨q, f, rfl, b3, -, hsp⟩
  have hsp := hsp (by trivial)
  have B3 := Lib.hid (below_step B2.out b3); have A3 := Lib.hid (A2.out.below b3); have S3 := Lib.hid (fun x hx => Nat.lt_of_lt_of_le (S2.out x hx) b3.size)
  clear b3 B2 A2 S2 HSm
  cases f with
  | false =>
    obtain ⟨rfl, hno⟩ := hsp.no rfl
    have hf := hno R PR.1 PR.2
    have HL := Lib.hid (lvF_any hN7 HVa.out (per_of (p := R) (by omega)) hf A3.out S3.out)
    have HR := Lib.hid (fun (w' : World) (h : Below w3.heap.size w3 w') (ca : Option Addr) (cc : Nat) (hc : IntsA w' ca cc (natsI (lvC (N : Int) R A))) => reF_any hN7 (by omega) HVa.out (per_of (p := R) (by omega)) hf (A3.out.below h) hc)
    clear hno hsp hf A3 S3
    go_wp2_with fail
    refine (HPD.out w3).mono ?_
    rintro _ w3 ⟨rfl, rfl⟩
    go_wp2_with fail
    refine HL.out.mono ?_
    rintro _ w4 ⟨sa, sc, ca, cc, rfl, -, j4, b4⟩
    have HR4 := Lib.hid (HR.out w4 b4 ca cc j4)
    have B4 := Lib.hid (below_step B3.out b4)
    clear j4 b4 HL HR B3
    generalize (natsI (lvC (N : Int) R A)).length = cl at *
    generalize (lvS (N : Int) R A).length = sl at *
    go_wp2_with fail
    refine (HPD.out w4).mono ?_
    rintro _ w4 ⟨rfl, rfl⟩
    go_wp2_with fail
    refine HR4.out.mono ?_
    rintro _ w5 ⟨rfl, b5⟩
    have B5 := Lib.hid (below_step B4.out b5)
    clear b5 HR4 B4
    go_wp2_with fail
    go_ret
    exact ⟨rfl, B5.out⟩
  | true =>
    obtain ⟨e1, e2, e3, e4⟩ := hsp.yes rfl
    have HE4 := Lib.hid e4
    clear hsp e4 HPD d3 d4 d5 hD hR qD PR
    have HL := Lib.hid (lvF_any hN7 HVa.out (per_of (p := q) (by omega)) e3 A3.out S3.out)
    have HV := Lib.hid (fun (w' : World) (h : Below w3.heap.size w3 w') (sa : Option Addr) (sc : Nat) (hc : IntsA w' sa sc (lvS (N : Int) q A)) => veF_any hN7 (by omega) HVa.out (per_of (p := q) (by omega)) e3 (A3.out.below h) hc (fun x hx => Nat.lt_of_lt_of_le (S3.out x hx) h.size))
    go_wp2_with fail
    refine HL.out.mono ?_
    rintro _ w4 ⟨sa, sc, ca, cc, rfl, j4, -, b4⟩
    have HV4 := Lib.hid (HV.out w4 b4 sa sc j4)
    have B4 := Lib.hid (below_step B3.out b4); have A4 := Lib.hid (A3.out.below b4); have S4 := Lib.hid (fun x hx => Nat.lt_of_lt_of_le (S3.out x hx) b4.size)
    clear j4 b4 HL HV B3 A3 S3
    generalize (natsI (lvC (N : Int) q A)).length = cl at *
    generalize (lvS (N : Int) q A).length = sl at *
    go_wp2_with fail
    refine HV4.out.mono ?_
    rintro _ w5 ⟨rfl, b5⟩
    have B5 := Lib.hid (below_step B4.out b5); have A5 := Lib.hid (A4.out.below b5); have S5 := Lib.hid (fun x hx => Nat.lt_of_lt_of_le (S4.out x hx) b5.size)
    clear b5 HV4 B4 A4 S4
    by_cases hq : q = lo
    · have hqb : (q == lo) = true := by rw [beq_iff_eq]; exact hq
      clear hq
      go_wp2_with fail
      go_ret
      exact ⟨rfl, B5.out⟩
    · have hqb : (q == lo) = false := by rw [beq_eq_false_iff_ne]; exact hq
      obtain ⟨q1, hq1⟩ : ∃ z, q - 1 = z := ⟨_, rfl⟩
      obtain ⟨E, hE⟩ : ∃ z, q - lo = z := ⟨_, rfl⟩
      have qE := pickZ_bd (c := ot) (n := E) (by omega)
      obtain ⟨R, hR⟩ : ∃ z, lo + pickZ ot E = z := ⟨_, rfl⟩
      have HPE := Lib.hid (pick_is ot E ⟨o1, o2⟩ (by omega))
      have d1 : IntKind.i64.wrap (q - 1) = q - 1 := IntWalk.i64_in _ (by omega)
      have d2 : IntKind.i64.wrap (q - lo) = q - lo := IntWalk.i64_in _ (by omega)
      have d3 : IntKind.i64.wrap (lo + pickZ ot E) = lo + pickZ ot E := IntWalk.i64_in _ (by omega)
      rw [hq1] at d1
      rw [hE] at d2
      rw [hR] at d3
      have f1 := HE4.out q1 (by omega) (by omega)
      have f2 := HE4.out R (by omega) (by omega)
      have HL1 := Lib.hid (lvF_any hN7 HVa.out (per_of (p := q1) (by omega)) f1 A5.out S5.out)
      have HL2 := Lib.hid (fun (w' : World) (h : Below w5.heap.size w5 w') => lvF_any hN7 HVa.out (per_of (p := R) (by omega)) f2 (A5.out.below h) (fun x hx => Nat.lt_of_lt_of_le (S5.out x hx) h.size))
      have HR1 := Lib.hid (fun (w' : World) (h : Below w5.heap.size w5 w') (ca : Option Addr) (cc : Nat) (hc : IntsA w' ca cc (natsI (lvC (N : Int) q1 A))) => reF_any hN7 (by omega) HVa.out (per_of (p := q1) (by omega)) f1 (A5.out.below h) hc)
      have HR2 := Lib.hid (fun (w' : World) (h : Below w5.heap.size w5 w') (ca : Option Addr) (cc : Nat) (hc : IntsA w' ca cc (natsI (lvC (N : Int) R A))) => reF_any hN7 (by omega) HVa.out (per_of (p := R) (by omega)) f2 (A5.out.below h) hc)
      clear hq f1 f2 e3 HE4
      go_wp2_with fail
      refine HL1.out.mono ?_
      rintro _ w6 ⟨sa1, sc1, ca1, cc1, rfl, -, j6, b6⟩
      have J6 := Lib.hid j6; have G6 := Lib.hid b6
      clear j6 b6 HL1
      go_wp2_with fail
      refine (HPE.out w6).mono ?_
      rintro _ w6 ⟨rfl, rfl⟩
      go_wp2_with fail
      refine (HL2.out w6 G6.out).mono ?_
      rintro _ w7 ⟨sa2, sc2, ca2, cc2, rfl, -, j7, b7⟩
      have J7 := Lib.hid j7; have G7 := Lib.hid (below_step G6.out b7)
      have HR7 := Lib.hid (HR1.out w7 G7.out ca1 cc1 (J6.out.below b7))
      clear j7 b7 HL2 J6 HR1 G6
      go_wp2_with fail
      refine HR7.out.mono ?_
      rintro _ w8 ⟨rfl, b8⟩
      have G8 := Lib.hid (below_step G7.out b8)
      have HR8 := Lib.hid (HR2.out w8 G8.out ca2 cc2 (J7.out.below b8))
      clear b8 HR7 J7 HR2 G7
      go_wp2_with fail
      refine HR8.out.mono ?_
      rintro _ w9 ⟨rfl, b9⟩
      have B9 := Lib.hid (below_step B5.out (below_step G8.out b9))
      clear b9
      go_wp2_with fail
      go_ret
      exact ⟨rfl, B9.out⟩
end Go.Proofs.Ytkabjecdbkbpaaa
