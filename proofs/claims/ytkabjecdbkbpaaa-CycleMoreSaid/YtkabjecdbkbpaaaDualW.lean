/-
  CycleDual.
-/
import Derived.Test.YtkabjecdbkbpaaaHd
namespace Go.Proofs.Ytkabjecdbkbpaaa
open Go.RowKit Go.Shelf Cy

/-- What Levels' lists are worth: Ok, or a cycle. -/
theorem dual_facts {n : Nat} {p : Int} {L : List Arc} (hv : valid (n : Int) L = true) (hp : isPer p = true) (hn : n ≤ 7) (hL : L.length ≤ 40) :
    verB (n : Int) p L (lvS (n : Int) p L) = lvB (n : Int) p L ∧ refB (n : Int) p L (natsI (lvC (n : Int) p L)) = !(lvB (n : Int) p L) ∧ (lvB (n : Int) p L = true ∨ ∀ m, verB (n : Int) p L m = false) := by
  have hG := valid_good hv hp
  cases h : starts p L n with
  | some s =>
    obtain ⟨e1, e2, e3⟩ := lv_some hv hp h
    obtain ⟨s1, s2, s3, s4⟩ := starts_is hG h
    rw [e1, e2, e3]
    exact ⟨ver_of hv hp s1 s2 ((starts_bd hG h hn hL).mono (by omega)), ref_nil _ _ _, .inl rfl⟩
  | none =>
    obtain ⟨e1, e2, e3⟩ := lv_nil hv hp h
    rw [e1, e2, e3]
    exact ⟨not_ver hv hp h _, ref_of hv hp h, .inr (not_ver hv hp h)⟩
set_option maxRecDepth 100000 in
set_option maxHeartbeats 4000000 in
theorem dual_any (n : Int) (xa : Option Addr) (xc : Nat) (X : List (List Int)) (pe : Int) (la : Option Addr) (lc : Nat) (M : List Int) (W : World) (n0 : -9223372036854775808 ≤ n) (n1 : n ≤ 9223372036854775807) (wX : ArrsA 4 W xa xc X)
    (p0 : -9223372036854775808 ≤ pe) (p1 : pe ≤ 9223372036854775807) (wM : IntsA W la lc M) (xM : ∀ b ∈ M, Fits b) :
    Calls Try.prog 5 #[.int .i64 n, .slice xa X.length xc, .int .i64 pe, .slice la M.length lc] W fun e w' => e = .returned (.bool true) ∧ Below W.heap.size W w' := by
  have HSa := Lib.hid (sane_any W)
  have HP0 := Lib.hid (pick_is n 7 ⟨n0, n1⟩ (by omega))
  have HP1 := Lib.hid (pick_is pe 80 ⟨p0, p1⟩ (by omega))
  have HP2 := Lib.hid (pick_is pe 3 ⟨p0, p1⟩ (by omega))
  have q0 := pickZ_bd (c := n) (n := 7) (by omega)
  have q1 := pickZ_bd (c := pe) (n := 80) (by omega)
  obtain ⟨pl, hpl⟩ : ∃ b, decide (0 < pickZ pe 3) = b := ⟨_, rfl⟩
  obtain ⟨N, hN⟩ := Int.eq_ofNat_of_zero_le (show 0 ≤ 1 + pickZ n 7 by omega)
  have hN7 : N ≤ 7 := by omega
  have hN1 : 1 ≤ N := by omega
  have HAr := Lib.hid (fun (w : World) (b : Bool) (h : Below W.heap.size W w) => arcsA_any X (N : Int) (by omega) b xa xc w (wX.below h))
  have hv := arcsL_valid (X := X) (plain := pl) (n := (N : Int)) (by omega)
  have hal := arcsL_len X (N : Int) pl
  obtain ⟨p, hp⟩ : ∃ z, pickZ pe 80 - 10 = z := ⟨_, rfl⟩
  have HDf := Lib.hid (dual_facts hv (per_of (p := p) (by omega)) hN7 (by omega))
  have d0 : IntKind.i64.wrap (1 + pickZ n 7) = 1 + pickZ n 7 := IntWalk.i64_in _ (by omega)
  have d1 : IntKind.i64.wrap (pickZ pe 80 - 10) = pickZ pe 80 - 10 := IntWalk.i64_in _ (by omega)
  rw [hN] at d0
  rw [hp] at d1
  have hp0 : -10 ≤ p ∧ p ≤ 69 := by omega
  have HM := Lib.hid wM; have XM := Lib.hid xM
  have hml := wM.len
  unfold maxLen at hml
  clear wX hv wM xM
  go_enter Try.func5, Try.ntmps5
  go_wp2_with fail
  refine HSa.out.mono ?_
  rintro _ w1 ⟨rfl, b1⟩
  have B1 := Lib.hid b1
  clear b1 HSa
  go_wp2_with fail
  refine (HP0.out w1).mono ?_
  rintro _ w1 ⟨rfl, rfl⟩
  go_wp2_with fail
  refine (HP1.out w1).mono ?_
  rintro _ w1 ⟨rfl, rfl⟩
  clear HP0 HP1
  go_wp2_with fail
  refine (HP2.out w1).mono ?_
  rintro _ w1 ⟨rfl, rfl⟩
  go_wp2_with fail
  refine (HAr.out w1 pl B1.out).mono ?_
  rintro _ w2 ⟨aa, ac, rfl, h2, h3, b2⟩
  have A2 := Lib.hid h2; have S2 := Lib.hid (fun x hx => (h3 x hx).2); have B2 := Lib.hid (below_step B1.out b2)
  clear h2 h3 b2
  clear B1 HAr HP2 q0 q1 d0 d1 hpl
  generalize arcsL X (N : Int) pl = A at *
  have HL := Lib.hid (lvB_any (N : Int) p (by unfold Fits; omega) A aa ac w2 A2.out S2.out)
  obtain ⟨D1, D2, D3⟩ := HDf.out
  have D1 := Lib.hid D1; have D2 := Lib.hid D2; have D3 := Lib.hid D3
  clear HDf
  go_wp2_with fail
  refine HL.out.mono ?_
  rintro _ w3 ⟨sa, sc, ca, cc, rfl, i3, j3, b3⟩
  have B3 := Lib.hid (below_step B2.out b3); have A3 := Lib.hid (A2.out.below b3); have S3 := Lib.hid (fun x hx => Nat.lt_of_lt_of_le (S2.out x hx) b3.size)
  have I3 := Lib.hid i3; have J3 := Lib.hid j3
  clear b3 i3 j3 B2 A2 S2 HL
  have HV := Lib.hid (Verify_any (N : Int) p (by unfold Fits; omega) A aa ac _ sa sc w3 A3.out I3.out S3.out)
  rw [D1.out] at HV
  have HR := Lib.hid (fun (w' : World) (h : Below w3.heap.size w3 w') => Refutes_any (N : Int) p (by unfold Fits; omega) (by unfold Fits; omega) A aa ac _ ca cc w' (A3.out.below h) (J3.out.below h))
  rw [D2.out] at HR
  have HVm := Lib.hid (fun (m : List Int) (ma : Option Addr) (mc : Nat) (w' : World) (h : Below w3.heap.size w3 w') (hm : IntsA w' ma mc m) => Verify_any (N : Int) p (by unfold Fits; omega) A aa ac m ma mc w' (A3.out.below h) hm (fun x hx => Nat.lt_of_lt_of_le (S3.out x hx) h.size))
  clear D1 D2 I3 J3 A3 S3
  generalize lvS (N : Int) p A = S at *
  generalize natsI (lvC (N : Int) p A) = C at *
  generalize lvB (N : Int) p A = Ok at *
  obtain ⟨i0, hi, hz0, hz1, hz2⟩ := info_parts info_int
  cases Ok
  all_goals
    go_wp2_with fail
    refine HV.out.mono ?_
    rintro _ w4 ⟨rfl, b4⟩
    have G4 := Lib.hid b4
    clear b4 HV
    go_wp2_with fail
    refine (HR.out w4 G4.out).mono ?_
    rintro _ w5 ⟨rfl, b5⟩
    have G5 := Lib.hid (below_step G4.out b5)
    clear b5 HR G4
    go_wp2_with fail
    go_loopw [15, 16] (fun vv i wr => ∃ (k : Nat) (v : Value) (mm : List Int), k ≤ N ∧ mm.length = k ∧ i = .int .i64 (k : Int) ∧ v = vv ∧ Hid (wr.ownsRow w5.heap.size 3 1 v k (mm.flatMap intCells)) ∧ Hid (Below w5.heap.size w5 wr)) (fun _ i _ => N - (intOf i).toNat)
    case atStart => exact ⟨0, _, [], by omega, rfl, rfl, rfl, Lib.hid (World.ownsRow_nil _ _ _ _), Lib.hid (Below.refl _ _)⟩
    case round =>
      obtain ⟨k, v, mm, hk, hmm, rfl, rfl, HV5, HB5⟩ := hrel
      by_cases hlt : k < N
      · have k0 : (0 : Int) ≤ (k : Int) := by omega
        have k1 : (k : Int) < (N : Int) := by omega
        have hs := HB5.out.size
        by_cases hlm : k < M.length
        · obtain ⟨b, off, rfl, hb, hc⟩ := (HM.out.below (below_step B3.out (below_step G5.out HB5.out))).at (by omega)
          have x0 := int_cell (hc k hlm)
          rw [Nat.mul_one] at x0
          have HPk := Lib.hid (pick_is M[k] 200 (XM.out _ (List.getElem_mem hlm)) (by omega))
          have k2 : (k : Int) < (M.length : Int) := by omega
          clear hc
          generalize M[k] = y at *
          go_wp2_with fail
          refine (HPk.out wr).mono ?_
          rintro _ wr ⟨rfl, rfl⟩
          generalize pickZ y 200 = z at *
          clear HPk x0
          go_upto_region 15 with (fail)
          go_wp2_with (at_builtin; refine wpList_append_own _ rfl _ _ 24 rfl w5.heap.size 3 i0 (.int .i64 0) 1 8 Try.underlying24 hi hz0 hz1 hz2 rfl (by decide) _ _ _ rfl (HV5.out.alloc _) ⟨wr.heap.size, 0, none⟩ 1 1 [.int .i64 z] rfl rfl (cell_one_new _ _ _) (by simp [Value.oneCell']) (by unfold maxLen; omega) (by omega) (by simp; omega) ?_; intro v' w6 hown' hgrow _)
          have O6 := Lib.hid (show w6.ownsRow w5.heap.size 3 1 v' (k + 1) ((mm ++ [z]).flatMap intCells) by rw [List.flatMap_append]; exact hown')
          have G6 := Lib.hid (HB5.out.trans (((Below.refl w5.heap.size wr).alloc hs (.cells #[.int .i64 z] 3)).grown hgrow (by simp; omega) (fun kk e => (HV5.out.lt kk e).1)))
          clear hown' hgrow
          go_wp2_with fail
          go_roundw
          case rel => exact ⟨k + 1, _, mm ++ [z], hlt, by simp [hmm], by go_num, rfl, O6, G6⟩
          case measure => simp [intOf]; omega
        · have k2 : ¬ (k : Int) < (M.length : Int) := by omega
          go_wp2_with (at_builtin; refine wpList_append_own _ rfl _ _ 24 rfl w5.heap.size 3 i0 (.int .i64 0) 1 8 Try.underlying24 hi hz0 hz1 hz2 rfl (by decide) _ _ _ rfl (HV5.out.alloc _) ⟨wr.heap.size, 0, none⟩ 1 1 [.int .i64 0] rfl rfl (cell_one_new _ _ _) (by simp [Value.oneCell']) (by unfold maxLen; omega) (by omega) (by simp; omega) ?_; intro v' w6 hown' hgrow _)
          have O6 := Lib.hid (show w6.ownsRow w5.heap.size 3 1 v' (k + 1) ((mm ++ [0]).flatMap intCells) by rw [List.flatMap_append]; exact hown')
          have G6 := Lib.hid (HB5.out.trans (((Below.refl w5.heap.size wr).alloc hs (.cells #[.int .i64 0] 3)).grown hgrow (by simp; omega) (fun kk e => (HV5.out.lt kk e).1)))
          clear hown' hgrow
          go_wp2_with fail
          go_roundw
          case rel => exact ⟨k + 1, _, mm ++ [0], hlt, by simp [hmm], by go_num, rfl, O6, G6⟩
          case measure => simp [intOf]; omega
      · have k1 : ¬ (k : Int) < (N : Int) := by omega
        have B5 := Lib.hid (below_step B3.out (below_step G5.out HB5.out))
        have BV := Lib.hid (below_step G5.out HB5.out)
        obtain ⟨ma, mc, rfl, hm, -⟩ := RowO.arg int_len (show IntsO wr w5.heap.size v mm by unfold IntsO RowO; rw [hmm]; exact HV5.out)
        have HMm := Lib.hid hm
        have HVe := Lib.hid (HVm.out mm ma mc wr BV.out hm)
        clear hm HV5 HB5 HVm BV hmm
        first
          | (go_wp2_with fail
             go_ret
             exact ⟨rfl, B5.out⟩)
          | (have hno : ∀ m, verB (N : Int) p A m = false := by rcases D3.out with h | h; cases h; exact h
             rw [hno mm] at HVe
             go_wp2_with fail
             refine HVe.out.mono ?_
             rintro _ w7 ⟨rfl, b7⟩
             have B7 := Lib.hid (below_step B5.out b7)
             clear b7
             go_wp2_with fail
             go_ret
             exact ⟨rfl, B7.out⟩)
end Go.Proofs.Ytkabjecdbkbpaaa
