/-
  CycleMore.
-/
import Derived.Test.YtkabjecdbkbpaaaMoP
namespace Go.Proofs.Ytkabjecdbkbpaaa
open Go.RowKit Go.Shelf Cy

set_option maxRecDepth 100000 in
set_option maxHeartbeats 4000000 in
theorem more_any (n : Int) (xa : Option Addr) (xc : Nat) (X : List (List Int)) (ya : Option Addr) (yc : Nat) (Y : List (List Int)) (pe : Int) (W : World) (n0 : -9223372036854775808 ≤ n) (n1 : n ≤ 9223372036854775807) (wX : ArrsA 4 W xa xc X) (wY : ArrsA 4 W ya yc Y)
    (p0 : -9223372036854775808 ≤ pe) (p1 : pe ≤ 9223372036854775807) :
    Calls Try.prog 7 #[.int .i64 n, .slice xa X.length xc, .slice ya Y.length yc, .int .i64 pe] W fun e w' => e = .returned (.bool true) ∧ Below W.heap.size W w' := by
  have HSa := Lib.hid (sane_any W)
  have HP0 := Lib.hid (pick_is n 7 ⟨n0, n1⟩ (by omega))
  have HP1 := Lib.hid (pick_is pe 80 ⟨p0, p1⟩ (by omega))
  have HP2 := Lib.hid (pick_is pe 3 ⟨p0, p1⟩ (by omega))
  have q0 := pickZ_bd (c := n) (n := 7) (by omega)
  have q1 := pickZ_bd (c := pe) (n := 80) (by omega)
  obtain ⟨pl, hpl⟩ : ∃ b, decide (0 < pickZ pe 3) = b := ⟨_, rfl⟩
  obtain ⟨N, hN⟩ := Int.eq_ofNat_of_zero_le (show 0 ≤ 1 + pickZ n 7 by omega)
  have hN7 : N ≤ 7 := by omega
  have hN1 : 1 ≤ N := by omega
  have HAr := Lib.hid (fun (w : World) (b : Bool) (h : Below W.heap.size W w) => arcs_any X (N : Int) (by omega) b xa xc w (wX.below h))
  have HAy := Lib.hid (fun (w : World) (b : Bool) (h : Below W.heap.size W w) => arcs_any Y (N : Int) (by omega) b ya yc w (wY.below h))
  have HVa := Lib.hid (arcsL_valid (X := X) (plain := pl) (n := (N : Int)) (by omega))
  have HVy := Lib.hid (arcsL_valid (X := Y) (plain := pl) (n := (N : Int)) (by omega))
  have hal := arcsL_len X (N : Int) pl
  have hyl := arcsL_len Y (N : Int) pl
  obtain ⟨p, hp⟩ : ∃ z, pickZ pe 80 - 10 = z := ⟨_, rfl⟩
  have HPp := Lib.hid (per_of (p := p) (by omega))
  have d0 : IntKind.i64.wrap (1 + pickZ n 7) = 1 + pickZ n 7 := IntWalk.i64_in _ (by omega)
  have d1 : IntKind.i64.wrap (pickZ pe 80 - 10) = pickZ pe 80 - 10 := IntWalk.i64_in _ (by omega)
  rw [hN] at d0
  rw [hp] at d1
  clear wX wY
  unfold ArcsPost at HAr HAy
  go_enter Try.func7, Try.ntmps7
  go_wp2_with fail
  refine HSa.out.mono ?_
  rintro _ w1 ⟨rfl, b1⟩
  have B1 := Lib.hid b1
  clear b1 HSa
  go_wp2_with fail
  refine (HP0.out w1).mono ?_
  rintro _ w1 ⟨rfl, rfl⟩
  go_wp2_with fail
  refine (HP1.out w1).mono ?_
  rintro _ w1 ⟨rfl, rfl⟩
  clear HP0 HP1
  go_wp2_with fail
  refine (HP2.out w1).mono ?_
  rintro _ w1 ⟨rfl, rfl⟩
  go_wp2_with fail
  refine (HAr.out w1 pl B1.out).mono ?_
  rintro _ w2 ⟨va, rfl, oa, b2⟩
  obtain ⟨aa, ac, rfl, h2, h3⟩ := ArcO.arg oa
  have O2 := Lib.hid oa
  have A2 := Lib.hid h2
  have S2 := Lib.hid (fun x hx => (h3 x hx).2); have B2 := Lib.hid (below_step B1.out b2)
  clear h2 h3 b2 oa HAr
  have B3 := Lib.hid (below_step B2.out (below_new w2 (.cells #[] 44)))
  go_wp2_with fail
  refine (HP2.out _).mono ?_
  rintro _ w3 ⟨rfl, hw3⟩
  subst hw3
  go_wp2_with fail
  refine (HAy.out _ pl B3.out).mono ?_
  rintro _ w3 ⟨vy, rfl, oy, b3⟩
  have OY := Lib.hid oy; have G3 := Lib.hid (below_step (below_new w2 (.cells #[] 44)) b3)
  have OE := Lib.hid (show ArcO w3 w2.heap.size (.slice (some ⟨w2.heap.size, 0, none⟩) 0 0) [] from RowO.below (World.ownsRow_lit (base := w2.heap.size) (size := 4) (e := 44) w2 #[] 0 (Nat.le_refl _) (by decide) rfl) b3)
  clear oy b3 HAy HP2 B1 B3 q0 q1 d0 d1 hpl hp hN n0 n1 p0 p1
  generalize arcsL X (N : Int) pl = A at *
  generalize arcsL Y (N : Int) pl = YA at *
  have h23 := G3.out.size
  go_wp2_with (at_builtin; refine wpList_append_arcs rfl _ _ rfl w2.heap.size _ [] rfl OE.out _ _ YA rfl OY.out (by simp) (by omega) (by omega) ?_)
  intro v4 w4 o4 g4
  have G4 := Lib.hid (show Below w2.heap.size w2 w4 from G3.out.trans (((Below.refl w2.heap.size w3)).grown g4 h23 (fun kk e => (OE.out.lt kk e).1)))
  have O4 := Lib.hid (show ArcO w4 w2.heap.size v4 YA from o4)
  have O24 := Lib.hid (O2.out.below G4.out)
  have h24 := G4.out.size
  clear o4 g4 G3 OY OE h23
  go_wp2_with (at_builtin; refine wpList_append_arcs rfl _ _ rfl w2.heap.size _ YA rfl O4.out _ _ A rfl O24.out (by omega) (by omega) (by omega) ?_)
  intro v5 w5 o5 g5
  have G5 := Lib.hid (show Below w2.heap.size w2 w5 from G4.out.trans (((Below.refl w2.heap.size w4)).grown g5 h24 (fun kk e => (O4.out.lt kk e).1)))
  have O5 := Lib.hid o5
  clear o5 g5 G4 O4 O24 h24
  have O25 := Lib.hid (O2.out.below G5.out)
  have BA := Lib.hid (append_valid HVy.out HVa.out (by omega))
  have BR := Lib.hid (reverse_valid HVa.out)
  have hbl : (YA ++ A).length ≤ 40 := by simp; omega
  have HFa := Lib.hid (more_facts HVa.out BA.out HPp.out (fun a ha => List.mem_append_right _ ha) hN1)
  have hz5 := G5.out.size
  clear O2
  generalize YA ++ A = BB at *
  have dl : IntKind.i64.wrap ((A.length : Int) - 1) = (A.length : Int) - 1 := IntWalk.i64_in _ (by omega)
  obtain ⟨i0, hi, hz0, hz1, hz2⟩ := info_parts info_arc
  go_wp2_with fail
  go_loopw [13, 14] (fun vv i wr => ∃ (m k : Nat) (v : Value), m + k = A.length ∧ i = .int .i64 ((m : Int) - 1) ∧ v = vv ∧ Hid (ArcO wr w5.heap.size v (A.reverse.take k)) ∧ Hid (Below w5.heap.size w5 wr)) (fun _ i _ => (intOf i + 1).toNat)
  case atStart => exact ⟨A.length, 0, _, by omega, rfl, rfl, Lib.hid (RowO.nil _ _ _ _ _), Lib.hid (Below.refl _ _)⟩
  case round =>
    obtain ⟨m, k, v, hmk, rfl, rfl, HV, HB⟩ := hrel
    cases m with
    | succ m =>
      have em : ((m + 1 : Nat) : Int) - 1 = (m : Int) := by omega
      rw [em]
      have O2r := O25.out.below HB.out
      obtain ⟨a2, c2, e2, h2, h3⟩ := ArcO.arg O2r
      injection e2 with e2 e3 e4
      subst e2
      subst e4
      have hm : m < A.length := by omega
      obtain ⟨b, off, rfl, hb, hc⟩ := h2.at (by omega)
      obtain ⟨x0, x1, x2, x3⟩ := arc_cells (hc m hm)
      have HS := Lib.hid (rev_take hmk)
      have k0 : (0 : Int) ≤ (m : Int) := by omega
      have k1 : (m : Int) < (A.length : Int) := by omega
      have hln : (A.reverse.take k).length = k := by simp; omega
      have dm : IntKind.i64.wrap ((m : Int) - 1) = (m : Int) - 1 := IntWalk.i64_in _ (by omega)
      have hbs := HB.out.size
      have HVo := Lib.hid (show wr.ownsRow w5.heap.size 44 4 v k ((A.reverse.take k).flatMap arcCells) from by
        have : wr.ownsRow w5.heap.size 44 4 v (A.reverse.take k).length ((A.reverse.take k).flatMap arcCells) := HV.out
        rw [hln] at this; exact this)
      clear hc O2r h2 h3 HV e3
      generalize A[m] = x at *
      obtain ⟨f, t, g, q⟩ := x
      simp only at x0 x1 x2 x3
      have HOwn := Lib.hid (HVo.out.alloc (arcObj ⟨f, t, g, q⟩))
      have HNW := Lib.hid (World.news_of_block (w := wr.alloc (arcObj ⟨f, t, g, q⟩)) (B := wr.heap.size) (cs := #[.int .i64 f, .int .i64 t, .int .i64 g, .int .i64 q]) (t := 44) (fr := (0, 0)) (heap_alloc_new wr _))
      go_wp2_with (at_builtin; refine wpList_append_own _ rfl _ _ 23 rfl w5.heap.size 44 i0 _ 4 32 Try.underlying23 hi hz0 hz1 hz2 rfl (by decide) _ _ _ rfl HOwn.out ⟨wr.heap.size, 0, none⟩ 1 1 [.int .i64 f, .int .i64 t, .int .i64 g, .int .i64 q] rfl rfl HNW.out ?c2 ?c3 ?c4 ?c5 ?_)
      case c2 => simp [Value.oneCell']
      case c3 => unfold maxLen; omega
      case c4 => omega
      case c5 => omega
      intro v' w3 hown' hgrow _
      have O3 := Lib.hid (show ArcO w3 w5.heap.size v' (A.reverse.take (k + 1)) by
        rw [HS.out]
        refine RowO.snoc ?_
        rw [hln]; exact hown')
      have G3 := Lib.hid (HB.out.trans ((((Below.refl w5.heap.size wr).alloc hbs (arcObj ⟨f, t, g, q⟩)).grown hgrow (by simp; omega) (fun kk e => (HVo.out.lt kk e).1))))
      clear hown' hgrow
      go_wp2_with fail
      go_roundw
      case rel => exact ⟨m, k + 1, _, by omega, rfl, rfl, O3, G3⟩
      case measure => simp [intOf]
    | zero =>
      obtain rfl : k = A.length := by omega
      have k1 : ¬ (0 : Int) ≤ ((0 : Nat) : Int) - 1 := by omega
      have HR := HV.out
      rw [List.take_of_length_le (by simp)] at HR
      obtain ⟨ra, rc, rfl, r1, r2⟩ := ArcO.arg HR
      obtain ⟨ba, bc, rfl, u1, u2⟩ := ArcO.arg O5.out
      have Q1 := Lib.hid r1; have Q2 := Lib.hid (fun x hx => (r2 x hx).2)
      have U1 := Lib.hid (u1.below HB.out); have U2 := Lib.hid (fun x hx => Nat.lt_of_lt_of_le (u2 x hx).2 HB.out.size)
      have T1 := Lib.hid (A2.out.below (below_step G5.out HB.out)); have T2 := Lib.hid (fun x hx => Nat.lt_of_lt_of_le (S2.out x hx) (below_step G5.out HB.out).size)
      have B6 := Lib.hid (below_step B2.out (below_step G5.out HB.out))
      have hrl : A.reverse.length = A.length := List.length_reverse
      have HRl := Lib.hid hrl
      clear r1 r2 u1 u2 HV HR A2 S2 O25 O5 B2 G5 HB hz5 hi hz0 hz1 hz2 dl hmk hrl
      rename World => w6
      rcases HFa.out with ⟨s1, s2, s3⟩ | ⟨s, s1, s3, s2⟩
      · have HL1 := Lib.hid (lvN_any hN7 HVa.out HPp.out s1 T1.out T2.out)
        have HL2 := Lib.hid (fun (w' : World) (h : Below w6.heap.size w6 w') => lvN_any hN7 BA.out HPp.out s2 (U1.out.below h) (fun x hx => Nat.lt_of_lt_of_le (U2.out x hx) h.size))
        have HL3 := Lib.hid (fun (w' : World) (h : Below w6.heap.size w6 w') => lvN_any hN7 BR.out HPp.out s3 (Q1.out.below h) (fun x hx => Nat.lt_of_lt_of_le (Q2.out x hx) h.size))
        simp only [List.length_reverse] at HL3
        clear s1 s2 s3 T1 T2 U1 U2 Q1 Q2 HFa
        go_wp2_with fail
        refine HL1.out.mono ?_
        rintro _ w7 ⟨sa1, sc1, ca1, cl1, cc1, rfl, j1, b7⟩
        have J1 := Lib.hid j1; have G7 := Lib.hid b7
        clear j1 b7 HL1
        go_wp2_with fail
        refine (HL2.out w7 G7.out).mono ?_
        rintro _ w8 ⟨sa2, sc2, ca2, cl2, cc2, rfl, -, b8⟩
        have J1 := Lib.hid (J1.out.below b8); have G8 := Lib.hid (below_step G7.out b8)
        clear b8 HL2 G7
        go_wp2_with fail
        refine (HL3.out w8 G8.out).mono ?_
        rintro _ w9 ⟨sa3, sc3, ca3, cl3, cc3, rfl, j3, b9⟩
        have HQ := Lib.hid (same_nil sa1 sa3 sc1 sc3 w9 (J1.out.below b9) j3); have B9 := Lib.hid (below_step B6.out (below_step G8.out b9))
        clear b9 HL3 G8 J1 j3
        go_wp2_with fail
        refine HQ.out.mono ?_
        rintro _ w10 ⟨rfl, b10⟩
        have B10 := Lib.hid (below_step B9.out b10)
        clear b10
        go_wp2_with fail
        go_ret
        exact ⟨rfl, B10.out⟩
      · have HL1 := Lib.hid (lvI_any hN7 HVa.out HPp.out s1 T1.out T2.out)
        have HL3 := Lib.hid (fun (w' : World) (h : Below w6.heap.size w6 w') => lvI_any hN7 BR.out HPp.out s3 (Q1.out.below h) (fun x hx => Nat.lt_of_lt_of_le (Q2.out x hx) h.size))
        have HSl := Lib.hid (starts_is (valid_good HVa.out HPp.out) s1).1
        simp only [List.length_reverse] at HL3
        rcases s2 with s2 | ⟨t, s2, hst⟩
        · have HL2 := Lib.hid (fun (w' : World) (h : Below w6.heap.size w6 w') => lvN_any hN7 BA.out HPp.out s2 (U1.out.below h) (fun x hx => Nat.lt_of_lt_of_le (U2.out x hx) h.size))
          clear s1 s2 s3 T1 T2 U1 U2 Q1 Q2 HFa
          go_wp2_with fail
          refine HL1.out.mono ?_
          rintro _ w7 ⟨sa1, sc1, ca1, cc1, rfl, j1, b7⟩
          have J1 := Lib.hid j1; have G7 := Lib.hid b7
          clear j1 b7 HL1
          go_wp2_with fail
          refine (HL2.out w7 G7.out).mono ?_
          rintro _ w8 ⟨sa2, sc2, ca2, cl2, cc2, rfl, -, b8⟩
          have J1 := Lib.hid (J1.out.below b8); have G8 := Lib.hid (below_step G7.out b8)
          clear b8 HL2 G7
          go_wp2_with fail
          refine (HL3.out w8 G8.out).mono ?_
          rintro _ w9 ⟨sa3, sc3, ca3, cc3, rfl, j3, b9⟩
          have HQ := Lib.hid (same_self HSl.out sa1 sa3 sc1 sc3 w9 (J1.out.below b9) j3); have B9 := Lib.hid (below_step B6.out (below_step G8.out b9))
          clear b9 HL3 G8 J1 j3
          go_wp2_with fail
          refine HQ.out.mono ?_
          rintro _ w10 ⟨rfl, b10⟩
          have B10 := Lib.hid (below_step B9.out b10)
          clear b10
          go_wp2_with fail
          go_ret
          exact ⟨rfl, B10.out⟩
        · have HL2 := Lib.hid (fun (w' : World) (h : Below w6.heap.size w6 w') => lvI_any hN7 BA.out HPp.out s2 (U1.out.below h) (fun x hx => Nat.lt_of_lt_of_le (U2.out x hx) h.size))
          have HTl := Lib.hid (starts_is (valid_good BA.out HPp.out) s2).1
          have HSt := Lib.hid hst
          clear s1 s2 s3 T1 T2 U1 U2 Q1 Q2 HFa hst
          go_wp2_with fail
          refine HL1.out.mono ?_
          rintro _ w7 ⟨sa1, sc1, ca1, cc1, rfl, j1, b7⟩
          have J1 := Lib.hid j1; have G7 := Lib.hid b7
          clear j1 b7 HL1
          go_wp2_with fail
          refine (HL2.out w7 G7.out).mono ?_
          rintro _ w8 ⟨sa2, sc2, ca2, cc2, rfl, j2, b8⟩
          have J2 := Lib.hid j2
          have J1 := Lib.hid (J1.out.below b8); have G8 := Lib.hid (below_step G7.out b8)
          clear b8 HL2 G7 j2
          go_wp2_with fail
          refine (HL3.out w8 G8.out).mono ?_
          rintro _ w9 ⟨sa3, sc3, ca3, cc3, rfl, j3, b9⟩
          have J1 := Lib.hid (J1.out.below b9); have J2 := Lib.hid (J2.out.below b9)
          have HQ := Lib.hid (same_self HSl.out sa1 sa3 sc1 sc3 w9 J1.out j3); have B9 := Lib.hid (below_step B6.out (below_step G8.out b9))
          clear b9 HL3 G8 j3
          go_wp2_with fail
          refine HQ.out.mono ?_
          rintro _ w10 ⟨rfl, b10⟩
          have B10 := Lib.hid (below_step B9.out b10)
          have J1 := Lib.hid (J1.out.below b10); have J2 := Lib.hid (J2.out.below b10)
          clear b10 HQ B9
          go_wp2_with fail
          have HK := Lib.hid (Below.refl w10.heap.size w10)
          go_loopw [24] (fun i wr => ∃ k : Nat, k ≤ N ∧ i = .int .i64 (k : Int) ∧ Hid (Below w10.heap.size w10 wr)) (fun i _ => N - (intOf i).toNat)
          case atStart => exact ⟨0, Nat.zero_le _, rfl, HK⟩
          case round =>
            clear HK
            obtain ⟨k, hk, rfl, HBk⟩ := hrel
            by_cases hlt : k < N
            · have k0 : (0 : Int) ≤ (k : Int) := by omega
              have k1 : (k : Int) < (N : Int) := by omega
              have hs1 : k < s.length := by rw [HSl.out]; exact hlt
              have ht1 : k < t.length := by rw [HTl.out]; exact hlt
              obtain ⟨b, off, rfl, hb, hc⟩ := (J1.out.below HBk.out).at (by omega)
              obtain ⟨b2, off2, rfl, hb2, hc2⟩ := (J2.out.below HBk.out).at (by omega)
              have x0 := int_cell (hc k hs1)
              have y0 := int_cell (hc2 k ht1)
              rw [Nat.mul_one] at x0 y0
              have hle := HSt.out k hlt
              rw [List.getD_eq_getElem?_getD, List.getD_eq_getElem?_getD, List.getElem?_eq_getElem hs1, List.getElem?_eq_getElem ht1, Option.getD_some, Option.getD_some] at hle
              have hle2 : ¬ t[k] < s[k] := by omega
              clear hc hc2 hle
              generalize s[k] = sk at *
              generalize t[k] = tk at *
              go_upto_region 23 with (fail)
              go_quiet (fail)
              go_wp2_with fail
              go_roundw
              case rel => exact ⟨k + 1, hlt, by go_num, Lib.hid (below_drewN HBk.out _)⟩
              case measure => simp [intOf]; omega
            · have k1 : ¬ (k : Int) < (N : Int) := by omega
              have B11 := Lib.hid (below_step B10.out HBk.out)
              go_wp2_with fail
              go_ret
              exact ⟨rfl, B11.out⟩
end Go.Proofs.Ytkabjecdbkbpaaa
