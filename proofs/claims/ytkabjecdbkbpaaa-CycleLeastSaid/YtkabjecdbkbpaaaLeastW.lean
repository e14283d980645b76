/-
  CycleLeast.
-/
import Derived.Test.YtkabjecdbkbpaaaLeP
import Derived.Test.YtkabjecdbkbpaaaOptW
import Derived.ArgAppend
import Derived.StillTailTactics
namespace Go.Proofs.Ytkabjecdbkbpaaa
open Go.RowKit Go.Shelf Cy

set_option maxRecDepth 100000 in
set_option maxHeartbeats 4000000 in
theorem least_any (n : Int) (xa : Option Addr) (xc : Nat) (X : List (List Int)) (pe : Int) (la : Option Addr) (lc : Nat) (M : List Int) (sf : Int) (W : World) (n0 : -9223372036854775808 ≤ n) (n1 : n ≤ 9223372036854775807) (wX : ArrsA 4 W xa xc X)
    (p0 : -9223372036854775808 ≤ pe) (p1 : pe ≤ 9223372036854775807) (wM : IntsA W la lc M) (xM : ∀ b ∈ M, Fits b) (f0 : -9223372036854775808 ≤ sf) (f1 : sf ≤ 9223372036854775807) :
    Calls Try.prog 6 #[.int .i64 n, .slice xa X.length xc, .int .i64 pe, .slice la M.length lc, .int .i64 sf] W fun e w' => e = .returned (.bool true) ∧ Below W.heap.size W w' := by
  have HSa := Lib.hid (sane_any W)
  have HP0 := Lib.hid (pick_is n 7 ⟨n0, n1⟩ (by omega))
  have HP1 := Lib.hid (pick_is pe 80 ⟨p0, p1⟩ (by omega))
  have HP2 := Lib.hid (pick_is pe 3 ⟨p0, p1⟩ (by omega))
  have HPs := Lib.hid (pick_is sf 1000 ⟨f0, f1⟩ (by omega))
  have q0 := pickZ_bd (c := n) (n := 7) (by omega)
  have q1 := pickZ_bd (c := pe) (n := 80) (by omega)
  have qs := pickZ_bd (c := sf) (n := 1000) (by omega)
  obtain ⟨pl, hpl⟩ : ∃ b, decide (0 < pickZ pe 3) = b := ⟨_, rfl⟩
  obtain ⟨N, hN⟩ := Int.eq_ofNat_of_zero_le (show 0 ≤ 1 + pickZ n 7 by omega)
  have hN7 : N ≤ 7 := by omega
  have hN1 : 1 ≤ N := by omega
  have HAr := Lib.hid (fun (w : World) (b : Bool) (h : Below W.heap.size W w) => arcsA_any X (N : Int) (by omega) b xa xc w (wX.below h))
  have HVa := Lib.hid (arcsL_valid (X := X) (plain := pl) (n := (N : Int)) (by omega))
  have hal := arcsL_len X (N : Int) pl
  obtain ⟨p, hp⟩ : ∃ z, pickZ pe 80 - 10 = z := ⟨_, rfl⟩
  have HPp := Lib.hid (per_of (p := p) (by omega))
  have d0 : IntKind.i64.wrap (1 + pickZ n 7) = 1 + pickZ n 7 := IntWalk.i64_in _ (by omega)
  have d1 : IntKind.i64.wrap (pickZ pe 80 - 10) = pickZ pe 80 - 10 := IntWalk.i64_in _ (by omega)
  rw [hN] at d0
  rw [hp] at d1
  have HM := Lib.hid wM; have XM := Lib.hid xM
  have hml := wM.len
  unfold maxLen at hml
  clear wX wM xM
  go_enter Try.func6, Try.ntmps6
  go_wp2_with fail
  refine HSa.out.mono ?_
  rintro _ w1 ⟨rfl, b1⟩
  have B1 := Lib.hid b1
  clear b1 HSa
  go_wp2_with fail
  refine (HP0.out w1).mono ?_
  rintro _ w1 ⟨rfl, rfl⟩
  go_wp2_with fail
  refine (HP1.out w1).mono ?_
  rintro _ w1 ⟨rfl, rfl⟩
  clear HP0 HP1
  go_wp2_with fail
  refine (HP2.out w1).mono ?_
  rintro _ w1 ⟨rfl, rfl⟩
  go_wp2_with fail
  refine (HAr.out w1 pl B1.out).mono ?_
  rintro _ w2 ⟨aa, ac, rfl, h2, h3, b2⟩
  have A2 := Lib.hid h2; have S2 := Lib.hid (fun x hx => (h3 x hx).2); have B2 := Lib.hid (below_step B1.out b2)
  clear h2 h3 b2 B1 HAr HP2 q0 q1 d0 d1 hpl hp hN n0 n1 p0 p1
  generalize arcsL X (N : Int) pl = A at *
  cases hst : starts p A N with
  | none =>
    have HL := Lib.hid (lvF_any hN7 HVa.out HPp.out (show feas A N p = false by unfold feas; rw [hst]; rfl) A2.out S2.out)
    go_wp2_with fail
    refine HL.out.mono ?_
    rintro _ w3 ⟨sa, sc, ca, cc, rfl, -, -, b3⟩
    have B3 := Lib.hid (below_step B2.out b3)
    clear b3 HL
    generalize (natsI (lvC (N : Int) p A)).length = cl at *
    generalize (lvS (N : Int) p A).length = sl at *
    go_wp2_with fail
    go_ret
    exact ⟨rfl, B3.out⟩
  | some s =>
    have HL := Lib.hid (lvS_any hN7 hN1 HVa.out HPp.out hst A2.out S2.out)
    have HVm := Lib.hid (fun (m : List Int) (h1 : m.length = N) (h2 : ∀ j, j < N → m.getD j 0 = s.getD j 0 + pickZ sf 1000) => ver_moved HVa.out HPp.out hN7 (by omega) qs hst h1 h2)
    have HVl := Lib.hid (fun (m : List Int) h => ver_low (m := m) HVa.out HPp.out hst h)
    have HSb := Lib.hid (starts_bd (valid_good HVa.out HPp.out) hst hN7 (by omega))
    have hsl := (starts_is (valid_good HVa.out HPp.out) hst).1
    have HSl := Lib.hid hsl
    have hlN : (s.map (Value.int .i64)).length = N * 1 := by simp [hsl]
    clear hst hsl
    go_wp2_with fail
    refine HL.out.mono ?_
    rintro _ w3 ⟨b, off, sc, ca, cc, rfl, hb3, hsc, hsm, hc3, b3⟩
    have B3 := Lib.hid (below_step B2.out b3)
    have A3 := Lib.hid (A2.out.below b3); have S3 := Lib.hid (fun x hx => Nat.lt_of_lt_of_le (S2.out x hx) b3.size)
    have HC := Lib.hid (fun (w' : World) (h : Below w3.heap.size w3 w') (j : Nat) (hj : j < N) => cell_below h (hc3 j hj))
    have HVe := Lib.hid (fun (m : List Int) (ma : Option Addr) (mc : Nat) (w' : World) (h : Below w3.heap.size w3 w') (hm : IntsA w' ma mc m) => Verify_any (N : Int) p (by unfold Fits; omega) A aa ac m ma mc w' (A3.out.below h) hm (fun x hx => Nat.lt_of_lt_of_le (S3.out x hx) h.size))
    clear b3 hc3 HL A2 S2 B2 A3 S3 hb3
    obtain ⟨i0, hi, hz0, hz1, hz2⟩ := info_parts info_int
    go_wp2_with (at_builtin; refine wpList_append_grows _ rfl _ _ 24 rfl 3 i0 (.int .i64 0) 1 8 Try.underlying24 hi hz0 hz1 hz2 rfl (by decide) (some ⟨w3.heap.size, 0, none⟩) 0 0 [] rfl (by intro h; cases h) rfl (by intro b _ j u h; simp at h) ⟨b, off, none⟩ N sc (s.map (Value.int .i64)) rfl hlN ?c0 ?c1 (by omega) (by unfold maxLen; omega) (by omega) ?_)
    case c0 =>
      intro j u hu
      have hj : j < s.length := by have := (List.getElem?_eq_some_iff.1 hu).1; simpa using this
      rw [List.getElem?_map, List.getElem?_eq_getElem hj] at hu
      have hu2 : Value.int .i64 s[j] = u := Option.some.inj hu
      subst hu2
      have := HC.out _ (below_new w3 (.cells #[] 3)) j (by rw [← HSl.out]; exact hj)
      rw [List.getD_eq_getElem?_getD, List.getElem?_eq_getElem hj, Option.getD_some] at this
      cases j <;> simpa [Addr.add] using this
    case c1 => intro u hu; obtain ⟨x, _, rfl⟩ := List.mem_map.1 hu; rfl
    intro v4 w4 hown hgr
    obtain ⟨gm, cm, rfl, hg1, hg2⟩ := hown.form (by omega)
    have hO4 : OwnI w4 (w3.heap.size + 1) gm N cm s := ⟨HSl.out, by rw [flat_ints]; simpa using hown⟩
    have HG4 := Lib.hid (show Below w3.heap.size w3 w4 from below_step (below_new w3 (.cells #[] 3)) ((Below.refl _ _).grown hgr (Nat.le_refl _) (fun k h => by cases h)))
    have hz4 : w3.heap.size + 1 ≤ w4.heap.size := by simpa using hgr.size
    have hmk := make_ints N (by omega)
    clear hown hgr hlN hg1
    go_upto_region 12 with (fail)
    have HO := Lib.hid (show OwnI (w4.alloc (.cells (Array.replicate N (Value.int .i64 0)) 3)) (w3.heap.size + 1) gm N cm s from hO4.below (below_new w4 _))
    have HOv := Lib.hid (show OwnI (w4.alloc (.cells (Array.replicate N (Value.int .i64 0)) 3)) (w3.heap.size + 1) w4.heap.size N N (zeros N) from
      ⟨zeros_len N, by
        have := World.ownsRow_lit (base := w3.heap.size + 1) (size := 1) (e := 3) w4 (Array.replicate N (Value.int .i64 0)) N hz4 (by unfold maxLen; omega) (by simp)
        rw [flat_ints]; unfold zeros; rw [List.map_replicate]; simpa using this⟩)
    have HG5 := Lib.hid (below_step HG4.out (below_new w4 (.cells (Array.replicate N (Value.int .i64 0)) 3)))
    have hgg : gm ≠ w4.heap.size := Nat.ne_of_lt hg2
    clear hmk hO4 HG4
    generalize w4.alloc (.cells (Array.replicate N (Value.int .i64 0)) 3) = w5 at *
    generalize w4.heap.size = gv at *
    go_wp2_with fail
    have HK := Lib.hid (Below.refl w5.heap.size w5)
    go_loopw [19] (fun i wr => ∃ (k : Nat) (mm mv : List Int), k ≤ N ∧ i = .int .i64 (k : Int) ∧ Hid (∀ j, k ≤ j → mm.getD j 0 = s.getD j 0) ∧ Hid (∀ j, j < k → mv.getD j 0 = s.getD j 0 + pickZ sf 1000) ∧ Hid (OwnI wr (w3.heap.size + 1) gm N cm mm) ∧ Hid (OwnI wr (w3.heap.size + 1) gv N N mv) ∧ Hid (Below w3.heap.size w3 wr)) (fun i _ => N - (intOf i).toNat)
    case atStart => exact ⟨0, s, zeros N, Nat.zero_le _, rfl, Lib.hid (fun _ _ => rfl), Lib.hid (fun _ h => by omega), HO, HOv, HG5⟩
    case round =>
      clear HO HOv HG5 HK
      obtain ⟨k, mm, mv, hk, rfl, HKm, HKv, HO, HOv, HB⟩ := hrel
      by_cases hlt : k < N
      · have k0 : (0 : Int) ≤ (k : Int) := by omega
        have k1 : (k : Int) < (N : Int) := by omega
        have x0 := HC.out wr HB.out k hlt
        obtain ⟨y0, y1⟩ := HOv.out.cell hlt
        have hbs := HSb.out k
        obtain ⟨sk, hsk⟩ : ∃ z, s.getD k 0 = z := ⟨_, rfl⟩
        rw [hsk] at x0 hbs
        have e1 : IntKind.i64.wrap (sk + pickZ sf 1000) = sk + pickZ sf 1000 := IntWalk.i64_in _ (by omega)
        generalize mv.getD k 0 = vk at *
        go_upto_region 15 with (fail)
        go_still_tail 10, (by kernel_rfl)
        repeat still_step
        still_call (HPs.out _)
        repeat still_step
        refine wpStill_nil ?_
        change wpList _ _ _ _ _ (World.drew _)
        go_upto_region 16 with (fail)
        obtain ⟨o1, o2⟩ := HOv.out.set k (sk + pickZ sf 1000)
        have HOv6 := Lib.hid o1.drew
        have HO6 := Lib.hid (HO.out.kept o2 (fun e => hgg (Option.some.inj e))).drew
        have HB6 := Lib.hid (HB.out.trans (((Below.refl w3.heap.size wr).mono (Nat.le_refl _)).grown o2 HB.out.size (fun kk e => by have e2 : gv = kk := Option.some.inj e; have := HOv.out.lt.1; omega))).drew
        have HKv6 := Lib.hid (show ∀ j, j < k + 1 → (mv.set k (sk + pickZ sf 1000)).getD j 0 = s.getD j 0 + pickZ sf 1000 from fun j hj => by
          rw [getD_set _ _ _ _ (by have := HOv.out.1; omega)]
          split
          · rename_i e; subst e; rw [hsk]
          · exact HKv.out j (by omega))
        have hmk : mm.getD k 0 = sk := by rw [HKm.out k (Nat.le_refl _), hsk]
        clear o1 o2 HOv HO HB HKv x0 y0 y1 e1 hsk
        generalize (wr.setCell ⟨gv, k, none⟩ (.int .i64 (sk + pickZ sf 1000))).drew = w6 at *
        generalize mv.set k (sk + pickZ sf 1000) = mv at *
        by_cases hlm : k < M.length
        · have k2 : (k : Int) < (M.length : Int) := by omega
          obtain ⟨mb, mo, rfl, hmb, hmc⟩ := (HM.out.below (below_step B3.out HB6.out)).at (by omega)
          have x0 := int_cell (hmc k hlm)
          rw [Nat.mul_one] at x0
          have HPk := Lib.hid (pick_is M[k] 50 (XM.out _ (List.getElem_mem hlm)) (by omega))
          have qk := pickZ_bd (c := M[k]) (n := 50) (by omega)
          clear hmc
          generalize M[k] = y at *
          obtain ⟨y0, y1⟩ := HO6.out.cell hlt
          rw [hmk] at y0
          generalize pickZ y 50 = z at *
          have e1 : IntKind.i64.wrap (sk + z) = sk + z := IntWalk.i64_in _ (by omega)
          have e2 : IntKind.i64.wrap (sk + z - 10) = sk + z - 10 := IntWalk.i64_in _ (by omega)
          go_upto_region 17 with (fail)
          go_still_tail 14, (by kernel_rfl)
          repeat still_step
          still_call (HPk.out _)
          repeat still_step
          refine wpStill_nil ?_
          change wpList _ _ _ _ _ (World.drew _)
          go_upto_region 14 with (fail)
          obtain ⟨o1, o2⟩ := HO6.out.set k (sk + z - 10)
          have HO7 := Lib.hid o1.drew
          have HOv7 := Lib.hid (HOv6.out.kept o2 (fun e => hgg (Option.some.inj e).symm)).drew
          have HB7 := Lib.hid (HB6.out.trans (((Below.refl w3.heap.size w6).mono (Nat.le_refl _)).grown o2 HB6.out.size (fun kk e => by have e2 : gm = kk := Option.some.inj e; have := HO6.out.lt.1; omega))).drew
          have HKm7 := Lib.hid (show ∀ j, k + 1 ≤ j → (mm.set k (sk + z - 10)).getD j 0 = s.getD j 0 from fun j hj => by
            rw [getD_set _ _ _ _ (by have := HO6.out.1; omega), if_neg (by omega)]
            exact HKm.out j (by omega))
          clear o1 o2 HOv6 HO6 HB6 x0 y0 y1 e1 e2 HKm
          generalize (w6.setCell ⟨gm, k, none⟩ (.int .i64 (sk + z - 10))).drew = w7 at *
          go_wp2_with fail
          go_roundw
          case rel => exact ⟨k + 1, _, _, hlt, by go_num, HKm7, HKv6, HO7, HOv7, HB7⟩
          case measure => simp [intOf]; omega
        · have k2 : ¬ (k : Int) < (M.length : Int) := by omega
          have HKm7 := Lib.hid (show ∀ j, k + 1 ≤ j → mm.getD j 0 = s.getD j 0 from fun j hj => HKm.out j (by omega))
          clear HKm
          go_wp2_with fail
          go_roundw
          case rel => exact ⟨k + 1, _, _, hlt, by go_num, HKm7, HKv6, HO6, HOv6, HB6⟩
          case measure => simp [intOf]; omega
      · have k1 : ¬ (k : Int) < (N : Int) := by omega
        have HV1 := Lib.hid (HVm.out mv HOv.out.1 (fun j hj => HKv.out j (by omega)))
        have HVl2 := Lib.hid (HVl.out mm)
        clear HKm HKv HVm HVl HM XM HPs
        rename World => wr
        go_wp2_with fail
        have HK := Lib.hid (Below.refl wr.heap.size wr)
        go_loopw [20, 21] (fun g i wk => ∃ (k : Nat) (lw : Bool), k ≤ N ∧ i = .int .i64 (k : Int) ∧ g = .bool lw ∧ Hid (lw = true → ∃ j, j < N ∧ mm.getD j 0 < s.getD j 0) ∧ Hid (Below wr.heap.size wr wk)) (fun _ i _ => N - (intOf i).toNat)
        case atStart => exact ⟨0, false, Nat.zero_le _, rfl, rfl, Lib.hid (fun h => by cases h), HK⟩
        case round =>
          clear HK
          rename World => wk
          obtain ⟨k, lw, hk, rfl, rfl, HLw, HBk⟩ := hrel
          by_cases hlt : k < N
          · have k0 : (0 : Int) ≤ (k : Int) := by omega
            have k1 : (k : Int) < (N : Int) := by omega
            cases lw with
            | true =>
              have HL2 := Lib.hid (HLw.out rfl)
              go_upto_region 22 with (fail)
              go_quiet (fail)
              go_wp2_with fail
              go_roundw
              case rel => exact ⟨k + 1, true, hlt, by go_num, rfl, Lib.hid (fun _ => HL2.out), Lib.hid (below_drewN HBk.out _)⟩
              case measure => simp [intOf]; omega
            | false =>
              have x0 := HC.out wk (below_step HB.out HBk.out) k hlt
              obtain ⟨y0, -⟩ := (HO.out.below HBk.out).cell hlt
              obtain ⟨sk, hsk⟩ : ∃ z, s.getD k 0 = z := ⟨_, rfl⟩
              obtain ⟨mk, hmk⟩ : ∃ z, mm.getD k 0 = z := ⟨_, rfl⟩
              rw [hsk] at x0
              rw [hmk] at y0
              by_cases hh : mk < sk
              · have HL2 := Lib.hid (show ∃ j, j < N ∧ mm.getD j 0 < s.getD j 0 from ⟨k, hlt, by rw [hsk, hmk]; exact hh⟩)
                clear hsk hmk
                go_upto_region 22 with (fail)
                go_quiet (fail)
                go_wp2_with fail
                go_roundw
                case rel => exact ⟨k + 1, true, hlt, by go_num, by go_simp, Lib.hid (fun _ => HL2.out), Lib.hid (below_drewN HBk.out _)⟩
                case measure => simp [intOf]; omega
              · clear hsk hmk
                go_upto_region 22 with (fail)
                go_quiet (fail)
                go_wp2_with fail
                go_roundw
                case rel => exact ⟨k + 1, false, hlt, by go_num, by go_simp, Lib.hid (fun h => by cases h), Lib.hid (below_drewN HBk.out _)⟩
                case measure => simp [intOf]; omega
          · have k1 : ¬ (k : Int) < (N : Int) := by omega
            have BB := Lib.hid (below_step HB.out HBk.out)
            have hmvl := HOv.out.1
            have hmml := HO.out.1
            have hVa := HVe.out mv (some ⟨gv, 0, none⟩) N wk BB.out (HOv.out.below HBk.out).arg
            rw [HV1.out, hmvl] at hVa
            have HVa := Lib.hid hVa
            have HVb := Lib.hid (fun (w' : World) (h : Below wk.heap.size wk w') => HVe.out mm (some ⟨gm, 0, none⟩) cm w' (below_step BB.out h) (HO.out.below (below_step HBk.out h)).arg)
            rw [hmml] at HVb
            clear hVa HVe hmvl hmml HOv HO
            cases lw with
            | true =>
              have hV2 := HVl2.out (HLw.out rfl)
              rw [hV2] at HVb
              clear hV2
              go_wp2_with fail
              refine HVa.out.mono ?_
              rintro _ w8 ⟨rfl, b8⟩
              have B8 := Lib.hid b8
              clear b8
              go_wp2_with fail
              refine (HVb.out w8 B8.out).mono ?_
              rintro _ w9 ⟨rfl, b9⟩
              have B9 := Lib.hid (below_step B3.out (below_step BB.out (below_step B8.out b9)))
              clear b9
              go_wp2_with fail
              go_ret
              exact ⟨rfl, B9.out⟩
            | false =>
              clear HVb
              go_wp2_with fail
              refine HVa.out.mono ?_
              rintro _ w8 ⟨rfl, b8⟩
              have B8 := Lib.hid (below_step B3.out (below_step BB.out b8))
              clear b8
              go_wp2_with fail
              go_ret
              exact ⟨rfl, B8.out⟩
end Go.Proofs.Ytkabjecdbkbpaaa
